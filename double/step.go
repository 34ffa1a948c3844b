package double

import (
	"afterglow/api"
	"afterglow/memory"
)

// word is one so many behind a place.
type word struct {
	place, behind uint64
}

// at is where it stands. A place that is too great is taken for MaxWords: neither is there, nor what is behind.
func (w word) at() int {
	return int(min(w.place, api.MaxWords) + w.behind)
}

// access makes a step. It is made in a memory of that word alone, so that it costs no more where there are many; of a word that is not there, which is a fault, beside the last one.
func (r *run) access(a api.Access) api.Got {
	at := min(a.At, len(r.Words)-1)
	a.At -= at
	alone := api.Memory{Words: r.Words[at : at+1], Live: r.Live[at : at+1], Fault: r.Fault}
	alone, got, _ := memory.Step(alone, a)
	r.Words[at], r.Fault = alone.Words[0], alone.Fault
	r.steps++
	return got
}

// change is one who changes a list, and the run in which it does.
type change struct {
	api.TwinEdit
	in *run
}

// access makes a step, and goes on to a phase, if that was no fault.
func (c *change) access(a api.Access, next int) api.Got {
	got := c.in.access(a)
	c.Phase = api.TwLost
	if got.Done {
		c.Phase = next
	}
	return got
}

// load puts what a word holds into one of its fields.
func (c *change) load(w word, into *uint64, next int) {
	if got := c.access(api.Access{Kind: api.AcLoad, At: w.at()}, next); got.Done {
		*into = got.Value
	}
}

func (c *change) store(w word, n uint64, next int) {
	c.access(api.Access{Kind: api.AcStore, At: w.at(), New: n}, next)
}

// fromAhead is the word that leads to where it changes from ahead.
func (c *change) fromAhead() word {
	if c.Prev == 0 {
		return word{c.Head, firstWord}
	}
	return word{c.Prev, nextWord}
}

// fromBehind is the word that leads there from behind.
func (c *change) fromBehind() word {
	if c.Next == 0 {
		return word{c.Head, lastWord}
	}
	return word{c.Next, aheadWord}
}

// to is where such a word leads then: past a node that goes, or to one that comes.
func (c *change) to(past uint64) uint64 {
	if c.Cuts {
		return past
	}
	return c.Node.At
}

func (c *change) storeKey() { c.store(word{c.Node.At, keyWord}, c.Node.Key, api.TwValue) }

func (c *change) storeValue() { c.store(word{c.Node.At, valueWord}, c.Node.Value, api.TwLoad) }

func (c *change) loadNext() { c.load(c.fromAhead(), &c.Next, api.TwNext) }

func (c *change) storeNext() { c.store(word{c.Node.At, nextWord}, c.Next, api.TwPrev) }

func (c *change) storePrev() { c.store(word{c.Node.At, aheadWord}, c.Prev, api.TwLink) }

func (c *change) loadBehind() { c.load(word{c.Node.At, nextWord}, &c.Next, api.TwAhead) }

func (c *change) loadAhead() { c.load(word{c.Node.At, aheadWord}, &c.Prev, api.TwLink) }

func (c *change) link() { c.store(c.fromAhead(), c.to(c.Next), api.TwTurn) }

func (c *change) turn() { c.store(c.fromBehind(), c.to(c.Prev), api.TwOver) }

// rest makes no step.
func (c *change) rest() {}

// changing is what each phase does.
func changing() [api.TwLost + 1]func(*change) {
	return [...]func(*change){
		api.TwKey:    (*change).storeKey,
		api.TwValue:  (*change).storeValue,
		api.TwLoad:   (*change).loadNext,
		api.TwNext:   (*change).storeNext,
		api.TwPrev:   (*change).storePrev,
		api.TwBehind: (*change).loadBehind,
		api.TwAhead:  (*change).loadAhead,
		api.TwLink:   (*change).link,
		api.TwTurn:   (*change).turn,
		api.TwOver:   (*change).rest,
		api.TwLost:   (*change).rest,
	}
}

// step makes the step of one who changes, if there is one.
func (c *change) step() {
	changing()[c.Phase](c)
}

// Step: P16.3.
func Step(m api.Memory, s api.TwinEdit) (api.Memory, api.TwinEdit, api.Errno) {
	r, errno := begin(m)
	if errno == api.OK && (s.Phase < api.TwKey || s.Phase > api.TwLost) {
		errno = api.ErrTwin
	}
	if errno != api.OK {
		return api.Memory{}, api.TwinEdit{}, errno
	}
	c := change{TwinEdit: s, in: &r}
	c.step()
	return r.Memory, c.TwinEdit, api.OK
}
