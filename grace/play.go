package grace

import (
	"afterglow/api"
	"afterglow/reader"
)

// read takes readers, that have to be some.
func (t *turn) read(r api.Readers) {
	r, _, errno := reader.Run(r) // no steps: the readers as they are, in new memory
	must(errno)
	t.Readers = r
}

// enter has a CPU enter a section.
func (t *turn) enter(cpu int) {
	r, errno := reader.Enter(t.Readers, cpu)
	must(errno)
	t.Readers = r
}

// leave has a CPU leave one.
func (t *turn) leave(cpu int) {
	r, errno := reader.Leave(t.Readers, cpu)
	must(errno)
	t.Readers = r
}

// ask has a CPU ask for a period.
func (t *turn) ask(cpu int) {
	t.at(cpu)
	t.order()
}

// pick has a CPU be picked, quiet or not as the readers say.
func (t *turn) pick(cpu int) {
	t.picked(cpu, reader.Quiet(t.Readers, cpu))
}

// deeds are what the kinds of ticks do, by their numbers; of 0, that is no kind, there is none.
func deeds() [api.TiPick + 1]func(*turn, int) {
	return [...]func(*turn, int){
		api.TiEnter: (*turn).enter,
		api.TiLeave: (*turn).leave,
		api.TiAsk:   (*turn).ask,
		api.TiPick:  (*turn).pick,
	}
}

// is says whether a tick is of a kind.
func is(tick api.Tick) bool {
	return tick.Kind >= api.TiEnter && tick.Kind <= api.TiPick
}

// ticks makes ticks, one behind the other.
func (t *turn) ticks(l []api.Tick) {
	does := deeds()
	for _, tick := range l {
		if !is(tick) {
			panic(api.ErrTick)
		}
		does[tick.Kind](t, tick.Cpu)
	}
}

// Play: P12.5.
func Play(r api.Readers, g api.Grace, l ...api.Tick) (api.Readers, api.Grace, []int, api.Errno) {
	t, errno := tried(func(t *turn) {
		t.read(r)
		t.hold(g)
		if len(t.Nest) != len(t.Needs) {
			panic(api.ErrGrace)
		}
		t.ticks(l)
	})
	return t.Readers, t.Grace, t.numbers, errno
}
