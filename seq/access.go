package seq

import (
	"afterglow/api"
	"afterglow/memory"
)

// anew is m in memory of its own: behind a run of no accesses.
func anew(m api.Memory) (api.Memory, api.Errno) {
	m, _, errno := memory.Run(m)
	return m, errno
}

// access makes an access of a memory, and tells what it came to.
type access func(a api.Access) api.Got

// accesses makes accesses of m's own words. Each is made in a memory of that word alone, so that it costs no more where there are many; of a word that is not there, which is a fault, beside the last one.
func accesses(m *api.Memory) access {
	return func(a api.Access) api.Got {
		at := min(a.At, len(m.Words)-1)
		a.At -= at
		word := api.Memory{Words: m.Words[at : at+1], Live: m.Live[at : at+1], Fault: m.Fault}
		word, got, _ := memory.Step(word, a)
		m.Words[at], m.Fault = word.Words[0], word.Fault
		return got
	}
}

// load tells what a word holds, and whether that is no fault.
func (a access) load(at int) (uint64, bool) {
	got := a(api.Access{Kind: api.AcLoad, At: at})
	return got.Value, got.Done
}

// store says whether a word holds a value now; else it was a fault.
func (a access) store(at int, value uint64) bool {
	return a(api.Access{Kind: api.AcStore, At: at, New: value}).Done
}

// step does what stands in does at a phase, if anything stands there. What it answers is whether its access was no fault: behind a fault all is lost.
func step(phase *int, does map[int]func() bool) {
	do, has := does[*phase]
	if has && !do() {
		*phase = api.SqLost
	}
}
