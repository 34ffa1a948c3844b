package spin

import (
	"iter"

	"afterglow/api"
	"afterglow/memory"
)

// play is a memory that changes, and where those are who want locks in it.
type play struct {
	api.Memory
	places []api.Spin
}

// begin is a play that shares nothing with what is handed in: a run of no accesses is the memory anew.
func begin(m api.Memory, l ...api.Spin) (*play, api.Errno) {
	m, _, errno := memory.Run(m)
	if errno != api.OK {
		return nil, errno
	}
	for _, s := range l {
		if errno := Check(s); errno != api.OK {
			return nil, errno
		}
	}
	places := make([]api.Spin, len(l))
	copy(places, l)
	return &play{Memory: m, places: places}, api.OK
}

// step makes the step of one, if it has one. The play was checked, and stays one that may be: no errors come of it.
func (p *play) step(who int) {
	a, has := Need(p.places[who])
	if !has {
		return
	}
	var g api.Got
	p.Memory, g, _ = memory.Step(p.Memory, a)
	p.places[who], _ = Take(p.places[who], g)
}

// turn makes the step of one who is picked.
func (p *play) turn(who int) {
	if free, errno := Leave(p.places[who]); errno == api.OK {
		p.places[who] = free
	}
	p.step(who)
}

// picked is the place of the first pick, from one on, of somebody there who is not done; behind the picks if there is none.
func (p *play) picked(picks []int, from int) int {
found:
	for from < len(picks) {
		switch who := picks[from]; {
		case who < 0 || who >= len(p.places), p.places[who].Phase == api.SpDone:
			from++
		default:
			break found
		}
	}
	return from
}

// holders makes all picks, each by a turn, and tells who comes into SpHeld. Who was in it ahead of its turn has left it behind that.
func (p *play) holders(turn func(who int), picks []int) iter.Seq[int] {
	return func(yield func(int) bool) {
		for at := p.picked(picks, 0); at < len(picks); at = p.picked(picks, at+1) {
			who := picks[at]
			turn(who)
			if p.places[who].Phase == api.SpHeld && !yield(who) {
				return
			}
		}
	}
}

// Step: P5.3.
func Step(m api.Memory, s api.Spin) (api.Memory, api.Spin, api.Errno) {
	p, errno := begin(m, s)
	if errno != api.OK {
		return api.Memory{}, api.Spin{}, errno
	}
	p.step(0)
	return p.Memory, p.places[0], api.OK
}

// Play: P5.4.
func Play(m api.Memory, l []api.Spin, picks ...int) (api.Memory, []api.Spin, []int, api.Errno) {
	p, errno := begin(m, l...)
	if errno != api.OK {
		return api.Memory{}, nil, nil, errno
	}
	var held []int
	for who := range p.holders(p.turn, picks) {
		held = append(held, who)
	}
	return p.Memory, p.places, held, api.OK
}
