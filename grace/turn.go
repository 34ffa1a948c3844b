package grace

import "afterglow/api"

// turn is readers, and a grace, in memory of their own, that change; and the numbers of the periods that were asked for meanwhile. What can't be done leaves it by a panic of its error.
type turn struct {
	api.Readers
	api.Grace
	numbers []int
}

// tried is a turn behind what it does; or an empty one, and the error with which it was left.
func tried(does func(*turn)) (t turn, errno api.Errno) {
	defer func() {
		if wrong := recover(); wrong != nil {
			t, errno = turn{}, wrong.(api.Errno)
		}
	}()
	does(&t)
	return t, api.OK
}

// must leaves with an error, if there is one.
func must(errno api.Errno) {
	if errno != api.OK {
		panic(errno)
	}
}

// hold takes a grace, that has to be one.
func (t *turn) hold(g api.Grace) {
	must(Check(g))
	needs := make([]bool, len(g.Needs))
	copy(needs, g.Needs)
	g.Needs = needs
	t.Grace = g
}

// at asks for a CPU that is there.
func (t *turn) at(cpu int) {
	if !has(t.Grace, cpu) {
		panic(api.ErrArg)
	}
}

// order asks for the next period that has not begun yet.
func (t *turn) order() {
	period := t.Done + 1
	if t.On {
		period++ // who asks now may be in a section since the one began that is on
	}
	if period > last {
		panic(api.ErrFull)
	}
	t.Asked = period
	t.numbers = append(t.numbers, period)
}

// begin lets the period begin that is asked for.
func (t *turn) begin() {
	switch {
	case t.On:
		panic(api.ErrThere)
	case t.Asked == t.Done:
		panic(api.ErrNone)
	}
	t.On = true
	for cpu := range t.Needs {
		t.Needs[cpu] = true
	}
}

// report says that a CPU has been quiet; with the last one that was needed the period is over.
func (t *turn) report(cpu int) {
	t.at(cpu)
	if !t.On {
		panic(api.ErrNone)
	}
	over := all(needed(t.Grace), func(who int) bool { return who == cpu })
	t.Needs[cpu] = false
	if over {
		t.Done++
		t.On = false
	}
}

// picked does what a CPU that is picked can do.
func (t *turn) picked(cpu int, quiet bool) {
	t.at(cpu)
	switch {
	case t.On && quiet:
		t.report(cpu)
	case !t.On && t.Asked > t.Done:
		t.begin()
	}
}

// Ask: P12.2.
func Ask(g api.Grace) (api.Grace, int, api.Errno) {
	t, errno := tried(func(t *turn) {
		t.hold(g)
		t.order()
	})
	if errno != api.OK {
		return api.Grace{}, 0, errno
	}
	return t.Grace, t.numbers[0], api.OK
}

// Begin: P12.3.
func Begin(g api.Grace) (api.Grace, api.Errno) {
	t, errno := tried(func(t *turn) {
		t.hold(g)
		t.begin()
	})
	return t.Grace, errno
}

// Report: P12.3.
func Report(g api.Grace, cpu int) (api.Grace, api.Errno) {
	t, errno := tried(func(t *turn) {
		t.hold(g)
		t.report(cpu)
	})
	return t.Grace, errno
}

// Pick: P12.4.
func Pick(g api.Grace, cpu int, quiet bool) (api.Grace, api.Errno) {
	t, errno := tried(func(t *turn) {
		t.hold(g)
		t.picked(cpu, quiet)
	})
	return t.Grace, errno
}
