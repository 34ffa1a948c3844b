package reader_test

import (
	"slices"
	"testing"

	"afterglow/api"
	"afterglow/reader"
)

// mustHold fails unless readers may be, and all steps are passed just if all CPUs are quiet, and otherwise those ahead of the oldest section.
func mustHold(t *testing.T, r api.Readers) {
	t.Helper()
	if e := reader.Check(r); e != api.OK {
		t.Fatalf("Check(%v): %d", r, e)
	}
	quiet, passed := true, true
	for cpu := range r.Nest {
		quiet = quiet && reader.Quiet(r, cpu)
	}
	oldest, ok := reader.Oldest(r)
	for step := range r.Now + 1 {
		if reader.Passed(r, step) != (!ok || step < oldest) {
			t.Fatalf("%v: Passed(%d): %v; Oldest: %d, %v", r, step, reader.Passed(r, step), oldest, ok)
		}
		passed = passed && reader.Passed(r, step)
	}
	if passed != quiet || ok == quiet {
		t.Fatalf("%v: all steps are passed: %v; all CPUs are quiet: %v; Oldest: %v", r, passed, quiet, ok)
	}
}

// mustFollow fails unless a CPU's step is counted, what was passed stays so, and all other CPUs are as they were.
func mustFollow(t *testing.T, r, q api.Readers, o api.Reading) {
	t.Helper()
	if q.Now != r.Now+1 {
		t.Fatalf("%v, behind %v: %v", r, o, q)
	}
	for step := range r.Now + 1 {
		if reader.Passed(r, step) && !reader.Passed(q, step) {
			t.Fatalf("%v, behind %v: %v: the step %d was passed", r, o, q, step)
		}
	}
	for cpu := range r.Nest {
		if cpu != o.Cpu && (q.Nest[cpu] != r.Nest[cpu] || q.Opened[cpu] != r.Opened[cpu] || reader.Quiet(q, cpu) != reader.Quiet(r, cpu)) {
			t.Fatalf("%v, behind %v: %v: another CPU is not as it was", r, o, q)
		}
	}
}

// mustComeBack fails unless what is entered, and left, is as it was, but for Now, also with others' steps between.
func mustComeBack(t *testing.T, r api.Readers) {
	t.Helper()
	for cpu, nest := range r.Nest {
		for deep := 1; deep <= 8-nest; deep++ {
			l := append(slices.Repeat([]api.Reading{enter(cpu)}, deep), slices.Repeat([]api.Reading{leave(cpu)}, deep)...)
			q := mustRun(t, r, l...)
			want := told(r)
			want.Now += 2 * deep
			if !alike(q, want) {
				t.Fatalf("%v, entered and left by %d, %d deep: %v", r, cpu, deep, q)
			}
		}
		other := (cpu + 1) % len(r.Nest)
		if other == cpu || nest == 8 || r.Nest[other] == 0 {
			continue
		}
		want := mustRun(t, r, leave(other))
		want.Now += 2
		if q := mustRun(t, r, enter(cpu), leave(other), leave(cpu)); !alike(q, want) {
			t.Fatalf("%v, entered and left by %d, and left by %d: %v", r, cpu, other, q)
		}
	}
}

// P11.4: all readers that come of new ones, by all steps.
func TestWhatever(t *testing.T) {
	for _, c := range []struct{ cpus, deep int }{{1, 12}, {2, 8}, {3, 5}, {8, 3}} {
		l := []api.Readers{mustNew(t, c.cpus)}
		for range c.deep {
			var behind []api.Readers
			for _, r := range l {
				mustHold(t, r)
				mustComeBack(t, r)
				for cpu := range c.cpus {
					for _, o := range []api.Reading{enter(cpu), leave(cpu)} {
						if q, _, e := reader.Run(r, o); e == api.OK {
							mustFollow(t, r, q, o)
							behind = append(behind, q)
						} else if e != api.ErrNone && e != api.ErrFull || o.Enter != (r.Nest[cpu] == 8) {
							t.Fatalf("%v, behind %v: %d", r, o, e)
						}
					}
				}
			}
			l = behind
		}
		if len(l) < 100 {
			t.Errorf("of %d CPUs there are %d readers, %d steps on", c.cpus, len(l), c.deep)
		}
	}
}

// P11.4: any readers, through long rows of steps, and out again.
func TestRows(t *testing.T) {
	var c chance
	for range 60 {
		p := plainNew(1 + c.below(8))
		r := mustNew(t, len(p.open))
		for range 200 {
			o := c.reading(len(p.open))
			q, _, e := reader.Run(r, o)
			if want := p.step(o); e != want {
				t.Fatalf("%v, behind %v: %d, not %d", r, o, e, want)
			}
			if e != api.OK {
				continue
			}
			mustFollow(t, r, q, o)
			mustHold(t, q)
			mustComeBack(t, q)
			r = q
		}
		now := r.Now
		for cpu, nest := range r.Nest {
			now += nest
			r = mustRun(t, r, slices.Repeat([]api.Reading{leave(cpu)}, nest)...)
		}
		mustHold(t, r)
		want := mustNew(t, len(p.open))
		want.Now = now
		if !alike(r, want) {
			t.Fatalf("all have left: %v", r)
		}
	}
}

// P11.4: steps of several CPUs, in whatever order, come to the same for each CPU, but for the steps' numbers.
func TestOrders(t *testing.T) {
	var c chance
	for range 500 {
		p := c.somePlain(30)
		r := p.readers()
		rows := make([][]api.Reading, len(p.open))
		for cpu := range rows {
			for range c.below(6) {
				o := c.reading(1)
				o.Cpu = cpu
				if p.step(o) == api.OK {
					rows[cpu] = append(rows[cpu], o)
				}
			}
		}
		behind := mustRun(t, r, slices.Concat(rows...)...)
		var mixed []api.Reading
		for left := slices.Concat(rows...); len(mixed) < len(left); {
			if cpu := c.below(len(rows)); len(rows[cpu]) > 0 {
				mixed, rows[cpu] = append(mixed, rows[cpu][0]), rows[cpu][1:]
			}
		}
		q := mustRun(t, r, mixed...)
		if q.Now != behind.Now || !slices.Equal(q.Nest, behind.Nest) {
			t.Fatalf("%v, behind %v: %v, not %v", r, mixed, q, behind)
		}
		for cpu, opened := range q.Opened {
			if old := r.Opened[cpu]; (opened == old) != (behind.Opened[cpu] == old) || (opened == 0) != (q.Nest[cpu] == 0) {
				t.Fatalf("%v, behind %v: %v, not %v", r, mixed, q, behind)
			}
		}
	}
}
