package reader_test

import (
	"testing"

	"afterglow/api"
	"afterglow/reader"
)

// P11.3: whether the CPU is there, and in no section.
func TestQuiet(t *testing.T) {
	for cpu, want := range []bool{false, true, false} {
		if got := reader.Quiet(sound(), cpu); got != want {
			t.Errorf("Quiet(%v, %d): %v", sound(), cpu, got)
		}
	}
	for cpus := 1; cpus <= 8; cpus++ {
		r := mustNew(t, cpus)
		for cpu := range cpus {
			in := mustRun(t, r, enter(cpu))
			if !reader.Quiet(r, cpu) || reader.Quiet(in, cpu) || !reader.Quiet(mustRun(t, in, leave(cpu)), cpu) || reader.Quiet(mustRun(t, in, enter(cpu), leave(cpu)), cpu) {
				t.Errorf("Quiet of the CPU %d of %d", cpu, cpus)
			}
		}
		for _, cpu := range noCpus(cpus) {
			if (cpu < 0 || cpu >= cpus) && reader.Quiet(r, cpu) {
				t.Errorf("Quiet(%v, %d)", r, cpu)
			}
		}
	}
}

// P11.3: the steps from 0 to Now, up to the one ahead of the first section that is still open; no others.
func TestPassed(t *testing.T) {
	quiet := api.Readers{Now: 9, Nest: []int{0, 0}, Opened: []int{0, 0}}
	great := api.Readers{Now: 2147483647, Nest: []int{0, 3}, Opened: []int{0, 2147483647}}
	for _, c := range []struct {
		r    api.Readers
		step int
		want bool
	}{
		{sound(), 0, true}, {sound(), 1, true}, {sound(), 2, true}, {sound(), 3, false}, {sound(), 4, false}, {sound(), 7, false}, {sound(), 9, false}, {sound(), 10, false}, {sound(), -1, false},
		{quiet, 0, true}, {quiet, 1, true}, {quiet, 9, true}, {quiet, 10, false}, {quiet, -1, false},
		{mustNew(t, 1), 0, true}, {mustNew(t, 1), 1, false}, {mustNew(t, 1), -1, false},
		{great, 0, true}, {great, 2147483646, true}, {great, 2147483647, false}, {great, 2147483648, false},
	} {
		if got := reader.Passed(c.r, c.step); got != c.want {
			t.Errorf("Passed(%v, %d): %v", c.r, c.step, got)
		}
	}
	for _, step := range edges() {
		if reader.Passed(sound(), step) || reader.Passed(quiet, step) || reader.Passed(great, step) {
			t.Errorf("Passed(.., %d)", step)
		}
	}
}

// P11.3: the least Opened, at whichever CPU that is; nothing, if all are quiet.
func TestOldest(t *testing.T) {
	for _, c := range []struct {
		r    api.Readers
		want int
		ok   bool
	}{
		{sound(), 3, true},
		{changed(func(r *api.Readers) { r.Opened[0] = 1 }), 1, true},
		{changed(func(r *api.Readers) { r.Nest[1], r.Opened[1] = 1, 2 }), 2, true},
		{changed(func(r *api.Readers) { r.Nest[2], r.Opened[2] = 0, 0 }), 7, true},
		{api.Readers{Now: 9, Nest: []int{0, 0}, Opened: []int{0, 0}}, 0, false},
		{api.Readers{Now: 2147483647, Nest: []int{0, 3}, Opened: []int{0, 2147483647}}, 2147483647, true},
		{api.Readers{Now: 8, Nest: []int{1, 1, 1, 1, 1, 1, 1, 1}, Opened: []int{8, 7, 6, 5, 4, 3, 2, 1}}, 1, true},
		{mustNew(t, 1), 0, false},
		{mustNew(t, 8), 0, false},
	} {
		if at, ok := reader.Oldest(c.r); at != c.want || ok != c.ok {
			t.Errorf("Oldest(%v): %d, %v, not %d, %v", c.r, at, ok, c.want, c.ok)
		}
	}
}

// P11.3: what any readers tell, behind any steps, as it is told otherwise.
func TestTellPlain(t *testing.T) {
	var c chance
	for range 4000 {
		p := c.somePlain(50)
		r := p.readers()
		oldest := 0
		for cpu := -2; cpu < 11; cpu++ {
			in := cpu >= 0 && cpu < len(p.open) && len(p.open[cpu]) > 0
			if want := cpu >= 0 && cpu < len(p.open) && !in; reader.Quiet(r, cpu) != want {
				t.Fatalf("Quiet(%v, %d): not %v", r, cpu, want)
			}
			if in && (oldest == 0 || p.open[cpu][0] < oldest) {
				oldest = p.open[cpu][0]
			}
		}
		if at, ok := reader.Oldest(r); at != oldest || ok != (oldest != 0) {
			t.Fatalf("Oldest(%v): %d, %v, not %d", r, at, ok, oldest)
		}
		for step := -3; step < p.now+4; step++ {
			if reader.Passed(r, step) != p.passed(step) {
				t.Fatalf("Passed(%v, %d): not %v", r, step, p.passed(step))
			}
		}
	}
}
