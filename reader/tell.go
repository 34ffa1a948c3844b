package reader

import "afterglow/api"

// oldest is the least step with which somebody came into the outermost section, of readers that may be; 0, which is no step's number, if nobody is in one.
func oldest(r api.Readers) int {
	least := 0
	ahead := func(step int) bool {
		return least == 0 || step < least
	}
	for _, s := range sections(r) {
		if ahead(s.opened) {
			least = s.opened
		}
	}
	return least
}

// Quiet: P11.3.
func Quiet(r api.Readers, cpu int) bool {
	return may(r) && has(r, cpu) && r.Nest[cpu] == 0
}

// Passed: P11.3.
func Passed(r api.Readers, step int) bool {
	if !may(r) || step < 0 || step > r.Now {
		return false
	}
	since := oldest(r)
	return since == 0 || since > step
}

// Oldest: P11.3.
func Oldest(r api.Readers) (int, bool) {
	if !may(r) {
		return 0, false
	}
	since := oldest(r)
	return since, since != 0
}
