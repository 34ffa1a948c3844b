package memory

import "afterglow/api"

// access is an access, with what each kind of it does to the word that it is of, and whether that is done.
type access struct{ api.Access }

func (a access) load([]uint64) bool { return true }

func (a access) store(word []uint64) bool {
	word[0] = a.New
	return true
}

func (a access) swap(word []uint64) bool {
	return word[0] == a.Old && a.store(word)
}

// deeds are what the kinds do, by their numbers; of 0, that is no kind, there is none.
func deeds() [api.AcSwap + 1]func(access, []uint64) bool {
	return [...]func(access, []uint64) bool{
		api.AcLoad:  access.load,
		api.AcStore: access.store,
		api.AcSwap:  access.swap,
	}
}

// is says whether the access is of a kind.
func (a access) is() bool {
	return a.Kind >= api.AcLoad && a.Kind <= api.AcSwap
}

// on makes the access of m's own words; a fault is written down there.
func (a access) on(m *api.Memory) api.Got {
	if !there(*m, a.At, 1) || !m.Live[a.At] {
		m.Fault = true
		return api.Got{}
	}
	word := cut(m.Words, a.At, 1)
	held := word[0]
	return api.Got{Value: held, Done: deeds()[a.Kind](a, word)}
}

// Step: P2.3.
func Step(m api.Memory, a api.Access) (api.Memory, api.Got, api.Errno) {
	m, got, errno := Run(m, a)
	if errno != api.OK {
		return api.Memory{}, api.Got{}, errno
	}
	return m, got[0], api.OK
}

// Run: P2.3. The memory is copied once, not for each access.
func Run(m api.Memory, l ...api.Access) (api.Memory, []api.Got, api.Errno) {
	if errno := Check(m); errno != api.OK {
		return api.Memory{}, nil, errno
	}
	if !every(l, func(_ int, a api.Access) bool { return access{a}.is() }) {
		return api.Memory{}, nil, api.ErrAccess
	}
	m = double(m)
	got := make([]api.Got, len(l))
	for i, a := range l {
		got[i] = access{a}.on(&m)
	}
	return m, got, api.OK
}
