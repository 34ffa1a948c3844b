package script_test

import (
	"slices"
	"testing"

	"afterglow/api"
	"afterglow/script"
)

// P3.3: the chapter's examples, and what lies beside them.
func TestRead(t *testing.T) {
	call := api.Call{Kind: 9, Args: [4]uint64{5, 6, 7, 8}}
	one, two := plain(1, 1), plain(2, 1)
	withPicks := func(s api.Script, picks ...int) api.Script {
		s.Picks = picks
		return s
	}
	withLists := func(s api.Script, lists ...[]api.Call) api.Script {
		s.Lists = lists
		return s
	}
	for _, c := range []struct {
		words []uint64
		want  api.Script
	}{
		{nil, one},
		{[]uint64{}, one},
		{[]uint64{0}, one},
		{[]uint64{263}, plain(8, 2)},
		{[]uint64{wholeWord}, plain(8, 64)},
		{[]uint64{1, 769, 9, 5, 6, 7, 8}, withLists(two, nil, []api.Call{call})},
		{[]uint64{1, 257, 9, 5, 6, 7, 8}, withLists(two, nil, []api.Call{call})},
		{[]uint64{1, 513, 9, 5, 6, 7, 8}, withLists(two, []api.Call{call}, nil)},
		{[]uint64{1, 131330}, withPicks(two, 1, 1, 1)},
		{[]uint64{1, 3, 0}, two},
		// The first word begins no record.
		{[]uint64{2}, plain(3, 1)},
		{[]uint64{1, 9, 5, 6, 7, 8, 0}, withLists(two, []api.Call{{Kind: 5, Args: [4]uint64{6, 7, 8}}}, nil)},
		{[]uint64{1, 9, 5, 6, 7, 8}, withPicks(two, 0)},
		// The words of a call begin none, whatever they have.
		{[]uint64{0, 1, 2, 2, 1, 1, 2, 2}, withPicks(withLists(one, []api.Call{{Kind: 2, Args: [4]uint64{2, 1, 1, 2}}}), 0)},
		// With four words behind it, it is none: that word alone is passed over.
		{[]uint64{0, 1, 2, 2, 2, 2}, withPicks(one, 0, 0, 0, 0)},
		{[]uint64{0, 1}, one},
		{[]uint64{0, 2, 1}, withPicks(one, 0)},
		{[]uint64{0, 1, 1, 9, 5, 6, 7, 8}, withLists(one, []api.Call{{Kind: 1, Args: [4]uint64{9, 5, 6, 7}}})},
		// Records of both kinds, in any order.
		{[]uint64{1, 258, 1, 9, 5, 6, 7, 8, 2, 257, 9, 5, 6, 7, 8, 258}, withPicks(withLists(two, []api.Call{call}, []api.Call{call}), 1, 0, 1)},
		// What a record has in other bits says nothing.
		{[]uint64{1, wholeWord - 2 - 7<<8, 9, 5, 6, 7, 8}, withLists(two, []api.Call{call}, nil)},
		{[]uint64{1, wholeWord - 1 - 6<<8 - 253<<16}, withPicks(two, 1, 1, 1)},
	} {
		mustBe(t, "Read", script.Read(c.words), c.want)
	}
}

// P3.3: CPUs and pages by their bits, whatever else the first word has.
func TestReadFirst(t *testing.T) {
	for cpus := range uint64(8) {
		for pages := range uint64(64) {
			for _, more := range []uint64{0, 1 << 3, 1 << 7, 31 << 3, 1 << 14, 1 << 16, 1 << 63, wholeWord &^ (7 + 63<<8)} {
				s := script.Read([]uint64{cpus + pages<<8 + more})
				mustBe(t, "Read of a first word", s, plain(int(cpus)+1, int(pages)+1))
			}
		}
	}
}

// P3.3: the CPU of a record is what is left, divided by the CPUs.
func TestReadCpu(t *testing.T) {
	for cpus := 1; cpus <= 8; cpus++ {
		for cpu := range 8 {
			head := uint64(cpu) << 8
			s := script.Read([]uint64{uint64(cpus - 1), head + 1, 3, 4, 5, 6, 7, head + 2})
			want := plain(cpus, 1)
			want.Lists[cpu%cpus] = []api.Call{{Kind: 3, Args: [4]uint64{4, 5, 6, 7}}}
			want.Picks = []int{cpu % cpus}
			mustBe(t, "Read of a CPU's", s, want)
		}
	}
}

// P3.3: how many words are behind a call, and what the last ones say then.
func TestReadCallEnds(t *testing.T) {
	for behind := range 12 {
		words := append([]uint64{0, 1}, slices.Repeat([]uint64{2}, behind)...)
		s := script.Read(words)
		want := plain(1, 1)
		if behind < 5 {
			want.Picks = make([]int, behind)
		} else {
			want.Lists[0] = []api.Call{{Kind: 2, Args: [4]uint64{2, 2, 2, 2}}}
			want.Picks = make([]int, behind-5)
		}
		mustBe(t, "Read of a call at the end", s, want)
		// The room behind the words says nothing.
		if roomy := append(words, 2, 2, 2, 2, 2, 2)[:len(words)]; !alike(script.Read(roomy), want) {
			t.Errorf("Read of %v with room: %v, not %v", words, script.Read(roomy), want)
		}
	}
}

// callWords are the words of calls of a CPU.
func callWords(cpu int, calls ...api.Call) []uint64 {
	var l []uint64
	for _, c := range calls {
		l = append(l, 1+uint64(cpu)<<8, c.Kind, c.Args[0], c.Args[1], c.Args[2], c.Args[3])
	}
	return l
}

// P3.3: of calls for which there is no room all six words are passed over; if too few are left, that word alone.
func TestReadManyCalls(t *testing.T) {
	for _, cpu := range []int{0, 1} {
		picky := api.Call{Kind: 2, Args: [4]uint64{2, 2, 2, 2}}
		words := []uint64{1}
		words = append(words, callWords(1, numberedCalls(0, 40)...)...)
		words = append(words, callWords(0, numberedCalls(40, 23)...)...)
		want := plain(2, 1)
		want.Lists[1], want.Lists[0] = numberedCalls(0, 40), numberedCalls(40, 23)
		mustBe(t, "Read of 63 calls", script.Read(words), want)
		words = append(words, callWords(cpu, numbered(63))...)
		want.Lists[cpu] = append(want.Lists[cpu], numbered(63))
		mustBe(t, "Read of 64 calls", script.Read(words), want)
		words = append(words, callWords(cpu, picky)...)
		mustBe(t, "Read of 65 calls", script.Read(words), want)
		words = append(words, callWords(1-cpu, picky, picky)...)
		words = append(words, 258)
		want.Picks = []int{1}
		mustBe(t, "Read of 67 calls", script.Read(words), want)
		words = append(words, 1, 2, 2, 2, 2)
		want.Picks = []int{1, 0, 0, 0, 0}
		mustBe(t, "Read of 67 calls, and too few words", script.Read(words), want)
	}
}

// P3.3: how many picks a word says.
func TestReadRuns(t *testing.T) {
	for less := range 256 {
		s := script.Read([]uint64{2, 2 + 2<<8 + uint64(less)<<16})
		want := plain(3, 1)
		want.Picks = slices.Repeat([]int{2}, less+1)
		mustBe(t, "Read of a run", s, want)
	}
}

// P3.3: picks end where there are as many as there may be; calls behind them are calls.
func TestReadManyPicks(t *testing.T) {
	for _, ahead := range []int{0, 1, 2, 255, 256} {
		for _, more := range []int{1, 2, 3, 255, 256} {
			words := append([]uint64{1}, slices.Repeat([]uint64{2 + 255<<16}, 15)...)
			if ahead > 0 {
				words = append(words, 2+uint64(ahead-1)<<16)
			}
			words = append(words, 258+uint64(more-1)<<16)
			words = append(words, callWords(1, numbered(5))...)
			want := plain(2, 1)
			want.Lists[1] = numberedCalls(5, 1)
			want.Picks = append(make([]int, 3840+ahead), slices.Repeat([]int{1}, min(more, 256-ahead))...)
			mustBe(t, "Read of many picks", script.Read(words), want)
			words = append(words, slices.Repeat([]uint64{2 + 255<<16}, 20)...)
			want.Picks = append(want.Picks, make([]int, 4096-len(want.Picks))...)
			mustBe(t, "Read of too many picks", script.Read(words), want)
		}
	}
}

// P3.3 and P3.5: any words, reckoned by dividing; what is read may be.
func TestReadMany(t *testing.T) {
	c := chance(33)
	for range 3000 {
		words := c.someWords(40)
		mustBe(t, "Read of some words", script.Read(words), says(words))
	}
	for range 100 {
		words := c.someWords(4000)
		mustBe(t, "Read of many words", script.Read(words), says(words))
	}
}

// P3.3: of very many words no more is read than there is room for.
func TestReadLong(t *testing.T) {
	for _, w := range []uint64{0, 1, 2, 3, wholeWord, wholeWord - 1, wholeWord - 2} {
		words := slices.Repeat([]uint64{w}, 200000)
		mustBe(t, "Read of 200000 times a word", script.Read(words), says(words))
	}
}

// P3.3: the words stay as they are, and are not kept; no two lists share memory.
func TestReadApart(t *testing.T) {
	s := full()
	words := wordsOf(s)
	given := append(slices.Clone(words), 1, 2, 3)[:len(words)]
	first, second := script.Read(given), script.Read(given)
	if !slices.Equal(given, words) || !slices.Equal(given[:len(words)+3][len(words):], []uint64{1, 2, 3}) {
		t.Error("the words are changed")
	}
	scrubRow(given, 77)
	scrub(first)
	mustBe(t, "what is read a second time", second, s)
	for cpu := range second.Lists {
		want := double(second)
		want.Lists[cpu] = append(want.Lists[cpu], numbered(5))
		grown := second
		grown.Lists = slices.Clone(second.Lists)
		grown.Lists[cpu] = append(grown.Lists[cpu], numbered(5))
		if !alike(grown, want) {
			t.Errorf("the list of the CPU %d reaches into another one", cpu)
		}
	}
}
