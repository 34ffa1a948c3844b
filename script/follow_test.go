package script_test

import (
	"slices"
	"testing"

	"afterglow/api"
	"afterglow/script"
)

// P3.5: Read of Of is the script.
func TestReadOfOf(t *testing.T) {
	c := chance(35)
	l := []api.Script{full(), plain(1, 1), plain(8, 64)}
	for range 300 {
		l = append(l, c.someScript())
	}
	for _, s := range l {
		words, e := script.Of(s)
		if e != api.OK {
			t.Fatalf("Of(%v): %d", s, e)
		}
		back := script.Read(words)
		mustBe(t, "Read of Of", back, s)
		if !script.Same(back, s) {
			t.Errorf("Read of Of of %v: %v", s, back)
		}
	}
}

// P3.5: what any words say may be, and has words that say it.
func TestOfOfRead(t *testing.T) {
	c := chance(36)
	for range 2000 {
		words := c.someWords(200)
		s := script.Read(words)
		if e := script.Check(s); e != api.OK {
			t.Fatalf("Read(%v): %v may not be: %d", words, s, e)
		}
		again, e := script.Of(s)
		if e != api.OK || !script.Same(script.Read(again), s) {
			t.Fatalf("Read(%v): %v, %d, and not again", words, s, e)
		}
	}
}

// records are the words of each record of a script's words.
func records(words []uint64) [][]uint64 {
	var l [][]uint64
	for at := 1; at < len(words); {
		many := 1
		if words[at]%4 == 1 {
			many = 6
		}
		l = append(l, words[at:at+many])
		at += many
	}
	return l
}

// P3.5: words that are passed over, put in between, change nothing.
func TestPassedOver(t *testing.T) {
	c := chance(37)
	for range 300 {
		s := c.someScript()
		words := wordsOf(s)
		said := words[:1:1]
		for _, r := range records(words) {
			for range c.below(4) {
				said = append(said, c.word()&^3|uint64(3*c.below(2)))
			}
			said = append(said, r...)
		}
		said = append(said, 0, 3)
		for range c.below(5) {
			said = append(said, c.word()&^3|1)
		}
		mustBe(t, "Read with words in between", script.Read(said), s)
	}
}

// P3.5: so do calls and picks for which there is no room.
func TestNoRoom(t *testing.T) {
	c := chance(38)
	s := full()
	all := records(wordsOf(s))
	calls, picks := all[:64], all[64:]
	for range 30 {
		said := append([]uint64{263 + 62<<8}, slices.Concat(calls...)...)
		for _, r := range picks {
			if c.below(9) == 0 {
				said = append(said, callWords(c.below(8), c.someCall())...)
			}
			said = append(said, r...)
		}
		said = append(said, 2, callWords(3, c.someCall())[0], 2, 2+255<<16)
		mustBe(t, "Read with more than there is room for", script.Read(said), s)
	}
}

// P3.5: the runs, one behind the other, are the picks.
func TestRunsJoined(t *testing.T) {
	c := chance(39)
	for range 300 {
		picks := c.somePicks(1+c.below(8), 5000)
		var joined []int
		last := [2]int{-1, 0}
		for _, run := range script.Runs(picks) {
			if run[1] < 1 || run[1] > 256 {
				t.Errorf("a run of %d", run[1])
			}
			if run[0] == last[0] && last[1] != 256 {
				t.Errorf("a run of %d, and another one of it behind", last[1])
			}
			joined = append(joined, slices.Repeat([]int{run[0]}, run[1])...)
			last = run
		}
		if !slices.Equal(joined, picks) {
			t.Fatalf("the runs of %v are %v", picks, joined)
		}
	}
}
