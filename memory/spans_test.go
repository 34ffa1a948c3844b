package memory_test

import (
	"slices"
	"testing"

	"afterglow/api"
	"afterglow/memory"
)

// P2.4: rows of live words, the chapter's example among them.
func TestSpans(t *testing.T) {
	for text, want := range map[string][][2]int{
		".":        nil,
		"x":        nil,
		".x.x":     nil,
		"0":        {{0, 1}},
		"0.":       {{0, 1}},
		".0":       {{1, 1}},
		"00":       {{0, 2}},
		"..0x9...": {{2, 1}, {4, 1}},
		"1.1x11":   {{0, 1}, {2, 1}, {4, 2}},
		"123..45.": {{0, 3}, {5, 2}},
		".12345.6": {{1, 5}, {7, 1}},
	} {
		for _, m := range []api.Memory{spell(text), faulty(spell(text)), roomy(spell(text))} {
			if l := memory.Spans(m); !slices.Equal(l, want) {
				t.Errorf("Spans(%s): %v, not %v", text, l, want)
			}
		}
	}
}

// P2.4: of all small memories, word by word: a word is live, if it is in a row; rows are in order, with a free word between two.
func TestSpansAll(t *testing.T) {
	for _, text := range smallMemories() {
		m := spell(text)
		l := memory.Spans(m)
		in := make([]bool, len(text))
		behind := -1
		for _, row := range l {
			if row[1] < 1 || row[0] <= behind || row[0]+row[1] > len(text) {
				t.Fatalf("Spans(%s): %v", text, l)
			}
			for i := row[0]; i < row[0]+row[1]; i++ {
				in[i] = true
			}
			behind = row[0] + row[1]
		}
		if !slices.Equal(in, m.Live) {
			t.Errorf("Spans(%s): %v", text, l)
		}
	}
}

// P2.4: the greatest memory: all of it, and every other word.
func TestSpansMost(t *testing.T) {
	m, _ := memory.New(api.MaxWords)
	all, _ := memory.Live(m, 0, api.MaxWords)
	if l := memory.Spans(all); !slices.Equal(l, [][2]int{{0, api.MaxWords}}) {
		t.Errorf("Spans of all: %v", l)
	}
	var want [][2]int
	for i := 1; i < api.MaxWords; i += 2 {
		m.Live[i] = true
		want = append(want, [2]int{i, 1})
	}
	if l := memory.Spans(m); !slices.Equal(l, want) {
		t.Errorf("Spans of every other one: %v", l)
	}
}

// P2.4: what is told is of its own each time.
func TestSpansApart(t *testing.T) {
	m := spell("11.1")
	first, second := memory.Spans(m), memory.Spans(m)
	first[0], first[1] = [2]int{9, 9}, [2]int{9, 9}
	if want := [][2]int{{0, 2}, {3, 1}}; !slices.Equal(second, want) || !slices.Equal(memory.Spans(m), want) {
		t.Errorf("Spans: %v", second)
	}
}
