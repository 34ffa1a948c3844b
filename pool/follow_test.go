package pool_test

import (
	"fmt"
	"slices"
	"testing"

	"afterglow/api"
	"afterglow/pool"
)

// rows are all rows of these pages, none of them twice, of at most three.
func rows(pages []int) [][]int {
	var l [][]int
	for _, a := range pages {
		l = append(l, []int{a})
		for _, b := range pages {
			if b == a {
				continue
			}
			l = append(l, []int{a, b})
			for _, c := range pages {
				if c != a && c != b {
					l = append(l, []int{a, b, c})
				}
			}
		}
	}
	return l
}

// reached are all pools that come of one, by whatever is taken and given.
func reached(t *testing.T, first api.Pool) []api.Pool {
	t.Helper()
	seen := map[string]bool{fmt.Sprint(first.Free): true}
	l := []api.Pool{first}
	for i := 0; i < len(l); i++ {
		p := l[i]
		var behind []api.Pool
		if len(p.Free) > 0 {
			q, _ := mustTake(t, p)
			behind = append(behind, q)
		}
		for _, pages := range rows(pool.Taken(p)) {
			behind = append(behind, mustGive(t, p, pages...))
		}
		for _, q := range behind {
			if name := fmt.Sprint(q.Free); !seen[name] {
				seen[name] = true
				l = append(l, q)
			}
		}
	}
	return l
}

// mustBeAll fails unless the free and the taken pages together are all, each once.
func mustBeAll(t *testing.T, p api.Pool, base, pages int) {
	t.Helper()
	l := slices.Concat(p.Free, pool.Taken(p))
	slices.Sort(l)
	want := down(pages)
	slices.Reverse(want)
	if !slices.Equal(l, want) || p.Base != base || p.Pages != pages || pool.Check(p) != api.OK {
		t.Fatalf("%v, with %v taken, is not all of %d pages", p, pool.Taken(p), pages)
	}
}

// P7.5: free and taken pages together are all, each once, whatever is taken and given; what is given is what is taken next.
func TestWhatever(t *testing.T) {
	for pages := range 5 {
		all := reached(t, mustNew(t, 48, pages))
		if want := []int{1, 2, 5, 16, 65}[pages]; len(all) != want {
			t.Fatalf("%d pools of %d pages are reached, not %d", len(all), pages, want)
		}
		for _, p := range all {
			mustBeAll(t, p, 48, pages)
			for _, row := range rows(pool.Taken(p)) {
				q := mustGive(t, p, row...)
				for _, want := range slices.Backward(row) {
					var page int
					if q, page = mustTake(t, q); page != want {
						t.Fatalf("%v was given, and %d is taken", row, page)
					}
				}
				if !pool.Same(q, p) {
					t.Fatalf("%v was given, and taken: %v, not %v", row, q, p)
				}
			}
		}
	}
}

// P7.5: the greatest pool, through many changes.
func TestGreat(t *testing.T) {
	var c chance
	p := mustNew(t, 3072, 64)
	for range 5000 {
		taken := pool.Taken(p)
		switch {
		case len(p.Free) > 0 && c.below(2) == 0:
			var page int
			if p, page = mustTake(t, p); slices.Contains(taken, page) {
				t.Fatalf("%d is taken, and was", page)
			}
		case len(taken) > 0:
			p = mustGive(t, p, taken[c.below(len(taken))])
		}
		mustBeAll(t, p, 3072, 64)
	}
}

// P7.5: no word is in two pages, and each page has 16 words.
func TestWords(t *testing.T) {
	var c chance
	for range 60 {
		p := c.somePool(64)
		of := map[int]int{}
		for page := range p.Pages {
			first, e := pool.Word(p, page)
			if e != api.OK {
				t.Fatalf("Word(%v, %d): %d", p, page, e)
			}
			for word := first; word < first+16; word++ {
				if other, had := of[word]; had || word < 0 || word >= 4096 {
					t.Fatalf("the word %d is of the page %d, and of %d", word, page, other)
				}
				of[word] = page
			}
		}
		for word := range 4096 {
			want, had := of[word]
			page, _, e := pool.Page(p, word)
			if had != (e == api.OK) || page != want {
				t.Fatalf("Page(%v, %d): %d, %d", p, word, page, e)
			}
		}
	}
}
