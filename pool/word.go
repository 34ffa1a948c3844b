package pool

import "afterglow/api"

// owner makes the question which page of p has a word, and how many words of that page stand ahead.
func owner(p api.Pool) func(word int) (page, ahead int, had bool) {
	end := p.Base + p.Pages*api.PageWords
	return func(word int) (int, int, bool) {
		if word < p.Base || word >= end {
			return 0, 0, false
		}
		from := word - p.Base
		return from / api.PageWords, from % api.PageWords, true
	}
}

// Word: P7.3.
func Word(p api.Pool, page int) (int, api.Errno) {
	switch {
	case Check(p) != api.OK:
		return 0, api.ErrPool
	case !has(p, page):
		return 0, api.ErrArg
	}
	return p.Base + page*api.PageWords, api.OK
}

// Page: P7.3.
func Page(p api.Pool, word int) (int, int, api.Errno) {
	if Check(p) != api.OK {
		return 0, 0, api.ErrPool
	}
	page, ahead, had := owner(p)(word)
	if !had {
		return 0, 0, api.ErrArg
	}
	return page, ahead, api.OK
}
