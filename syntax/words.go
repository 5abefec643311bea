package syntax

import (
	"sort"

	"delphi/api"
	"delphi/lex"
)

// Kinds of words, as lex numbers them; fault is none of its own: it stands in the place of the first word that lex refuses, and fits nowhere in the grammar.
const (
	fault    = 0
	name     = 1
	variable = 2
	number   = 3
)

// words gives text's words up to the first that is none: what stands ahead of that one may hold an error that comes first.
func words(text string) ([]lex.Word, api.Errno) {
	all, err := lex.Scan(text)
	if err == api.ErrSyntax {
		return append(ahead(text), lex.Word{Kind: fault}), api.OK
	}
	return all, err
}

// ahead gives the words that stand ahead of text's first fault, text having one.
func ahead(text string) []lex.Word {
	end := good(text)
	found, _ := lex.Scan(text[:end])
	if last := len(found) - 1; last >= 0 && goesOn(found[last], text, end) {
		return found[:last]
	}
	return found
}

// good gives the size of the longest beginning of text, which has a fault, that has none.
func good(text string) int {
	// A beginning may cut a good word of several bytes behind its first, as `:-`, but then the next longer one is good: of two that are bad the fault lies in both, and in all longer ones.
	bad := sort.Search(len(text), func(size int) bool { return !scans(text[:size]) && !scans(text[:size+1]) })
	return bad - 1
}

func scans(text string) bool {
	_, err := lex.Scan(text)
	return err == api.OK
}

// goesOn tells whether w, the last word of text[:end], is only the beginning of one that is too long.
func goesOn(w lex.Word, text string, end int) bool {
	if len(w.Text) < api.MaxName || w.At+len(w.Text) < end {
		return false
	}
	// With its last byte left out there is room for the next one: is it still one word?
	found, err := lex.Scan(text[w.At:end-1] + text[end:end+1])
	return err == api.OK && len(found) == 1
}
