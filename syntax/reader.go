package syntax

import (
	"strconv"

	"delphi/api"
	"delphi/lex"
	"delphi/value"
)

// reader goes through a text's words from the first to the last; each of its methods that reads a thing of the grammar stops at the first error.
type reader struct {
	words []lex.Word
	at    int
}

func open(text string) (*reader, api.Errno) {
	all, err := words(text)
	return &reader{words: all}, err
}

func (r *reader) done() bool { return r.at == len(r.words) }

// next gives the word that comes next, without taking it; behind the last one a word that fits nowhere.
func (r *reader) next() lex.Word {
	if r.done() {
		return lex.Word{Kind: fault}
	}
	return r.words[r.at]
}

// take takes the sign if it comes next.
func (r *reader) take(sign string) bool {
	if r.next().Text != sign {
		return false
	}
	r.at++
	return true
}

// only reads an atom of such terms, with or without a `.`, behind which nothing may stand.
func (r *reader) only(term func() (api.Term, api.Errno)) (api.Literal, api.Errno) {
	atom, err := r.atom(term)
	if err != api.OK {
		return api.Literal{}, err
	}
	r.take(".")
	if !r.done() {
		return api.Literal{}, api.ErrSyntax
	}
	return atom, api.OK
}

func (r *reader) clause() (api.Rule, api.Errno) {
	head, err := r.atom(r.term)
	if err != api.OK {
		return api.Rule{}, err
	}
	var body []api.Literal
	if r.take(":-") {
		body, err = list(r, api.MaxBody, r.literal)
		if err != api.OK {
			return api.Rule{}, err
		}
	}
	if !r.take(".") {
		return api.Rule{}, api.ErrSyntax
	}
	return api.Rule{Head: head, Body: body}, api.OK
}

func (r *reader) literal() (api.Literal, api.Errno) {
	if r.take("!") {
		atom, err := r.atom(r.term)
		if err != api.OK {
			return api.Literal{}, err
		}
		atom.Kind = api.LNot
		return atom, api.OK
	}
	if r.next().Kind == name && !r.comparedNext() {
		return r.atom(r.term)
	}
	return r.comparison()
}

// comparedNext tells whether behind the next word there is a comparison's sign.
func (r *reader) comparedNext() bool {
	behind := reader{words: r.words, at: r.at + 1}
	return kindOf(behind.next().Text) != 0
}

func (r *reader) comparison() (api.Literal, api.Errno) {
	left, err := r.term()
	if err != api.OK {
		return api.Literal{}, err
	}
	kind := kindOf(r.next().Text)
	if kind == 0 {
		return api.Literal{}, api.ErrSyntax
	}
	r.at++
	right, err := r.term()
	if err != api.OK {
		return api.Literal{}, err
	}
	return api.Literal{Kind: kind, Args: []api.Term{left, right}}, api.OK
}

func (r *reader) atom(term func() (api.Term, api.Errno)) (api.Literal, api.Errno) {
	word := r.next()
	if word.Kind != name {
		return api.Literal{}, api.ErrSyntax
	}
	r.at++
	if !r.take("(") {
		return api.Literal{Kind: api.LAtom, Name: word.Text}, api.OK
	}
	args, err := list(r, api.MaxArity, term)
	if err != api.OK {
		return api.Literal{}, err
	}
	if !r.take(")") {
		return api.Literal{}, api.ErrSyntax
	}
	return api.Literal{Kind: api.LAtom, Name: word.Text, Args: args}, api.OK
}

// list reads one item or several with a comma between; the one that is beyond the limit is read too, as an error within it comes first.
func list[T any](r *reader, limit int, item func() (T, api.Errno)) ([]T, api.Errno) {
	var items []T
	for {
		one, err := item()
		if err != api.OK {
			return nil, err
		}
		if len(items) == limit {
			return nil, api.ErrLimit
		}
		items = append(items, one)
		if !r.take(",") {
			return items, api.OK
		}
	}
}

func (r *reader) term() (api.Term, api.Errno) {
	if word := r.next(); word.Kind == variable {
		r.at++
		return api.Term{Kind: api.TVar, Name: word.Text}, api.OK
	}
	return r.constant()
}

func (r *reader) constant() (api.Term, api.Errno) {
	c := constantOf(r.next())
	if !value.May(c) {
		return api.Term{}, api.ErrSyntax
	}
	r.at++
	return c, api.OK
}

// constantOf gives what the word says as a constant; one that may not be, if it says none.
func constantOf(word lex.Word) api.Term {
	switch word.Kind {
	case name:
		return api.Term{Kind: api.TWord, Name: word.Text}
	case number:
		// A word has at most 16 bytes: it always fits.
		num, _ := strconv.ParseInt(word.Text, 10, 64)
		return api.Term{Kind: api.TInt, Num: num}
	}
	return api.Term{}
}
