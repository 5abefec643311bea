package value

import (
	"strings"

	"delphi/api"
)

// Table is the chapter's. A zero one is empty.
type Table struct {
	terms []api.Term       // the constant of number id stands at id - 1
	ids   map[api.Term]int // the other way round
}

// New: see the chapter.
func New() *Table { return &Table{} }

// Id: see the chapter.
func (t *Table) Id(c api.Term) int {
	if t == nil || !May(c) {
		return 0
	}
	if id, ok := t.ids[c]; ok {
		return id
	}
	return t.add(c)
}

func (t *Table) add(c api.Term) int {
	// A word may be a piece of a long text, which must not be held for its sake.
	c.Name = strings.Clone(c.Name)
	if t.ids == nil {
		t.ids = make(map[api.Term]int)
	}
	t.terms = append(t.terms, c)
	t.ids[c] = len(t.terms)
	return len(t.terms)
}

// Term: see the chapter.
func (t *Table) Term(id int) api.Term {
	if id < 1 || id > t.Len() {
		return api.Term{}
	}
	return t.terms[id-1]
}

// Len: see the chapter.
func (t *Table) Len() int {
	if t == nil {
		return 0
	}
	return len(t.terms)
}
