// Package book keeps facts in their order, and turns them into rows of a table's numbers and back.
package book

import (
	"maps"
	"slices"
	"strings"

	"delphi/api"
	"delphi/relation"
	"delphi/value"
)

// Book holds the facts of each predicate that has some, rising. A nil one has none.
type Book map[string][]api.Fact

// Names gives the predicates that have facts, rising.
func (b Book) Names() []string {
	return slices.Sorted(maps.Keys(b))
}

// Facts gives those of a predicate.
func (b Book) Facts(name string) []api.Fact {
	return appendCopies(nil, b[name])
}

// All gives those of all predicates, by names.
func (b Book) All() []api.Fact {
	var all []api.Fact
	for _, name := range b.Names() {
		all = appendCopies(all, b[name])
	}
	return all
}

func appendCopies(list, facts []api.Fact) []api.Fact {
	for _, f := range facts {
		list = append(list, api.Fact{Name: f.Name, Args: slices.Clone(f.Args)})
	}
	return list
}

// Len counts the facts.
func (b Book) Len() int {
	n := 0
	for _, facts := range b {
		n += len(facts)
	}
	return n
}

// Has says whether a fact is there.
func (b Book) Has(f api.Fact) bool {
	facts := b[f.Name]
	at, _ := slices.BinarySearchFunc(facts, f, Compare)
	// A term that may not be stands nowhere in the order: it may seem to stand where another one does.
	return at < len(facts) && slices.EqualFunc(facts[at].Args, f.Args, value.Eq)
}

// Compare orders the facts of one predicate.
func Compare(a, b api.Fact) int {
	return slices.CompareFunc(a.Args, b.Args, compareTerms)
}

func compareTerms(a, b api.Term) int {
	switch {
	case value.Less(a, b):
		return -1
	case value.Less(b, a):
		return 1
	}
	return 0
}

// Write lays a predicate's rows down in the place of the facts that it has.
func (b *Book) Write(name string, rows *relation.Set, t *value.Table) {
	if rows.Len() == 0 {
		delete(*b, name)
		return
	}
	if *b == nil {
		*b = make(Book)
	}
	// A name may be a piece of a long text, which must not be held for its sake.
	own := strings.Clone(name)
	var facts []api.Fact
	for _, r := range rows.All() {
		facts = append(facts, factOf(own, r, t))
	}
	// The table's numbers say nothing of the order, for they are as constants came.
	slices.SortFunc(facts, Compare)
	(*b)[own] = facts
}

func factOf(name string, r relation.Row, t *value.Table) api.Fact {
	f := api.Fact{Name: name}
	for _, id := range r {
		f.Args = append(f.Args, t.Term(id))
	}
	return f
}

// RowOf gives a fact's row: the table's numbers of its constants.
func RowOf(f api.Fact, t *value.Table) relation.Row {
	row := make(relation.Row, len(f.Args))
	for i, c := range f.Args {
		row[i] = t.Id(c)
	}
	return row
}
