// Package search finds the rows of a rule's head: all of them, as join tells them, or no more than are enough to see that they are too many.
package search

import (
	"slices"

	"delphi/api"
	"delphi/plan"
	"delphi/relation"
	"delphi/value"
)

// None is no place of a literal: to plan it says that no literal goes ahead by choice.
const None = -1

// Store gives the sets that a rule's atoms are asked of.
type Store interface {
	Set(name string) *relation.Set
}

// Question is what is asked: a rule over a store's sets, with a table's numbers for constants.
type Question struct {
	Rule  api.Rule
	Table *value.Table
	Store Store
	At    int           // the place of the body's atom that is asked of Delta; None: all are the store's
	Delta *relation.Set // what the store has in the place of At
	Most  int           // so many rows are enough
}

// Rows gives the rows of the head for which the body holds, each once, rising; if they are more than Most, only so many of them. A rule that is not safe has none, and so has a place At that is no atom's.
func Rows(q Question) []relation.Row {
	p, ok := plan.Make(q.Rule, q.At)
	if !ok {
		return nil
	}
	number(q.Rule.Body, q.Table)
	b := newBody(q.Rule, p.Order, q.Table)
	b.ask(q)
	if b.lacks() {
		return nil
	}
	var parts []bindings
	for _, places := range b.parts() {
		found := b.solve(places, q.Most)
		if len(found.rows) == 0 {
			return nil
		}
		// A part that has none of the head's variables had only to hold.
		if len(found.vars) > 0 {
			parts = append(parts, found)
		}
	}
	rows := headRows(q.Rule.Head, q.Table, parts, q.Most)
	slices.SortFunc(rows, slices.Compare[relation.Row])
	return rows
}

// number lets the body's constants come to the table, from the left.
func number(body []api.Literal, t *value.Table) {
	for _, l := range body {
		for _, term := range l.Args {
			t.Id(term)
		}
	}
}

// setOf gives the store's set. A store that panics (one that is a nil pointer, say) has none.
func setOf(s Store, name string) (set *relation.Set) {
	if s == nil {
		return nil
	}
	defer func() {
		if recover() != nil {
			set = nil
		}
	}()
	return s.Set(name)
}

// fitting gives no set where none can have the literal's width, so that nobody goes through a long list of terms for each row.
func fitting(l api.Literal, set *relation.Set) *relation.Set {
	if len(l.Args) > api.MaxArity {
		return nil
	}
	return set
}
