package model

import (
	"maps"
	"slices"
	"strings"

	"delphi/api"
	"delphi/relation"
	"delphi/search"
	"delphi/value"
)

// store holds the rows of predicates; one without rows has no set.
type store map[string]*relation.Set

// Set gives the rows of a predicate.
func (s store) Set(name string) *relation.Set { return s[name] }

func (s store) add(name string, r relation.Row) bool {
	if s[name] == nil {
		s[name] = relation.New(len(r))
	}
	return s[name].Add(r)
}

// maker makes a model, stratum by stratum.
type maker struct {
	table *value.Table
	rows  store
	size  int // rows in all
}

func newMaker(facts []api.Fact) *maker {
	m := &maker{table: value.New(), rows: make(store)}
	for _, f := range facts {
		row := make(relation.Row, len(f.Args))
		for i, c := range f.Args {
			row[i] = m.table.Id(c)
		}
		m.add(f.Name, row)
	}
	return m
}

func (m *maker) add(name string, r relation.Row) bool {
	isNew := m.rows.add(name, r)
	if isNew {
		m.size++
	}
	return isNew
}

// full says whether the rows are too many. No row goes again: what else there may be changes nothing then.
func (m *maker) full() bool { return m.size > api.MaxRows }

// fill brings all rows that the rules of a stratum give: what the strata below have, then, again and again, what the last new rows lead to.
func (m *maker) fill(rules []api.Rule) {
	news := make(store)
	for _, r := range rules {
		m.take(search.Question{Rule: r, At: search.None}, news)
	}
	for len(news) > 0 && !m.full() {
		news = m.follow(rules, news)
	}
}

// follow takes the rows that the last new ones lead to, and gives those of them that are new.
func (m *maker) follow(rules []api.Rule, last store) store {
	news := make(store)
	for _, r := range rules {
		for at, l := range r.Body {
			if delta := last.Set(l.Name); l.Kind == api.LAtom && delta != nil {
				m.take(search.Question{Rule: r, At: at, Delta: delta}, news)
			}
		}
	}
	return news
}

// take adds the rows that the question has, the new ones to news as well.
func (m *maker) take(q search.Question, news store) {
	if m.full() {
		return
	}
	name := q.Rule.Head.Name
	q.Table, q.Store, q.Most = m.table, m.rows, m.enough(name)
	for _, r := range search.Rows(q) {
		if m.add(name, r) {
			news.add(name, r)
		}
	}
}

// enough tells how many rows of a predicate make the model full, with those of the others: a rule may have far too many to find them all.
func (m *maker) enough(name string) int {
	others := m.size - m.rows.Set(name).Len()
	return api.MaxRows + 1 - others
}

func (m *maker) model() *Model {
	made := &Model{facts: make(map[string][]api.Fact)}
	for _, name := range slices.Sorted(maps.Keys(m.rows)) {
		// A name may be a piece of a long text, which must not be held for its sake.
		own := strings.Clone(name)
		made.names = append(made.names, own)
		made.facts[own] = m.factsOf(own)
	}
	return made
}

// factsOf gives a predicate's facts, rising. The table's numbers say nothing of the order, for they are as constants came.
func (m *maker) factsOf(name string) []api.Fact {
	var facts []api.Fact
	for _, r := range m.rows.Set(name).All() {
		f := api.Fact{Name: name}
		for _, id := range r {
			f.Args = append(f.Args, m.table.Term(id))
		}
		facts = append(facts, f)
	}
	slices.SortFunc(facts, compareFacts)
	return facts
}
