package model

import (
	"delphi/api"
	"delphi/book"
	"delphi/growth"
	"delphi/search"
	"delphi/value"
)

// maker makes a model, stratum by stratum.
type maker struct {
	growth.Growth
}

func newMaker(facts []api.Fact) *maker {
	m := &maker{growth.Growth{Table: value.New(), Rows: make(growth.Store)}}
	for _, f := range facts {
		m.Add(f.Name, book.RowOf(f, m.Table))
	}
	return m
}

// fill brings all rows that the rules of a stratum give: what the strata below have, then, again and again, what the last new rows lead to.
func (m *maker) fill(rules []api.Rule) {
	var questions []search.Question
	for _, r := range rules {
		questions = append(questions, search.Question{Rule: r, At: search.None})
	}
	growth.Spread(rules, questions, m.Grow)
}

func (m *maker) model() *Model {
	made := &Model{}
	for name, rows := range m.Rows {
		made.facts.Write(name, rows, m.Table)
	}
	return made
}
