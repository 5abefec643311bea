// Package growth lets rows become more by rules, round by round, until nothing is new or they are too many.
package growth

import (
	"slices"

	"delphi/api"
	"delphi/relation"
	"delphi/search"
	"delphi/value"
)

// Growth is rows that become more.
type Growth struct {
	Table *value.Table // whose numbers the rows are
	Rows  Store
	Size  int // how many rows count
}

// Add lets a row come, and says whether it is new.
func (g *Growth) Add(name string, r relation.Row) bool {
	isNew := g.Rows.Add(name, r)
	if isNew {
		g.Size++
	}
	return isNew
}

// Remove lets a row go, and says whether it was there.
func (g *Growth) Remove(name string, r relation.Row) bool {
	wasThere := g.Rows.Remove(name, r)
	if wasThere {
		g.Size--
	}
	return wasThere
}

// Full says whether the rows are too many.
func (g *Growth) Full() bool { return g.Size > api.MaxRows }

// Grow adds the rows that the question has, and gives the new ones. Where the rows are too many, others change nothing any more: none comes.
func (g *Growth) Grow(q search.Question) []relation.Row {
	if g.Full() {
		return nil
	}
	name := q.Rule.Head.Name
	q.Table, q.Store, q.Most = g.Table, g.Rows, g.enough(name)
	var news []relation.Row
	for _, r := range search.Rows(q) {
		if g.Add(name, r) {
			news = append(news, r)
		}
	}
	return news
}

// enough tells how many rows of a predicate are too many, with those of the others: a rule may have far too many to find them all.
func (g *Growth) enough(name string) int {
	others := g.Size - g.Rows.Set(name).Len()
	return api.MaxRows + 1 - others
}

// Spread lets take do the questions, and then, again and again, those of what its last new rows lead to by the rules.
func Spread(rules []api.Rule, questions []search.Question, take func(search.Question) []relation.Row) {
	for len(questions) > 0 {
		news := make(Store)
		for _, q := range questions {
			for _, r := range take(q) {
				news.Add(q.Rule.Head.Name, r)
			}
		}
		questions = follow(rules, news)
	}
}

// follow asks what the rows lead to.
func follow(rules []api.Rule, news Store) []search.Question {
	var questions []search.Question
	for _, r := range rules {
		for at, l := range r.Body {
			if delta := news.Set(l.Name); l.Kind == api.LAtom && delta != nil {
				questions = append(questions, search.Question{Rule: r, At: at, Delta: delta})
			}
		}
	}
	return questions
}

// RulesOf gives the rules that define one of the names.
func RulesOf(rules []api.Rule, names []string) []api.Rule {
	var list []api.Rule
	for _, r := range rules {
		if slices.Contains(names, r.Head.Name) {
			list = append(list, r)
		}
	}
	return list
}
