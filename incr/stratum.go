package incr

import (
	"slices"

	"delphi/api"
	"delphi/growth"
	"delphi/relation"
	"delphi/search"
)

// stratum is the predicates that are brought up to date together, and the rules that define them.
type stratum struct {
	names []string
	rules []api.Rule
}

// kind is a kind of rules' upkeep: what it asks of a rule, and what it does with the rows that a question has, and with those that they lead to. What take gives is what was new to it.
type kind struct {
	ask  func(r api.Rule) []search.Question
	take func(q search.Question) []relation.Row
}

// kinds gives all of them, in their order: first go all rows that have lost one of their reasons, then those come back that have another one, then those come that have a new one.
func (u *upkeep) kinds() []kind {
	return []kind{
		{ask: u.losses, take: u.lose},
		{ask: u.returns, take: u.gain},
		{ask: u.gains, take: u.gain},
	}
}

// workOn gives the work that a stratum needs, whose own predicates nothing has changed yet.
func (u *upkeep) workOn(s stratum) func(*upkeep, stratum) {
	for _, r := range s.rules {
		if slices.ContainsFunc(r.Body, u.touches) {
			return (*upkeep).renew
		}
	}
	return (*upkeep).leave
}

func (u *upkeep) touches(l api.Literal) bool { return u.changed(l.Name) }

// leave lets a stratum be as it was.
func (u *upkeep) leave(s stratum) {
	for _, name := range s.names {
		u.count(name)
	}
}

// renew brings a stratum up to date.
func (u *upkeep) renew(s stratum) {
	for _, name := range s.names {
		u.part(name)
		u.count(name)
	}
	for _, k := range u.kinds() {
		var questions []search.Question
		for _, r := range s.rules {
			questions = append(questions, k.ask(r)...)
		}
		growth.Spread(s.rules, questions, k.take)
	}
}

// losses asks for the rows that the rule gave by what is not so any more.
func (u *upkeep) losses(r api.Rule) []search.Question {
	return deltas(r, u.gone, u.came)
}

// gains asks for the rows that the rule gives by what was not so before.
func (u *upkeep) gains(r api.Rule) []search.Question {
	return deltas(r, u.came, u.gone)
}

// returns asks which of the rows that went the rule gives all the same: the head, as an atom of the body, lets these alone pass.
func (u *upkeep) returns(r api.Rule) []search.Question {
	body := append([]api.Literal{r.Head}, r.Body...)
	return appendDelta(nil, api.Rule{Head: r.Head, Body: body}, 0, u.gone)
}

// deltas asks for the rows that the rule has by one of the rows of plain in an atom, or by one of negated in a negated atom.
func deltas(r api.Rule, plain, negated growth.Store) []search.Question {
	var questions []search.Question
	for at, l := range r.Body {
		switch l.Kind {
		case api.LAtom:
			questions = appendDelta(questions, r, at, plain)
		case api.LNot:
			questions = appendDelta(questions, affirmed(r, at), at, negated)
		}
	}
	return questions
}

// appendDelta asks the rule's atom at that place of the store, if this has rows for it.
func appendDelta(questions []search.Question, r api.Rule, at int, from growth.Store) []search.Question {
	delta := from.Set(r.Body[at].Name)
	if delta.Len() == 0 {
		return questions
	}
	return append(questions, search.Question{Rule: r, At: at, Delta: delta})
}

// affirmed gives the rule with its negated atom at that place as an atom.
func affirmed(r api.Rule, at int) api.Rule {
	body := slices.Clone(r.Body)
	body[at].Kind = api.LAtom
	return api.Rule{Head: r.Head, Body: body}
}

// lose lets the rows go that the question had ahead of the change. All of them were there: so they are not more than their predicate had.
func (u *upkeep) lose(q search.Question) []relation.Row {
	name := q.Rule.Head.Name
	q.Table, q.Store, q.Most = u.Table, u.old, u.old.Set(name).Len()
	var lost []relation.Row
	for _, r := range search.Rows(q) {
		if u.drop(name, r) {
			lost = append(lost, r)
		}
	}
	return lost
}

// gain lets the rows come that the question has now.
func (u *upkeep) gain(q search.Question) []relation.Row {
	news := u.Grow(q)
	for _, r := range news {
		u.noteCame(q.Rule.Head.Name, r)
	}
	return news
}
