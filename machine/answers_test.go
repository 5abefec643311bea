package machine

import (
	"testing"

	"delphi/api"
)

// spoilReply, spoilFacts and spoilRules write into an answer, its spare room too.
func spoilReply(r api.Reply) { clear(r.Rows[:cap(r.Rows)]) }

func spoilFacts(facts []api.Fact) {
	for _, f := range facts {
		clear(f.Args[:cap(f.Args)])
	}
	clear(facts[:cap(facts)])
}

func spoilLiteral(l api.Literal) { clear(l.Args[:cap(l.Args)]) }

func spoilRules(rules []api.Rule) {
	for _, r := range rules {
		spoilLiteral(r.Head)
		for _, l := range r.Body {
			spoilLiteral(l)
		}
		clear(r.Body[:cap(r.Body)])
	}
	clear(rules[:cap(rules)])
}

// Replies are new memory: at first, again, as the client's last, and of Ask.
func TestRepliesAreNew(t *testing.T) {
	const text, want = "t(X, Y)", "0 false t(a, b)|t(a, c)|t(b, c)"
	m := known(t)
	c := api.Command{Kind: api.CQuery, Client: 2, Seq: 7, Text: text}
	answers := map[string]func() api.Reply{
		"Apply": func() api.Reply { return m.Apply(c) },
		"Last":  func() api.Reply { _, r := m.Last(2); return r },
		"Ask":   func() api.Reply { return m.Ask(text) },
	}
	first := m.Apply(c)
	for spoilt, answer := range answers {
		kept := map[string]api.Reply{}
		for name, other := range answers {
			kept[name] = other()
		}
		spoilReply(first)
		spoilReply(answer())
		for name, other := range answers {
			if got := told(kept[name]); got != want {
				t.Errorf("P0.3: writing into an answer of %s made one of %s that was there %s", spoilt, name, got)
			}
			if got := told(other()); got != want {
				t.Errorf("P0.3: writing into an answer of %s made the next one of %s %s", spoilt, name, got)
			}
		}
	}
}

func TestListsAreNew(t *testing.T) {
	m := known(t)
	before := state(m)
	rules, base, all := m.Rules(), m.Base(), m.All()
	told := showRules(rules) + " ; " + show(base) + " ; " + show(all)
	spoilRules(m.Rules())
	spoilFacts(m.Base())
	spoilFacts(m.All())
	if got := state(m); got != before {
		t.Errorf("P0.3: writing into answers made %s of %s", got, before)
	}
	if got := showRules(rules) + " ; " + show(base) + " ; " + show(all); got != told {
		t.Errorf("P0.3: writing into answers made others %s; they were %s", got, told)
	}
	spoilFacts(base)
	if got := show(all); got != show(m.All()) {
		t.Errorf("P0.3: writing into Base made All %s", got)
	}
	a := &asker{T: t, m: m, client: 2}
	a.gives(api.CQuery, "far(X)", "0 false far(d)")
	a.gives(api.CInsert, "e(c, d)", changes)
	a.gives(api.CQuery, "far(X)", stays)
}

// Machines know nothing of one another.
func TestMachinesAreApart(t *testing.T) {
	first, second := known(t), known(t)
	before := state(second)
	a := &asker{T: t, m: first, client: 1, seq: 5}
	a.gives(api.CRetract, "e(a, b)", changes)
	a.gives(api.CInstall, "u(X) :- n(X).", changes)
	if got := state(second); got != before {
		t.Errorf("P0.5: another machine's commands made %s of %s", got, before)
	}
}
