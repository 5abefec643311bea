package incr

import (
	"reflect"
	"testing"

	"delphi/api"
	"delphi/book"
	"delphi/growth"
	"delphi/search"
	"delphi/strata"
)

// started gives the upkeep of a live one at the moment when the base has changed and no stratum has been worked on.
func started(t *testing.T, text, base string, first func(*upkeep, api.Fact), f string) (*upkeep, []stratum) {
	t.Helper()
	l := live(t, rules(t, text), facts(t, base))
	u := newUpkeep(l.facts)
	u.countBase(l.rules)
	first(u, factOf(t, f))
	order, err := strata.Order(l.rules)
	if err != api.OK {
		t.Fatal(err)
	}
	var list []stratum
	for _, names := range order {
		list = append(list, stratum{names: names, rules: growth.RulesOf(l.rules, names)})
	}
	return u, list
}

// told gives a predicate's rows as facts.
func told(u *upkeep, s growth.Store, name string) string {
	var b book.Book
	b.Write(name, s.Set(name), u.Table)
	return show(b.All())
}

// One kind behind the other: a row that has lost a reason goes, though it has another one; then it comes back; then new ones come.
func TestKinds(t *testing.T) {
	const base = "e(a, b); e(b, d); e(a, c); e(c, d); e(d, f); n(a); n(b)"
	u, list := started(t, paths+" far(X) :- n(X), !t(X, d).", base, (*upkeep).retract, "e(a, b)")
	u.part("t")
	u.count("t")
	want := []string{
		"t(a, c) t(b, d) t(b, f) t(c, d) t(c, f) t(d, f)",
		"t(a, c) t(a, d) t(a, f) t(b, d) t(b, f) t(c, d) t(c, f) t(d, f)",
		"t(a, c) t(a, d) t(a, f) t(b, d) t(b, f) t(c, d) t(c, f) t(d, f)",
	}
	for i, k := range u.kinds() {
		var questions []search.Question
		for _, r := range list[0].rules {
			questions = append(questions, k.ask(r)...)
		}
		growth.Spread(list[0].rules, questions, k.take)
		if got := told(u, u.Rows, "t"); got != want[i] {
			t.Errorf("P15.1: behind the kind %d: %s; want %s", i, got, want[i])
		}
	}
	if got := told(u, u.gone, "t"); got != "t(a, b)" || u.came.Set("t").Len() != 0 || u.Size != 4+2+8 {
		t.Errorf("P15.1: gone: %s; came: %s; %d rows", got, told(u, u.came, "t"), u.Size)
	}
	if got := told(u, u.old, "t"); got != "t(a, b) t(a, c) t(a, d) t(a, f) t(b, d) t(b, f) t(c, d) t(c, f) t(d, f)" {
		t.Errorf("P15.1: the old rows became %s", got)
	}
}

func sameWork(a, b func(*upkeep, stratum)) bool {
	return reflect.ValueOf(a).Pointer() == reflect.ValueOf(b).Pointer()
}

// A stratum is worked on only if the change reaches it.
func TestWorkOn(t *testing.T) {
	const text = paths + " cut(X) :- n(X), !t(X, X). high(X) :- m(X), !cut(X)."
	const base = "e(a, b); e(b, c); n(a); n(c); m(a); m(b)"
	for _, c := range []struct {
		first func(*upkeep, api.Fact)
		fact  string
		want  []bool // which strata are renewed
	}{
		{(*upkeep).insert, "x(1)", []bool{false, false, false}},
		{(*upkeep).retract, "m(a)", []bool{false, false, true}},
		{(*upkeep).insert, "n(b)", []bool{false, true, true}},
		{(*upkeep).retract, "n(c)", []bool{false, true, true}},
		// The paths change, but none of them is a circle: what is cut stays as it was.
		{(*upkeep).insert, "e(c, d)", []bool{true, true, false}},
		{(*upkeep).insert, "e(c, a)", []bool{true, true, true}},
		// All paths are there already.
		{(*upkeep).insert, "e(a, c)", []bool{true, false, false}},
	} {
		u, list := started(t, text, base, c.first, c.fact)
		for i, s := range list {
			work := u.workOn(s)
			if got := sameWork(work, (*upkeep).renew); got != c.want[i] || got == sameWork(work, (*upkeep).leave) {
				t.Errorf("P15.1: %s: stratum %d is renewed: %t; want %t", c.fact, i, got, c.want[i])
			}
			work(u, s)
			for _, name := range s.names {
				if shares := u.Rows.Set(name) == u.old.Set(name); shares == c.want[i] && u.old.Set(name) != nil {
					t.Errorf("P15.1: %s: %s has the old rows: %t", c.fact, name, shares)
				}
			}
		}
		total := 0
		for _, rows := range u.Rows {
			total += rows.Len()
		}
		if u.Size != total {
			t.Errorf("P15.1: %s: %d rows count, of %d", c.fact, u.Size, total)
		}
	}
}
