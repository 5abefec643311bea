package growth

import (
	"slices"
	"testing"

	"delphi/api"
	"delphi/relation"
	"delphi/search"
	"delphi/syntax"
	"delphi/value"
)

func rules(t *testing.T, text string) []api.Rule {
	t.Helper()
	l, err := syntax.Program(text)
	if err != api.OK {
		t.Fatalf("%s: %d", text, err)
	}
	return l
}

// counted gives a growth whose table has the numbers from 1 on as its first n constants, and no rows.
func counted(n int) *Growth {
	g := &Growth{Table: value.New(), Rows: make(Store)}
	for i := range n {
		g.Table.Id(api.Term{Kind: api.TInt, Num: int64(i + 1)})
	}
	return g
}

func sameRows(a, b []relation.Row) bool {
	return slices.EqualFunc(a, b, func(x, y relation.Row) bool { return slices.Equal(x, y) })
}

func TestStore(t *testing.T) {
	s := make(Store)
	if s.Set("p") != nil || s.Remove("p", relation.Row{1}) {
		t.Error("an empty store has rows")
	}
	first, again, other := s.Add("p", relation.Row{1}), s.Add("p", relation.Row{1}), s.Add("p", relation.Row{2})
	if !first || again || !other || s.Set("p").Len() != 2 {
		t.Errorf("added: %t, %t, %t; %d rows", first, again, other, s.Set("p").Len())
	}
	if s.Add("p", relation.Row{1, 2}) || s.Remove("p", relation.Row{1, 2}) {
		t.Error("a row of another width is there")
	}
	gone, twice := s.Remove("p", relation.Row{1}), s.Remove("p", relation.Row{1})
	if !gone || twice || !sameRows(s.Set("p").All(), []relation.Row{{2}}) {
		t.Errorf("removed: %t, %t; %v", gone, twice, s.Set("p").All())
	}
}

func TestSize(t *testing.T) {
	g := counted(0)
	g.Add("p", relation.Row{1})
	g.Add("p", relation.Row{1})
	g.Add("q", relation.Row{1, 1})
	if g.Size != 2 {
		t.Errorf("size %d behind two rows", g.Size)
	}
	g.Remove("p", relation.Row{1})
	g.Remove("p", relation.Row{1})
	g.Remove("r", relation.Row{1})
	if g.Size != 1 {
		t.Errorf("size %d behind one row", g.Size)
	}
}

func TestGrow(t *testing.T) {
	g := counted(3)
	g.Add("e", relation.Row{1, 2})
	g.Add("e", relation.Row{2, 3})
	g.Add("t", relation.Row{1, 2})
	r := rules(t, "t(X, Y) :- e(X, Y).")[0]
	if news := g.Grow(search.Question{Rule: r, At: search.None}); !sameRows(news, []relation.Row{{2, 3}}) || g.Size != 4 {
		t.Errorf("new: %v; size %d", news, g.Size)
	}
	if news := g.Grow(search.Question{Rule: r, At: search.None}); len(news) != 0 || g.Size != 4 {
		t.Errorf("new once more: %v; size %d", news, g.Size)
	}
}

// So many rows as may be are not too many; of more, one that shows it is enough.
func TestGrowUntilFull(t *testing.T) {
	for _, c := range []struct {
		width, others, size int
		full                bool
	}{
		{31, 8, 31 + 8 + 961, false},
		{31, 9, api.MaxRows + 1, true},
		{32, 0, api.MaxRows + 1, true},
		{90, 10, api.MaxRows + 1, true},
	} {
		g := counted(c.width)
		for i := range c.width {
			g.Add("n", relation.Row{i + 1})
		}
		for i := range c.others {
			g.Add("m", relation.Row{i + 1})
		}
		g.Grow(search.Question{Rule: rules(t, "pair(X, Y) :- n(X), n(Y).")[0], At: search.None})
		if g.Full() != c.full || g.Size != c.size {
			t.Errorf("%d by %d, and %d: size %d, full %t", c.width, c.width, c.others, g.Size, g.Full())
		}
		if news := g.Grow(search.Question{Rule: rules(t, "two(X) :- n(X).")[0], At: search.None}); c.full && len(news) > 0 {
			t.Errorf("%d by %d: %d rows more than too many", c.width, c.width, len(news))
		}
	}
}

// What a round brings is what the next one asks of, until a round brings nothing.
func TestSpread(t *testing.T) {
	g := counted(4)
	for i := range 3 {
		g.Add("e", relation.Row{i + 1, i + 2})
	}
	list := rules(t, "t(X, Y) :- e(X, Y). t(X, Z) :- t(X, Y), e(Y, Z). u(X) :- !t(X, X), e(X, Y).")[:2]
	var rounds []int
	take := func(q search.Question) []relation.Row {
		news := g.Grow(q)
		rounds = append(rounds, len(news))
		return news
	}
	Spread(list, []search.Question{{Rule: list[0], At: search.None}}, take)
	if !slices.Equal(rounds, []int{3, 2, 1, 0}) {
		t.Errorf("new rows by rounds: %v", rounds)
	}
	want := []relation.Row{{1, 2}, {1, 3}, {1, 4}, {2, 3}, {2, 4}, {3, 4}}
	if got := g.Rows.Set("t").All(); !sameRows(got, want) {
		t.Errorf("rows %v", got)
	}
	Spread(list, nil, func(search.Question) []relation.Row {
		t.Error("none was asked, and one is answered")
		return nil
	})
}

// A negated atom leads to nothing.
func TestSpreadThroughAtomsAlone(t *testing.T) {
	g := counted(2)
	g.Add("n", relation.Row{1})
	list := rules(t, "p(X) :- n(X). q(X) :- n(X), !p(X).")
	asked := 0
	Spread(list, []search.Question{{Rule: list[0], At: search.None}}, func(q search.Question) []relation.Row {
		asked++
		return g.Grow(q)
	})
	if asked != 1 || g.Size != 2 {
		t.Errorf("%d questions, %d rows", asked, g.Size)
	}
}

func TestRulesOf(t *testing.T) {
	list := rules(t, "p(1). q(X) :- p(X). r(X) :- q(X). p(2).")
	for _, c := range []struct {
		names []string
		want  string
	}{
		{nil, ""},
		{[]string{"x"}, ""},
		{[]string{"p"}, "p(1). p(2). "},
		{[]string{"r", "p"}, "p(1). r(X) :- q(X). p(2). "},
	} {
		got := ""
		for _, r := range RulesOf(list, c.names) {
			got += syntax.Print(r) + " "
		}
		if got != c.want {
			t.Errorf("%v: %s", c.names, got)
		}
	}
}
