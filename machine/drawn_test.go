package machine

import (
	"math/rand"
	"slices"
	"strings"
	"testing"

	"delphi/api"
	"delphi/model"
	"delphi/syntax"
	"delphi/value"
)

// plain does what the chapter says in the plainest way: it makes the model anew for each change, and keeps each reply that it gave.
type plain struct {
	rules   []api.Rule
	base    []api.Fact
	model   *model.Model
	replies map[int]map[int64]string // of each client, by the command's number
}

func (p *plain) last(client int) int64 {
	var last int64
	for seq := range p.replies[client] {
		last = max(last, seq)
	}
	return last
}

func (p *plain) apply(c api.Command) string {
	if c.Kind < 1 || c.Kind > 4 || c.Client < 1 || c.Client > 8 || c.Seq < 1 || c.Seq > 1<<40 || len(c.Text) > 4000 {
		return failed(api.ErrForm)
	}
	if reply, done := p.replies[c.Client][c.Seq]; done && c.Seq == p.last(c.Client) {
		return reply
	}
	if c.Seq < p.last(c.Client) {
		return failed(api.ErrStale)
	}
	if p.replies[c.Client] == nil {
		p.replies[c.Client] = map[int64]string{}
	}
	reply := told(p.do(c))
	p.replies[c.Client][c.Seq] = reply
	return reply
}

func (p *plain) do(c api.Command) api.Reply {
	switch c.Kind {
	case api.CInstall:
		rules, err := syntax.Program(c.Text)
		if err != api.OK {
			return api.Reply{Err: err}
		}
		return p.become(rules, p.base)
	case api.CQuery:
		return p.ask(c.Text)
	}
	f, err := syntax.Fact(c.Text)
	if err != api.OK {
		return api.Reply{Err: err}
	}
	at := slices.IndexFunc(p.base, func(b api.Fact) bool { return value.Fact(b) == value.Fact(f) })
	if (at >= 0) == (c.Kind == api.CInsert) {
		return api.Reply{}
	}
	if at >= 0 {
		return p.become(p.rules, slices.Delete(slices.Clone(p.base), at, at+1))
	}
	return p.become(p.rules, append(slices.Clone(p.base), f))
}

func (p *plain) become(rules []api.Rule, base []api.Fact) api.Reply {
	m, err := model.Make(rules, base)
	if err == api.OK {
		p.rules, p.base, p.model = rules, base, m
	}
	return api.Reply{Err: err, Changed: err == api.OK}
}

// ask gives the facts that the question becomes by what its variables stand for.
func (p *plain) ask(text string) api.Reply {
	q, err := syntax.Query(text)
	r := api.Reply{Err: err}
	for _, f := range p.model.Facts(q.Name) {
		if len(f.Args) != len(q.Args) {
			continue
		}
		bound := map[string]string{}
		for i, a := range q.Args {
			if a.Kind == api.TVar {
				bound[a.Name] = value.Print(f.Args[i])
			}
		}
		became := api.Fact{Name: q.Name}
		for _, a := range q.Args {
			if word, ok := bound[a.Name]; ok && a.Kind == api.TVar {
				a.Name = word
			}
			became.Args = append(became.Args, a)
		}
		if value.Fact(became) == value.Fact(f) {
			r.Rows = append(r.Rows, value.Fact(f))
		}
	}
	return r
}

// holds tells what the machine's holds must be.
func (p *plain) holds() string {
	m, _ := model.Make(nil, p.base)
	return showRules(p.rules) + " ; " + show(m.All()) + " ; " + show(p.model.All())
}

func pick[T any](r *rand.Rand, list []T) T { return list[r.Intn(len(list))] }

// drawnProgram has at times a fault.
func drawnProgram(r *rand.Rand) string {
	clauses := []string{
		"t(X, Y) :- e(X, Y).", "t(X, Z) :- t(X, Y), e(Y, Z).", "far(X) :- n(X), !t(a, X).", "loop :- t(X, X).", "n2(X) :- n(X), X != 1.",
		"some(X) :- e(X, Y).", "lone(X) :- n(X), !some(X), !loop.", "t(9, 9).", "less(X, Y) :- n(X), n(Y), X < Y.", "big(X, Y, Z, W) :- t(X, Y), t(Z, W).",
	}
	faults := []string{"?", "far(X) :- !n(X).", "n(z).", "n(z, z).", "some(X) :- n(X), !lone(X).", "loop :- !loop.", "p(1, 2, 3, 4, 5).", "t(X, Y) :- e(X, Y)"}
	var text []string
	for range r.Intn(7) {
		text = append(text, pick(r, clauses))
	}
	if r.Intn(3) == 0 {
		text = append(text, pick(r, faults))
	}
	return strings.Join(text, " ")
}

func drawnFact(r *rand.Rand) string {
	constants := []string{"a", "b", "c", "d", "1", "-2", "9"}
	switch r.Intn(20) {
	case 0:
		return pick(r, []string{"t(a, b)", "loop", "some(a)", "e(a)", "n", "n(X)", "m(1, 2, 3, 4, 5)", "", "n(1", "less(1, 2)", "z", "z(1)"})
	case 1, 2, 3, 4, 5, 6:
		return "n(" + pick(r, constants) + ")."
	}
	return "e(" + pick(r, constants) + ", " + pick(r, constants) + ")"
}

func drawnCommand(r *rand.Rand, p *plain) api.Command {
	c := api.Command{Kind: pick(r, []int{1, 2, 2, 2, 2, 2, 3, 3, 3, 4, 4, 4}), Client: 1 + r.Intn(3)}
	if r.Intn(30) == 0 {
		c.Client = r.Intn(11) - 1
	}
	switch c.Kind {
	case api.CInstall:
		c.Text = drawnProgram(r)
	case api.CQuery:
		c.Text = pick(r, []string{"t(X, Y)", "t(X, X)", "t(a, Y).", "e(X, b)", "n(X)", "far(X)", "lone(X)", "less(1, X)", "loop", "big(X, Y, Y, X)", "some(X, Y)", "t(X", "", "n(A, B, C, D, E)"})
	default:
		c.Text = drawnFact(r)
	}
	c.Seq = p.last(c.Client) + pick(r, []int64{-2, -1, 0, 0, 1, 1, 1, 1, 1, 1, 2, 1 << 33})
	if r.Intn(60) == 0 {
		c.Kind = pick(r, []int{-1, 0, 5, 1 << 40})
	}
	return c
}

// Of the same commands two machines tell the same, and that is what the plain way gives.
func TestDrawn(t *testing.T) {
	r := rand.New(rand.NewSource(18))
	answers := map[string]int{}
	for range 100 {
		p := &plain{replies: map[int]map[int64]string{}}
		p.become(nil, nil)
		m, other := New(), New()
		for range 120 {
			c := drawnCommand(r, p)
			before := state(m)
			want := p.apply(c)
			got := told(m.Apply(c))
			if got != want {
				t.Fatalf("P18.1: %s: %v: %s; want %s", before, c, got, want)
			}
			if got := holds(m); got != p.holds() {
				t.Fatalf("P18.1: %s: %v made %s; want %s", before, c, got, p.holds())
			}
			if seq, last := m.Last(c.Client); seq != p.last(c.Client) || seq > 0 && told(last) != p.replies[c.Client][seq] {
				t.Fatalf("P18.1: %s: Last behind %v: %d, %s", before, c, seq, told(last))
			}
			if got := told(m.Ask(c.Text)); got != told(p.ask(c.Text)) {
				t.Fatalf("P18.1: %s: Ask(%q): %s; want %s", before, c.Text, got, told(p.ask(c.Text)))
			}
			other.Apply(c)
			if state(other) != state(m) {
				t.Fatalf("P0.5: the same commands made %s and %s", state(m), state(other))
			}
			kind, _, rows := strings.Cut(got, " false ")
			if rows && strings.Contains(got, "(") {
				kind = "rows"
			}
			answers[kind]++
		}
	}
	for _, kind := range []string{changes, "rows", "0", "2", "3", "4", "5", "6", "7", "8", "9", "10"} {
		if answers[kind] < 5 {
			t.Errorf("the commands are too much of one kind: %v", answers)
		}
	}
}
