package incr

import (
	"math/rand"
	"slices"
	"testing"

	"delphi/api"
	"delphi/model"
)

// plain does what the chapter says in the plainest way: it makes the model anew for each change.
type plain struct {
	rules []api.Rule
	base  []api.Fact
	model *model.Model
}

func (p *plain) with(l []api.Rule, base []api.Fact) api.Errno {
	m, err := model.Make(l, base)
	if err == api.OK {
		p.rules, p.base, p.model = l, onceEach(base), m
	}
	return err
}

// onceEach gives the facts by names and rows: so a model without rules tells them.
func onceEach(base []api.Fact) []api.Fact {
	m, _ := model.Make(nil, base)
	return m.All()
}

func (p *plain) place(f api.Fact) int {
	return slices.IndexFunc(p.base, func(b api.Fact) bool { return sameFact(b, f) })
}

func (p *plain) insert(f api.Fact) (bool, api.Errno) {
	if _, err := model.Make(nil, []api.Fact{f}); err != api.OK {
		return false, err
	}
	if p.place(f) >= 0 {
		return false, api.OK
	}
	err := p.with(p.rules, append(slices.Clone(p.base), f))
	return err == api.OK, err
}

func (p *plain) retract(f api.Fact) (bool, api.Errno) {
	if _, err := model.Make(nil, []api.Fact{f}); err != api.OK {
		return false, err
	}
	at := p.place(f)
	if at < 0 {
		return false, api.OK
	}
	err := p.with(p.rules, slices.Delete(slices.Clone(p.base), at, at+1))
	return err == api.OK, err
}

// draft draws programs and facts. A predicate's width is the number of its name; of the heads the lower ones come first.
type draft struct {
	*rand.Rand
	heads, bases []string
	constants    []api.Term
	variables    []string
	care         int // the more, the fewer faults
	facts        int // at the beginning
	wide         bool
}

func newDraft(r *rand.Rand) draft {
	return draft{
		Rand: r, heads: []string{"p1", "q2", "r0", "s1", "t2", "u1"}, bases: []string{"a1", "b2", "b2", "c1", "d0", "e2", "e2"},
		constants: []api.Term{num(-1), num(0), num(2), word("k"), word("m")}, variables: []string{"X", "Y", "Z"}, care: 1, facts: 12,
	}
}

// newBroadDraft draws programs that have about as many rows as may be.
func newBroadDraft(r *rand.Rand) draft {
	d := newDraft(r)
	d.constants = nil
	for i := range int64(32) {
		d.constants = append(d.constants, num(i))
	}
	d.heads, d.bases, d.care, d.facts = []string{"r0", "q2", "v3", "s0", "w3"}, []string{"a1", "b1", "c1", "d0"}, 10, 40
	d.wide = true
	return d
}

func (d draft) errs(n int) bool { return d.Intn(n*d.care) == 0 }

func pick[T any](d draft, list []T) T { return list[d.Intn(len(list))] }

// terms gives as many as the name is wide; very seldom one more.
func (d draft) terms(name string, names []string) []api.Term {
	n := int(name[1] - '0')
	if d.errs(400) {
		n++
	}
	var l []api.Term
	for range n {
		if len(names) == 0 || d.Intn(15) == 0 {
			l = append(l, pick(d, d.constants))
		} else {
			l = append(l, vary(pick(d, names)))
		}
	}
	return l
}

func (d draft) literal(kind int, name string, names []string) api.Literal {
	return literal(kind, name, d.terms(name, names)...)
}

func namesOf(body []api.Literal) []string {
	var names []string
	for _, l := range body {
		for _, x := range l.Args {
			if x.Kind == api.TVar && !slices.Contains(names, x.Name) {
				names = append(names, x.Name)
			}
		}
	}
	return names
}

// rule negates only what is below its head, but for a few times, and asks only for what is bound, but for a few times.
func (d draft) rule() api.Rule {
	rank := d.Intn(len(d.heads))
	r := api.Rule{}
	for range (d.Intn(8) + 1) / 2 {
		name := pick(d, d.bases)
		if d.Intn(3) == 0 {
			name = pick(d, d.heads[:rank+1])
		}
		r.Body = append(r.Body, d.literal(api.LAtom, name, d.variables))
	}
	names := namesOf(r.Body)
	if d.errs(100) {
		names = d.variables
	}
	lower := slices.Concat(d.bases, d.heads[:rank], d.heads[:rank])
	if d.errs(25) {
		lower = d.heads
	}
	for range d.Intn(5) / 2 {
		if d.Intn(3) == 0 {
			r.Body = append(r.Body, literal(api.LEq+d.Intn(4), "", d.terms("?2", names)[:2]...))
		} else {
			r.Body = append(r.Body, d.literal(api.LNot, pick(d, lower), names))
		}
	}
	d.Shuffle(len(r.Body), func(i, k int) { r.Body[i], r.Body[k] = r.Body[k], r.Body[i] })
	r.Head = d.literal(api.LAtom, d.heads[rank], names)
	return r
}

func (d draft) rules() []api.Rule {
	var l []api.Rule
	for range 2 + d.Intn(10) {
		l = append(l, d.rule())
	}
	if d.wide {
		l = append(l, d.wideRule())
	}
	return l
}

// wideRule gives every row of three base predicates with every one of the others, unless something below is there.
func (d draft) wideRule() api.Rule {
	x, y, z := vary("X"), vary("Y"), vary("Z")
	return api.Rule{Head: literal(api.LAtom, "w3", x, y, z), Body: []api.Literal{
		literal(api.LAtom, "a1", x), literal(api.LAtom, "b1", y), literal(api.LAtom, "c1", z), literal(api.LNot, pick(d, []string{"d0", "r0", "s0"})),
	}}
}

func (d draft) base() []api.Fact {
	var l []api.Fact
	for range d.facts {
		l = append(l, d.fact())
	}
	return l
}

func (d draft) fact() api.Fact {
	name := pick(d, d.bases)
	if d.errs(30) {
		name = pick(d, append(slices.Clone(d.heads), "new1", "B1", ""))
	}
	if name == "" {
		return api.Fact{}
	}
	f := fact(name, d.terms(name[:2], nil)...)
	if len(f.Args) > 0 && d.errs(100) {
		f.Args[d.Intn(len(f.Args))] = pick(d, badTerms())
	}
	return f
}

// chosen gives a fact to retract, mostly one that is there.
func (d draft) chosen(base []api.Fact) api.Fact {
	if len(base) > 0 && d.Intn(6) > 0 {
		return pick(d, base)
	}
	return d.fact()
}

// pair is a live one, and the plain one that it must be like.
type pair struct {
	draft
	live    *Live
	plain   *plain
	grow    bool // is it in a time in which more comes than goes?
	answers map[string]map[api.Errno]int
	moved   int // how often rows of rules changed
}

// step does the same to both, and tells whether they answered the same.
func (p *pair) step() (what string, ok bool) {
	if p.Intn(25) == 0 {
		p.grow = !p.grow
	}
	var changed, want bool
	var err, wantErr api.Errno
	before := len(p.plain.model.All()) - len(p.plain.base)
	switch n := p.Intn(100); {
	case n < 6:
		l := p.rules()
		what = "install"
		err, wantErr = p.live.Install(l), p.plain.with(l, p.plain.base)
	case (n < 70) == p.grow:
		f := p.fact()
		what = "insert"
		changed, err = p.live.Insert(f)
		want, wantErr = p.plain.insert(f)
	default:
		f := p.chosen(p.plain.base)
		what = "retract"
		changed, err = p.live.Retract(f)
		want, wantErr = p.plain.retract(f)
	}
	if after := len(p.plain.model.All()) - len(p.plain.base); want && after != before {
		p.moved++
	}
	if p.answers[what] == nil {
		p.answers[what] = map[api.Errno]int{}
	}
	p.answers[what][err]++
	return what, changed == want && err == wantErr && p.alike()
}

func (p *pair) alike() bool {
	if !slices.EqualFunc(p.live.Base(), p.plain.base, sameFact) || !slices.EqualFunc(p.live.Rules(), p.plain.rules, sameRule) {
		return false
	}
	if !slices.EqualFunc(p.live.All(), p.plain.model.All(), sameFact) {
		return false
	}
	for _, name := range slices.Concat(p.heads, p.bases) {
		if !slices.EqualFunc(p.live.Facts(name), p.plain.model.Facts(name), sameFact) {
			return false
		}
		f := fact(name, p.terms(name, nil)...)
		if p.live.Has(f) != p.plain.model.Has(f) {
			return false
		}
	}
	return true
}

// runDrawn does so many steps with each of so many live ones, and tells what was answered, and how often rows of rules changed.
func runDrawn(t *testing.T, lives, steps int, next func() draft) (map[string]map[api.Errno]int, int) {
	t.Helper()
	answers := map[string]map[api.Errno]int{}
	moved := 0
	for range lives {
		p := &pair{draft: next(), plain: &plain{}, grow: true, answers: answers}
		given, base := p.rules(), p.base()
		var err api.Errno
		p.live, err = New(given, base)
		p.plain.with(nil, nil)
		if wantErr := p.plain.with(given, base); err != wantErr || (p.live == nil) != (err != api.OK) {
			t.Fatalf("P15.1: New(%s): %d; want %d", showRules(given), err, wantErr)
		}
		if err != api.OK && p.plain.with(nil, base) == api.OK {
			p.live = live(t, nil, base)
		} else if err != api.OK {
			p.live = live(t, nil, nil)
		}
		for range steps {
			before := state(p.live)
			if what, ok := p.step(); !ok {
				t.Fatalf("P15.1: %s: %s made of it %s; want the model %s", before, what, state(p.live), show(p.plain.model.All()))
			}
		}
		moved += p.moved
	}
	return answers, moved
}

func TestDrawn(t *testing.T) {
	t.Parallel()
	source := rand.New(rand.NewSource(15))
	answers, moved := runDrawn(t, 500, 80, func() draft { return newDraft(source) })
	for what, want := range map[string][]api.Errno{
		"install": {api.OK, api.ErrUnsafe, api.ErrArity, api.ErrStrata}, "insert": {api.OK, api.ErrLimit, api.ErrArity, api.ErrBase}, "retract": {api.OK, api.ErrLimit},
	} {
		for _, err := range want {
			if answers[what][err] < 20 {
				t.Errorf("the steps are too much of one kind: %s: %v", what, answers[what])
			}
		}
	}
	if moved < 3500 {
		t.Errorf("the steps are too much of one kind: only %d of them changed what rules give", moved)
	}
}

func TestBroadDrawn(t *testing.T) {
	t.Parallel()
	source := rand.New(rand.NewSource(115))
	answers, moved := runDrawn(t, 60, 120, func() draft { return newBroadDraft(source) })
	if answers["insert"][api.ErrFull] < 30 || answers["retract"][api.ErrFull] < 5 || answers["install"][api.ErrFull] < 5 || moved < 500 {
		t.Errorf("the steps are too much of one kind: %v; %d of them changed what rules give", answers, moved)
	}
}
