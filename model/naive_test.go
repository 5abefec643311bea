package model

import (
	"maps"
	"math/rand"
	"slices"
	"testing"

	"delphi/api"
	"delphi/value"
)

// naive is a plainer maker of models: it knows facts by their texts, and gives every constant to every variable.
type naive struct {
	rules     []api.Rule
	constants []api.Term
	facts     map[string]api.Fact
}

func hasPredicate(l api.Literal) bool { return l.Kind == api.LAtom || l.Kind == api.LNot }

func newNaive(l []api.Rule, base []api.Fact) *naive {
	n := &naive{rules: l, facts: map[string]api.Fact{}}
	seen := map[api.Term]int{}
	for _, f := range base {
		n.facts[value.Fact(f)] = f
		for _, c := range f.Args {
			seen[c] = 1
		}
	}
	for _, r := range l {
		for _, x := range append(slices.Clone(r.Body), r.Head) {
			for _, c := range x.Args {
				if c.Kind != api.TVar {
					seen[c] = 1
				}
			}
		}
	}
	n.constants = slices.SortedFunc(maps.Keys(seen), compareTerms)
	return n
}

func compareTerms(a, b api.Term) int {
	switch {
	case value.Less(a, b):
		return -1
	case value.Less(b, a):
		return 1
	}
	return 0
}

func under(l api.Literal, row map[string]api.Term) api.Fact {
	f := api.Fact{Name: l.Name}
	for _, x := range l.Args {
		if x.Kind == api.TVar {
			x = row[x.Name]
		}
		f.Args = append(f.Args, x)
	}
	return f
}

func (n *naive) holds(l api.Literal, row map[string]api.Term) bool {
	f := under(l, row)
	if hasPredicate(l) {
		_, ok := n.facts[value.Fact(f)]
		return ok == (l.Kind == api.LAtom)
	}
	a, b := f.Args[0], f.Args[1]
	switch l.Kind {
	case api.LEq:
		return a == b
	case api.LNe:
		return a != b
	case api.LLt:
		return value.Less(a, b)
	}
	return a == b || value.Less(a, b)
}

func bound(l api.Literal, row map[string]api.Term) bool {
	for _, x := range l.Args {
		if _, ok := row[x.Name]; x.Kind == api.TVar && !ok {
			return false
		}
	}
	return true
}

// spread gives every constant to the next of the names, leaves out the ways in which a literal does not hold, and tells those that are left.
func (n *naive) spread(r api.Rule, names []string, row map[string]api.Term, tell func(api.Fact)) {
	for _, l := range r.Body {
		if bound(l, row) && !n.holds(l, row) {
			return
		}
	}
	if len(names) == 0 {
		tell(under(r.Head, row))
		return
	}
	for _, c := range n.constants {
		row[names[0]] = c
		n.spread(r, names[1:], row, tell)
	}
	delete(row, names[0])
}

func variablesOf(literals ...api.Literal) []string {
	var names []string
	for _, l := range literals {
		for _, x := range l.Args {
			if x.Kind == api.TVar && !slices.Contains(names, x.Name) {
				names = append(names, x.Name)
			}
		}
	}
	return names
}

// fill goes through the rules of a stratum until none gives anything new.
func (n *naive) fill(stratum int, of map[string]int) {
	for before := -1; before < len(n.facts); {
		before = len(n.facts)
		for _, r := range n.rules {
			if of[r.Head.Name] != stratum {
				continue
			}
			var found []api.Fact
			n.spread(r, variablesOf(r.Body...), map[string]api.Term{}, func(f api.Fact) { found = append(found, f) })
			for _, f := range found {
				n.facts[value.Fact(f)] = f
			}
		}
	}
}

// strataOf raises heads until nobody rises any more; false: somebody is above all that so many predicates can need.
func strataOf(l []api.Rule) (map[string]int, bool) {
	of := map[string]int{}
	for _, r := range l {
		of[r.Head.Name] = 0
	}
	for rose := true; rose; {
		rose = false
		for _, r := range l {
			for _, b := range r.Body {
				at, ok := of[b.Name]
				if b.Kind == api.LNot {
					at++
				}
				if ok && hasPredicate(b) && of[r.Head.Name] < at {
					of[r.Head.Name], rose = at, true
				}
			}
		}
		if len(of) > 0 && slices.Max(slices.Collect(maps.Values(of))) > len(of) {
			return nil, false
		}
	}
	return of, true
}

func safe(r api.Rule) bool {
	var binding, asking []api.Literal
	for _, l := range r.Body {
		if l.Kind == api.LAtom {
			binding = append(binding, l)
		} else {
			asking = append(asking, l)
		}
	}
	names := variablesOf(binding...)
	return !slices.ContainsFunc(variablesOf(append(asking, r.Head)...), func(x string) bool { return !slices.Contains(names, x) })
}

// oneWidth says whether each predicate has the same number of terms everywhere.
func oneWidth(l []api.Rule, base []api.Fact) bool {
	widths := map[string]int{}
	good := true
	see := func(name string, n int) {
		if w, ok := widths[name]; ok && w != n {
			good = false
		}
		widths[name] = n
	}
	for _, r := range l {
		see(r.Head.Name, len(r.Head.Args))
		for _, b := range r.Body {
			if hasPredicate(b) {
				see(b.Name, len(b.Args))
			}
		}
	}
	for _, f := range base {
		see(f.Name, len(f.Args))
	}
	return good
}

func defines(l []api.Rule, name string) bool {
	return slices.ContainsFunc(l, func(r api.Rule) bool { return r.Head.Name == name })
}

// makeNaive gives the facts by their texts, or an error; it asks for no limits.
func makeNaive(l []api.Rule, base []api.Fact) (map[string]api.Fact, api.Errno) {
	if slices.ContainsFunc(l, func(r api.Rule) bool { return !safe(r) }) {
		return nil, api.ErrUnsafe
	}
	if !oneWidth(l, base) {
		return nil, api.ErrArity
	}
	if slices.ContainsFunc(base, func(f api.Fact) bool { return defines(l, f.Name) }) {
		return nil, api.ErrBase
	}
	of, ok := strataOf(l)
	if !ok {
		return nil, api.ErrStrata
	}
	n := newNaive(l, base)
	for stratum := range len(of) + 1 {
		n.fill(stratum, of)
	}
	if len(n.facts) > api.MaxRows {
		return nil, api.ErrFull
	}
	return n.facts, api.OK
}

// draft draws programs. A predicate's width is the number of its name, its rank its letter: the lower ones come first.
type draft struct {
	*rand.Rand
	heads, bases []string
	constants    []api.Term
	variables    []string
	literals     int
	facts        int
	care         int // the more, the fewer faults
}

func newDraft(r *rand.Rand) draft {
	return draft{
		Rand: r, heads: []string{"p1", "q2", "r0", "s1", "t2", "u1"}, bases: []string{"a1", "b2", "b2", "c1", "d0", "e2", "e2"},
		constants: []api.Term{num(-1), num(0), num(2), word("k"), word("m")}, variables: []string{"X", "Y", "Z"}, literals: 3, facts: 50, care: 1,
	}
}

// newBroadDraft draws programs that may have very many rows.
func newBroadDraft(r *rand.Rand) draft {
	d := newDraft(r)
	for i := range 25 + r.Intn(15) {
		d.constants = append(d.constants, num(int64(10+i)))
	}
	d.heads, d.bases, d.facts, d.care = []string{"p1", "q2", "t2", "v3"}, []string{"a1", "a1", "b2"}, 100, 10
	return d
}

func (d draft) errs(n int) bool { return d.Intn(n*d.care) == 0 }

func widthOf(name string) int { return int(name[1] - '0') }

func pickOf[T any](d draft, list []T) T { return list[d.Intn(len(list))] }

func (d draft) term(names []string) api.Term {
	if len(names) == 0 || d.Intn(15) == 0 {
		return pickOf(d, d.constants)
	}
	return vary(pickOf(d, names))
}

// terms gives as many as the name is wide; very seldom one more.
func (d draft) terms(name string, names []string) []api.Term {
	n := widthOf(name)
	if d.errs(600) {
		n++
	}
	var l []api.Term
	for range n {
		l = append(l, d.term(names))
	}
	return l
}

func (d draft) literal(kind int, name string, names []string) api.Literal {
	return literal(kind, name, d.terms(name, names)...)
}

// atomName draws a base predicate, or one that is not above the head's rank, but for a few times.
func (d draft) atomName(rank int) string {
	switch n := d.Intn(20); {
	case n < 12:
		return pickOf(d, d.bases)
	case n < 18:
		return pickOf(d, d.heads[:rank+1])
	}
	return pickOf(d, d.heads)
}

// rule negates only what is below its head, but for a few times, and asks only for what is bound, but for a few times.
func (d draft) rule() api.Rule {
	rank := d.Intn(len(d.heads))
	r := api.Rule{}
	for range (1 + d.Intn(d.literals*2)) / 2 {
		r.Body = append(r.Body, d.literal(api.LAtom, d.atomName(rank), d.variables))
	}
	names := variablesOf(r.Body...)
	if d.errs(100) {
		names = d.variables
	}
	for range d.Intn(4) / 2 {
		switch {
		case d.Intn(2) == 0:
			r.Body = append(r.Body, literal(api.LEq+d.Intn(4), "", d.term(names), d.term(names)))
		case d.errs(20):
			r.Body = append(r.Body, d.literal(api.LNot, pickOf(d, d.heads), names))
		default:
			lower := slices.Concat(d.bases, d.heads[:rank], d.heads[:rank])
			r.Body = append(r.Body, d.literal(api.LNot, pickOf(d, lower), names))
		}
	}
	// Literals come in any order: those that bind may stand behind those that ask.
	d.Shuffle(len(r.Body), func(i, k int) { r.Body[i], r.Body[k] = r.Body[k], r.Body[i] })
	r.Head = d.literal(api.LAtom, d.heads[rank], names)
	return r
}

func (d draft) rules() []api.Rule {
	var l []api.Rule
	for range 3 + d.Intn(10) {
		l = append(l, d.rule())
	}
	return l
}

func (d draft) base() []api.Fact {
	var l []api.Fact
	for range d.facts/3 + d.Intn(d.facts*2/3+1) {
		name := pickOf(d, d.bases)
		if d.errs(300) {
			name = pickOf(d, d.heads)
		}
		l = append(l, fact(name, d.terms(name, nil)...))
	}
	return l
}

// checkNaive holds all that the model tells against the facts.
func checkNaive(t *testing.T, m *Model, want map[string]api.Fact) bool {
	t.Helper()
	var names []string
	for _, f := range want {
		names = append(names, f.Name)
		if !m.Has(f) {
			return false
		}
	}
	slices.Sort(names)
	names = slices.Compact(names)
	var all []api.Fact
	for _, name := range names {
		var facts []api.Fact
		for _, f := range want {
			if f.Name == name {
				facts = append(facts, f)
			}
		}
		slices.SortFunc(facts, func(a, b api.Fact) int { return slices.CompareFunc(a.Args, b.Args, compareTerms) })
		if !slices.EqualFunc(m.Facts(name), facts, sameFact) {
			return false
		}
		all = append(all, facts...)
	}
	return slices.EqualFunc(m.All(), all, sameFact) && slices.Equal(m.Names(), names) && m.Len() == len(all)
}

// derived counts the facts that come from rules.
func derived(l []api.Rule, all map[string]api.Fact) int {
	n := 0
	for _, f := range all {
		if defines(l, f.Name) {
			n++
		}
	}
	return n
}

// runNaive makes n models of what next draws, and tells how often each answer came, and how often the rules gave more than a few rows.
func runNaive(t *testing.T, n int, next func() draft) (answers map[api.Errno]int, grown int) {
	t.Helper()
	answers = map[api.Errno]int{}
	for range n {
		d := next()
		l, base := d.rules(), d.base()
		want, wantErr := makeNaive(l, base)
		m, err := Make(l, base)
		if err != wantErr || (m == nil) != (err != api.OK) {
			t.Fatalf("P14.1: Make(%s; %s): error %d; want %d", showRules(l), show(base), err, wantErr)
		}
		if err == api.OK && !checkNaive(t, m, want) {
			t.Fatalf("P14.1: Make(%s; %s): %s; want %d facts: %v", showRules(l), show(base), show(m.All()), len(want), slices.Sorted(maps.Keys(want)))
		}
		answers[err]++
		if derived(l, want) > 5 {
			grown++
		}
	}
	return answers, grown
}

func TestNaive(t *testing.T) {
	source := rand.New(rand.NewSource(14))
	answers, grown := runNaive(t, 4000, func() draft { return newDraft(source) })
	for _, err := range []api.Errno{api.ErrUnsafe, api.ErrArity, api.ErrBase, api.ErrStrata} {
		if answers[err] < 40 {
			t.Errorf("the programs are too much of one kind: %v", answers)
		}
	}
	if answers[api.OK] < 2000 || grown < 800 {
		t.Errorf("the programs are too much of one kind: %v, %d of them grow", answers, grown)
	}
}

func TestBroadNaive(t *testing.T) {
	source := rand.New(rand.NewSource(114))
	answers, grown := runNaive(t, 500, func() draft { return newBroadDraft(source) })
	if answers[api.OK] < 150 || grown < 60 || answers[api.ErrFull] < 15 {
		t.Errorf("the programs are too much of one kind: %v, %d of them grow", answers, grown)
	}
}
