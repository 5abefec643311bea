package incr

import (
	"fmt"
	"math"
	"slices"
	"strings"
	"testing"
	"unsafe"

	"delphi/api"
	"delphi/model"
)

// fault is rules that have an error over facts that have none.
type fault struct {
	rules []api.Rule
	facts []api.Fact
	err   api.Errno
}

// faulty gives every error of the model's.
func faulty(t *testing.T) []fault {
	t.Helper()
	var many []api.Rule
	for i := range 31 {
		many = append(many, rules(t, fmt.Sprintf("p(%d).", i))...)
	}
	x := vary("X")
	head := literal(api.LAtom, "p")
	return []fault{
		{many, nil, api.ErrLimit},
		{[]api.Rule{{}}, nil, api.ErrLimit},
		{[]api.Rule{{Head: literal(api.LAtom, "P")}}, nil, api.ErrLimit},
		{[]api.Rule{{Head: literal(api.LNot, "p")}}, nil, api.ErrLimit},
		{[]api.Rule{{Head: head, Body: slices.Repeat([]api.Literal{head}, 7)}}, nil, api.ErrLimit},
		{[]api.Rule{{Head: literal(api.LAtom, "p", x, x, x, x, x)}}, nil, api.ErrLimit},
		{[]api.Rule{{Head: head, Body: []api.Literal{literal(math.MaxInt, "q")}}}, nil, api.ErrLimit},
		{make([]api.Rule, 100000), nil, api.ErrLimit},
		{rules(t, "p(X) :- !b(X)."), nil, api.ErrUnsafe},
		{rules(t, "p(X). q. q(1)."), nil, api.ErrUnsafe},
		{rules(t, "q. q(1). b(1)."), nil, api.ErrArity},
		{rules(t, "p :- b."), facts(t, "b(1)"), api.ErrArity},
		{rules(t, "b :- c."), facts(t, "b(1)"), api.ErrArity},
		{rules(t, "b(1). p :- !p."), facts(t, "b(1)"), api.ErrBase},
		{rules(t, "b(X) :- c(X)."), facts(t, "b(1)"), api.ErrBase},
		{rules(t, "p :- !p. q(X, Y) :- b(X), b(Y)."), facts(t, "b(1)"), api.ErrStrata},
		{rules(t, "p :- q. q :- r. r :- !p."), nil, api.ErrStrata},
		{rules(t, "p(X, Y) :- b(X), b(Y)."), numbered("b", 32), api.ErrFull},
		{rules(t, "p(X, Y, Z, W) :- b(X), b(Y), b(Z), b(W), !q."), numbered("b", 100), api.ErrFull},
	}
}

func TestNew(t *testing.T) {
	for _, l := range []*Live{live(t, nil, nil), live(t, []api.Rule{}, []api.Fact{}), {}} {
		if got := state(l); got != " |  | " {
			t.Errorf("P15.1: a live one of nothing: %s", got)
		}
	}
	l := live(t, rules(t, paths+" p."), facts(t, "e(a, b); e(a, b); n(2); e(b, c); n(2)"))
	if got, want := state(l), showRules(rules(t, paths+" p."))+" | e(a, b) e(b, c) n(2) | e(a, b) e(b, c) n(2) p t(a, b) t(a, c) t(b, c)"; got != want {
		t.Errorf("P15.1: New: %s; want %s", got, want)
	}
	for _, c := range faulty(t) {
		if l, err := New(c.rules, c.facts); l != nil || err != c.err {
			t.Errorf("P15.1: New(%.300v; %.300v): %t, %d; want error %d", c.rules, c.facts, l != nil, err, c.err)
		}
	}
	for _, c := range [][]api.Fact{numbered("b", 101), slices.Repeat(numbered("b", 1), 101), {fact("b", vary("X"))}, {fact("B")}, {{}}, make([]api.Fact, 100000)} {
		if l, err := New(nil, c); l != nil || err != api.ErrLimit {
			t.Errorf("P15.1: New(; %.300v): %t, %d; want error %d", c, l != nil, err, api.ErrLimit)
		}
	}
	for _, text := range []string{"b; b(1)", "b(1); c; b(1, 2)"} {
		if l, err := New(nil, facts(t, text)); l != nil || err != api.ErrArity {
			t.Errorf("P15.1: New(; %s): %t, %d", text, l != nil, err)
		}
	}
	live(t, nil, numbered("b", 100))
	live(t, nil, slices.Repeat(numbered("b", 1), 100))
}

func TestInstall(t *testing.T) {
	l := live(t, rules(t, paths), facts(t, "e(a, b); e(b, c); n(a); n(d)"))
	installs(t, l, rules(t, "t(Y, X) :- e(X, Y)."), api.OK)
	if got := show(l.Facts("t")); got != "t(b, a) t(c, b)" {
		t.Errorf("P15.1: Install: %s", got)
	}
	installs(t, l, rules(t, "lone(X) :- n(X), !some(X). some(X) :- e(X, Y)."), api.OK)
	if got := show(l.All()); got != "e(a, b) e(b, c) lone(d) n(a) n(d) some(a) some(b)" {
		t.Errorf("P15.1: Install: %s", got)
	}
	// What was defined is not any more, and has no width.
	inserts(t, l, factOf(t, "t(a)"), true, api.OK)
	inserts(t, l, factOf(t, "lone(a)"), false, api.ErrBase)
	installs(t, l, rules(t, paths), api.ErrArity)
	installs(t, l, rules(t, "t(X) :- n(X)."), api.ErrBase)
	retracts(t, l, factOf(t, "n(d)"), true, api.OK)
	inserts(t, l, factOf(t, "e(d, a)"), true, api.OK)
	installs(t, l, nil, api.OK)
	if got := show(l.All()); got != "e(a, b) e(b, c) e(d, a) n(a) t(a)" || len(l.Rules()) != 0 {
		t.Errorf("P15.1: Install(nil): %s", got)
	}
	retracts(t, l, factOf(t, "t(a)"), true, api.OK)
	installs(t, l, rules(t, paths), api.OK)
	installs(t, l, rules(t, paths), api.OK)
	installs(t, l, []api.Rule{}, api.OK)
	zero := &Live{}
	installs(t, zero, rules(t, "p. q :- p, !b."), api.OK)
	inserts(t, zero, factOf(t, "b"), true, api.OK)
}

// An error leaves all as it was, and what comes behind it goes on from there.
func TestInstallErrors(t *testing.T) {
	for _, c := range faulty(t) {
		l := live(t, rules(t, "kept(X) :- b(X), !x. other(X) :- kept(X)."), c.facts)
		for range 2 {
			installs(t, l, c.rules, c.err)
		}
		if len(l.Base()) < 100 {
			inserts(t, l, fact("x"), true, api.OK)
			if len(l.Facts("kept")) != 0 {
				t.Errorf("P15.1: behind an Install that is an error: %s", state(l))
			}
			installs(t, l, c.rules, c.err)
			retracts(t, l, fact("x"), true, api.OK)
		}
		if len(l.Facts("other")) != len(l.Facts("b")) {
			t.Errorf("P15.1: behind an Install that is an error: %s", state(l))
		}
	}
	l := live(t, nil, numbered("b", 31))
	installs(t, l, rules(t, "p(X, Y) :- b(X), b(Y)."), api.OK)
	inserts(t, l, fact("b", num(31)), false, api.ErrFull)
	installs(t, l, rules(t, "p(X, Y) :- b(X), b(Y). p(X, X) :- p(X, Y). q(1). q(2). q(3). q(4). q(5). q(6). q(7). q(8)."), api.OK)
	installs(t, l, rules(t, "p(X, Y) :- b(X), b(Y). p(X, X) :- p(X, Y). q(1). q(2). q(3). q(4). q(5). q(6). q(7). q(8). q(9)."), api.ErrFull)
}

// Base facts are told by names, and within one by rows, however they came.
func TestBase(t *testing.T) {
	const want = "a_ b b1 ba(-3, z) ba(9, -2) ba(9, -1) ba(10, 2) ba(10, a) ba(a, -5) ba(a, b) ba(a1, 1) ba(a_, 1) ba(ab, 1) ba(b, 1) c(0)"
	given := facts(t, "ba(b, 1); ba(-3, z); c(0); ba(10, 2); ba(a, b); ba(9, -1); b; ba(9, -2); ba(a, -5); ba(10, a); ba(ab, 1); b1; ba(a_, 1); a_; ba(a1, 1)")
	program := rules(t, "aa(X) :- ba(X, Y). p(X) :- c(X). bb. z :- !b.")
	for n := range len(given) + 1 {
		l := live(t, program, given[:n])
		for _, f := range given[n:] {
			inserts(t, l, f, true, api.OK)
		}
		retracts(t, l, given[n/2], true, api.OK)
		inserts(t, l, given[n/2], true, api.OK)
		if got := show(l.Base()); got != want {
			t.Fatalf("P15.1: Base: %s; want %s", got, want)
		}
	}
}

// Rules are told as they were installed: in their order, as often as they came, with all that stands in them.
func TestRules(t *testing.T) {
	given := rules(t, "q(X, k) :- b(X), !c(X, 5), X < 3, X != k, 0 <= X, X = X. p. p. p(1) :- q(X, Y).")
	given = given[:3]
	l := live(t, given, nil)
	for range 2 {
		if got := l.Rules(); !slices.EqualFunc(got, given, sameRule) {
			t.Errorf("P15.1: Rules: %v; want %v", got, given)
		}
		inserts(t, l, fact("b", num(1)), true, api.OK)
		inserts(t, l, fact("p"), false, api.ErrBase)
		installs(t, l, rules(t, "p(X)."), api.ErrUnsafe)
		retracts(t, l, fact("b", num(1)), true, api.OK)
	}
	slices.Reverse(given)
	installs(t, l, given, api.OK)
}

func TestNone(t *testing.T) {
	var l *Live
	for _, f := range []api.Fact{fact("p"), fact("P"), {}, fact("p", slices.Repeat([]api.Term{num(1)}, 9)...)} {
		if ok, err := l.Insert(f); ok || err != api.ErrNone {
			t.Errorf("P15.1: Insert of a nil one: %t, %d", ok, err)
		}
		if ok, err := l.Retract(f); ok || err != api.ErrNone {
			t.Errorf("P15.1: Retract of a nil one: %t, %d", ok, err)
		}
		if l.Has(f) {
			t.Error("P15.1: Has of a nil one")
		}
	}
	for _, r := range [][]api.Rule{nil, rules(t, "p."), rules(t, "p(X)."), make([]api.Rule, 31)} {
		if err := l.Install(r); err != api.ErrNone {
			t.Errorf("P15.1: Install of a nil one: %d", err)
		}
	}
	if len(l.Base())+len(l.Rules())+len(l.All())+len(l.Facts("p"))+len(l.Facts("")) != 0 {
		t.Error("P15.1: a nil one has something")
	}
}

// One that nobody made by New has nothing, and takes all.
func TestZero(t *testing.T) {
	l := &Live{}
	retracts(t, l, fact("p"), false, api.OK)
	inserts(t, l, fact("p", num(1)), true, api.OK)
	inserts(t, l, fact("p"), false, api.ErrArity)
	retracts(t, l, fact("p", num(1)), true, api.OK)
	installs(t, l, rules(t, "q :- !p."), api.OK)
	if got := show(l.All()); got != "q" {
		t.Errorf("P15.1: %s", got)
	}
}

func TestHasOfWhatMayNotBe(t *testing.T) {
	l := live(t, rules(t, "p(X) :- n(X)."), facts(t, "n(5); n(a); n(0); c"))
	for _, x := range append(badTerms(), vary("A"), api.Term{Kind: api.TInt, Name: "a", Num: 5}, api.Term{Kind: api.TWord, Name: "a", Num: 5}) {
		for _, name := range append(badNames(), "n", "p", "c") {
			if l.Has(fact(name, x)) || l.Has(fact(name, x, x)) {
				t.Errorf("P15.1: Has of %.20q with %.100v", name, x)
			}
		}
	}
	if l.Has(api.Fact{}) || l.Has(fact("n", slices.Repeat([]api.Term{num(5)}, 1000000)...)) || !l.Has(api.Fact{Name: "c", Args: []api.Term{}}) {
		t.Error("P15.1: Has of empty and of long facts")
	}
}

func copiedFacts(l []api.Fact) []api.Fact {
	c := slices.Clone(l)
	for i, f := range l {
		c[i].Args = slices.Clone(f.Args)
	}
	return c
}

func copiedRules(l []api.Rule) []api.Rule {
	c := slices.Clone(l)
	for i, r := range l {
		c[i].Head.Args = slices.Clone(r.Head.Args)
		c[i].Body = slices.Clone(r.Body)
		for k, b := range r.Body {
			c[i].Body[k].Args = slices.Clone(b.Args)
		}
	}
	return c
}

const closure = paths + " lone(X, k) :- n(X), !t(X, X), !t(X, k)."

// What is handed in, its spare room too, stays as it was.
func TestNothingIsChanged(t *testing.T) {
	room, base := rules(t, closure+" spare(X) :- n(X), !n(k)."), facts(t, "n(a); n(1); e(b, c); e(a, b); e(a, b); n(0); spare(9)")
	beforeRules, beforeFacts := copiedRules(room), copiedFacts(base)
	l := live(t, nil, nil)
	for n := range len(room) + 1 {
		for k := range len(base) + 1 {
			New(room[:n], base[:k])
		}
		l.Install(room[:n])
		for _, f := range base {
			for w := range len(f.Args) + 1 {
				part := api.Fact{Name: f.Name, Args: f.Args[:w]}
				l.Insert(part)
				l.Has(part)
				l.Insert(part)
			}
		}
		l.Install(room[:len(room)-n])
		for _, f := range base {
			for w := range len(f.Args) + 1 {
				l.Retract(api.Fact{Name: f.Name, Args: f.Args[:w]})
			}
		}
	}
	short := copiedRules(room)
	for i := range short {
		short[i].Body, short[i].Head.Args = room[i].Body[:1], room[i].Head.Args[:1]
	}
	l.Install(short)
	l.Insert(base[0])
	if !slices.EqualFunc(room, beforeRules, sameRule) {
		t.Errorf("P0.3: the rules became %s", showRules(room))
	}
	if !slices.EqualFunc(base, beforeFacts, sameFact) {
		t.Errorf("P0.3: the facts became %s", show(base))
	}
}

// What is handed in is not kept either.
func TestNothingIsKept(t *testing.T) {
	given, base, more := rules(t, closure), facts(t, "n(a); n(1); e(b, c)"), facts(t, "e(a, b); n(0)")
	l := live(t, nil, base)
	for _, f := range more {
		inserts(t, l, f, true, api.OK)
	}
	installs(t, l, given, api.OK)
	want := state(l)
	for _, f := range append(base, more...) {
		for k := range f.Args {
			f.Args[k] = word("zzz")
		}
	}
	clear(base)
	for i := range given {
		for k := range given[i].Body {
			clear(given[i].Body[k].Args)
		}
		clear(given[i].Body)
		clear(given[i].Head.Args)
	}
	clear(given)
	if got := state(l); got != want {
		t.Errorf("P0.3: %s; it was %s", got, want)
	}
	inserts(t, l, factOf(t, "e(c, a)"), true, api.OK)
}

// Names and words are not pieces of texts that were handed in.
func TestTextsAreNotKept(t *testing.T) {
	text := "headbasewordhardnewsmoreVars" + strings.Repeat(" ", 1000)
	head, base, inFact, inRule, news, more, name := text[0:4], text[4:8], text[8:12], text[12:16], text[16:20], text[20:24], text[24:28]
	x := vary(name)
	given := []api.Rule{{Head: literal(api.LAtom, head, x, word(inRule)), Body: []api.Literal{literal(api.LAtom, base, x)}}}
	l := live(t, given, []api.Fact{fact(base, word(inFact))})
	inserts(t, l, fact(base, word(more)), true, api.OK)
	inserts(t, l, fact(news, word(news)), true, api.OK)
	low := uintptr(unsafe.Pointer(unsafe.StringData(text)))
	within := func(s string) bool {
		at := uintptr(unsafe.Pointer(unsafe.StringData(s)))
		return low <= at && at < low+uintptr(len(text))
	}
	isPiece := func(name string, args []api.Term) bool {
		return within(name) || slices.ContainsFunc(args, func(a api.Term) bool { return within(a.Name) })
	}
	check := func() {
		t.Helper()
		for _, f := range slices.Concat(l.All(), l.Base(), l.Facts(head), l.Facts(base), l.Facts(news)) {
			if isPiece(f.Name, f.Args) {
				t.Errorf("P0.3: %v is a piece of an argument", f)
			}
		}
		for _, r := range l.Rules() {
			for _, b := range append(r.Body, r.Head) {
				if isPiece(b.Name, b.Args) {
					t.Errorf("P0.3: %v is a piece of an argument", b)
				}
			}
		}
		for name := range l.facts {
			if within(name) {
				t.Errorf("P0.3: the name %s is a piece of an argument", name)
			}
		}
	}
	check()
	installs(t, l, given, api.OK)
	check()
	// A name that is told anew is not the argument's either.
	retracts(t, l, fact(base, word(inFact)), true, api.OK)
	inserts(t, l, fact(base, word(inFact)), true, api.OK)
	check()
}

// spoil writes into all of the facts, their spare room too, and asks that none shares memory with those behind it.
func spoil(t *testing.T, what string, l []api.Fact) {
	t.Helper()
	for i, f := range l {
		behind := show(l[i+1:])
		whole := f.Args[:cap(f.Args)]
		for k := range whole {
			whole[k] = num(77)
		}
		if got := show(l[i+1:]); got != behind {
			t.Errorf("P0.3: %s: writing into the fact %d made those behind it %s", what, i, got)
		}
	}
	clear(l[:cap(l)])
}

func spoilLiterals(l []api.Literal) {
	for _, b := range l {
		clear(b.Args[:cap(b.Args)])
	}
	clear(l[:cap(l)])
}

// An answer is new memory, its spare room too: whoever writes into it changes nothing.
func TestAnswersAreNew(t *testing.T) {
	l := live(t, rules(t, closure), facts(t, "n(a); n(1); e(b, c); n(0)"))
	inserts(t, l, factOf(t, "e(a, b)"), true, api.OK)
	want := state(l)
	for what, call := range map[string]func() []api.Fact{"All": l.All, "Base": l.Base, "Facts": func() []api.Fact { return l.Facts("t") }, "Facts of the base": func() []api.Fact { return l.Facts("n") }} {
		first, second := call(), call()
		text := show(second)
		spoil(t, what, first)
		if got := show(second); got != text {
			t.Errorf("P0.3: %s: writing into one answer made another %s", what, got)
		}
	}
	first, second := l.Rules(), l.Rules()
	for i := range first {
		clear(first[i].Head.Args[:cap(first[i].Head.Args)])
		spoilLiterals(first[i].Body)
	}
	clear(first[:cap(first)])
	if got := showRules(second); got != showRules(rules(t, closure)) {
		t.Errorf("P0.3: writing into one answer made another %s", got)
	}
	if got := state(l); got != want {
		t.Errorf("P0.3: writing into answers made %s of %s", got, want)
	}
	inserts(t, l, factOf(t, "e(c, a)"), true, api.OK)
}

// Lives know nothing of one another, and questions change nothing.
func TestLivesAreApart(t *testing.T) {
	given, base := rules(t, closure), facts(t, "n(a); n(1); e(b, c); e(a, b); n(0)")
	first, second := live(t, given, base), live(t, given, base)
	want := state(second)
	for i := range 100 {
		first.Facts(fmt.Sprint("x", i))
		first.Has(fact("n", num(int64(i+2))))
		second.Has(fact("m", num(int64(i+2))))
	}
	inserts(t, first, factOf(t, "e(c, a)"), true, api.OK)
	retracts(t, first, factOf(t, "n(0)"), true, api.OK)
	installs(t, first, nil, api.OK)
	if got := state(second); got != want {
		t.Errorf("P0.5: another one became %s; it was %s", got, want)
	}
	m, _ := model.Make(given, base)
	if show(m.All()) != show(second.All()) {
		t.Errorf("P15.1: %s; want %s", show(second.All()), show(m.All()))
	}
}
