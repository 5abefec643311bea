package model

import (
	"fmt"
	"math"
	"slices"
	"strings"
	"testing"
	"unsafe"

	"delphi/api"
)

const mixed = "q(b, 1); q(-3, z); q(10, 2); q(a, b); q(9, -1); q(9, -2); q(a, -5); q(10, a); c; q(ab, 1); q(a_, 1); q(a1, 1)"

func TestFactsRise(t *testing.T) {
	m := made(t, rules(t, "p(X) :- q(X, Y). p(X) :- q(Y, X). r(Y, X) :- q(X, Y). none(X) :- q(X, X)."), facts(t, mixed))
	for name, want := range map[string]string{
		"q":    "q(-3, z) q(9, -2) q(9, -1) q(10, 2) q(10, a) q(a, -5) q(a, b) q(a1, 1) q(a_, 1) q(ab, 1) q(b, 1)",
		"p":    "p(-5) p(-3) p(-2) p(-1) p(1) p(2) p(9) p(10) p(a) p(a1) p(a_) p(ab) p(b) p(z)",
		"r":    "r(-5, a) r(-2, 9) r(-1, 9) r(1, a1) r(1, a_) r(1, ab) r(1, b) r(2, 10) r(a, 10) r(b, a) r(z, -3)",
		"c":    "c",
		"none": "", "": "", "Q": "", "qq": "", "\x00": "", "x": "",
	} {
		if got := show(m.Facts(name)); got != want {
			t.Errorf("P14.2: Facts(%q): %s; want %s", name, got, want)
		}
	}
	if got := show(m.All()); got != show(slices.Concat(m.Facts("c"), m.Facts("p"), m.Facts("q"), m.Facts("r"))) {
		t.Errorf("P14.2: All: %s", got)
	}
	if got := fmt.Sprint(m.Names()); got != "[c p q r]" || m.Len() != 1+14+11+11 {
		t.Errorf("P14.2: names %s, %d rows", got, m.Len())
	}
}

// Names rise by bytes, and are those of predicates that have rows.
func TestNames(t *testing.T) {
	m := made(t, rules(t, "p_ :- b. p1 :- b. pa :- b. p :- b. o :- !b. n(X) :- m(X). a."), facts(t, "b; z(1); z(2)"))
	if got := fmt.Sprint(m.Names()); got != "[a b p p1 p_ pa z]" || m.Len() != 8 {
		t.Errorf("P14.2: names %s, %d rows", got, m.Len())
	}
	if names := made(t, rules(t, "p :- q."), nil).Names(); len(names) != 0 {
		t.Errorf("P14.2: names of a model without rows: %q", names)
	}
}

func TestHas(t *testing.T) {
	m := made(t, rules(t, "p(X) :- q(X, Y). r(k, X) :- p(X), X != a. yes. no :- c, !yes."), facts(t, mixed))
	for _, f := range m.All() {
		if !m.Has(f) {
			t.Errorf("P14.2: Has(%v): false", f)
		}
		if more := fact(f.Name, append(slices.Clone(f.Args), num(1))...); m.Has(more) {
			t.Errorf("P14.2: Has(%v): true", more)
		}
		if len(f.Args) > 0 && m.Has(fact(f.Name, f.Args[1:]...)) {
			t.Errorf("P14.2: Has(%v) without its first term: true", f)
		}
		if m.Has(fact(f.Name+"x", f.Args...)) || m.Has(fact(strings.ToUpper(f.Name), f.Args...)) {
			t.Errorf("P14.2: Has(%v) by another name: true", f)
		}
	}
	for _, f := range facts(t, "q(1, b); q(9, 0); q(a, a); q(11, a); q(-4, z); p(z); p(c); p; no; r(k, a); r(a, k); x; q; q(9); q(9, -1, 0)") {
		if m.Has(f) {
			t.Errorf("P14.2: Has(%v): true", f)
		}
	}
	if !m.Has(api.Fact{Name: "c", Args: []api.Term{}}) || !m.Has(api.Fact{Name: "c"}) {
		t.Error("P0.4: a fact without terms")
	}
}

// A fact that may not be is not there, however near it comes to one that is.
func TestHasOfWhatMayNotBe(t *testing.T) {
	m := made(t, nil, facts(t, "n(5); n(a); n(0); b(5, a); b(a, 5); c"))
	for _, x := range append(badTerms(), vary("X"), vary("A"), api.Term{Kind: api.TInt, Name: "a", Num: 5}, api.Term{Kind: api.TWord, Name: "a", Num: 5}, api.Term{Name: "a"}, api.Term{Num: 5}) {
		for _, f := range []api.Fact{fact("n", x), fact("b", x, word("a")), fact("b", num(5), x), fact("b", word("a"), x), fact("b", x, num(5)), fact("b", x, x), fact("c", x), fact("", x)} {
			if m.Has(f) {
				t.Errorf("P14.2: Has(%v): true", f)
			}
		}
	}
	for _, name := range badNames() {
		if m.Has(fact(name)) || m.Has(fact(name, num(5))) {
			t.Errorf("P14.2: Has of the name %.20q: true", name)
		}
	}
	if m.Has(fact("n", slices.Repeat([]api.Term{num(5)}, 1000000)...)) || m.Has(fact("n", num(math.MaxInt64))) || m.Has(api.Fact{}) {
		t.Error("P14.2: Has of long, great and empty things: true")
	}
}

func TestNoModel(t *testing.T) {
	for _, m := range []*Model{nil, {}} {
		if len(m.Facts("p"))+len(m.Facts(""))+len(m.All())+len(m.Names())+m.Len() != 0 || m.Has(api.Fact{}) || m.Has(fact("p", num(1))) {
			t.Errorf("P14.2: %v has rows", m)
		}
	}
}

func copiedRules(l []api.Rule) []api.Rule {
	c := slices.Clone(l)
	for i, r := range l {
		c[i].Head.Args = slices.Clone(r.Head.Args)
		c[i].Body = slices.Clone(r.Body)
		for k, b := range r.Body {
			c[i].Body[k].Args = slices.Clone(b.Args)
		}
	}
	return c
}

func copiedFacts(l []api.Fact) []api.Fact {
	c := slices.Clone(l)
	for i, f := range l {
		c[i].Args = slices.Clone(f.Args)
	}
	return c
}

func sameFact(a, b api.Fact) bool { return a.Name == b.Name && slices.Equal(a.Args, b.Args) }

func sameLiteral(a, b api.Literal) bool {
	return a.Kind == b.Kind && a.Name == b.Name && slices.Equal(a.Args, b.Args)
}

func sameRule(a, b api.Rule) bool {
	return sameLiteral(a.Head, b.Head) && slices.EqualFunc(a.Body, b.Body, sameLiteral)
}

const closure = "t(X, Y) :- e(X, Y). t(X, Z) :- t(X, Y), e(Y, Z), X != Z. lone(X, k) :- n(X), !t(X, X), !t(X, k)."

// What is handed in, its spare room too, stays as it was.
func TestNothingIsChanged(t *testing.T) {
	room, base := rules(t, closure+" spare(X) :- n(X), !n(k)."), facts(t, "n(a); n(1); e(b, c); e(a, b); e(a, b); n(0); spare(9)")
	beforeRules, beforeFacts := copiedRules(room), copiedFacts(base)
	for n := range len(room) + 1 {
		for k := range len(base) + 1 {
			Make(room[:n], base[:k])
		}
	}
	short := copiedRules(room)
	for i := range short {
		short[i].Body, short[i].Head.Args = room[i].Body[:1], room[i].Head.Args[:1]
	}
	Make(short, base)
	m := made(t, room[:3], base[:6])
	for _, f := range base {
		m.Has(api.Fact{Name: f.Name, Args: f.Args[:0]})
		m.Has(f)
	}
	if !slices.EqualFunc(room, beforeRules, sameRule) {
		t.Errorf("P0.3: the rules became %s", showRules(room))
	}
	if !slices.EqualFunc(base, beforeFacts, sameFact) {
		t.Errorf("P0.3: the facts became %s", show(base))
	}
}

// What is handed in is not kept either: the model stays when it is written into.
func TestNothingIsKept(t *testing.T) {
	l, base := rules(t, closure), facts(t, "n(a); n(1); e(b, c); e(a, b); n(0)")
	m := made(t, l, base)
	want := show(m.All())
	for i := range base {
		for k := range base[i].Args {
			base[i].Args[k] = word("zzz")
		}
		base[i] = fact("zzz")
	}
	for i := range l {
		for _, b := range l[i].Body {
			clear(b.Args)
		}
		clear(l[i].Head.Args)
		l[i] = rule(atom("zzz"))
	}
	if got := show(m.All()); got != want || m.Has(fact("zzz")) || !m.Has(fact("e", word("b"), word("c"))) {
		t.Errorf("P0.3: the model became %s", got)
	}
}

// Names and words of the model are not pieces of texts that were handed in.
func TestTextsAreNotKept(t *testing.T) {
	text := "headbasewordhard" + strings.Repeat(" ", 1000)
	head, base, inFact, inRule := text[0:4], text[4:8], text[8:12], text[12:16]
	x := vary("X")
	m := made(t, []api.Rule{rule(atom(head, x, word(inRule)), atom(base, x))}, []api.Fact{fact(base, word(inFact))})
	low := uintptr(unsafe.Pointer(unsafe.StringData(text)))
	within := func(s string) bool {
		at := uintptr(unsafe.Pointer(unsafe.StringData(s)))
		return low <= at && at < low+uintptr(len(text))
	}
	for _, f := range slices.Concat(m.All(), m.Facts(head), m.Facts(base)) {
		if within(f.Name) || slices.ContainsFunc(f.Args, func(a api.Term) bool { return within(a.Name) }) {
			t.Errorf("P0.3: %v is a piece of the argument", f)
		}
	}
	if slices.ContainsFunc(m.Names(), within) {
		t.Error("P0.3: a name is a piece of the argument")
	}
}

// An answer is new memory, its spare room too: whoever writes into it changes no other answer, nor the model; and no two lists of it share any.
func TestAnswersAreNew(t *testing.T) {
	m := made(t, rules(t, closure), facts(t, "n(a); n(1); e(b, c); e(a, b); n(0)"))
	want, names := show(m.All()), fmt.Sprint(m.Names())
	for what, call := range map[string]func() []api.Fact{"All": m.All, "Facts": func() []api.Fact { return m.Facts("t") }} {
		first, second := call(), call()
		text := show(second)
		for i, f := range first {
			behind := show(first[i+1:])
			whole := f.Args[:cap(f.Args)]
			for k := range whole {
				whole[k] = num(77)
			}
			if got := show(first[i+1:]); got != behind {
				t.Errorf("P0.3: %s: writing into the fact %d made those behind it %s", what, i, got)
			}
		}
		clear(first[:cap(first)])
		if got := show(second); got != text {
			t.Errorf("P0.3: %s: writing into one answer made another %s", what, got)
		}
	}
	told := m.Names()
	clear(told[:cap(told)])
	if got := show(m.All()); got != want || fmt.Sprint(m.Names()) != names || m.Len() != len(m.All()) {
		t.Errorf("P0.3: writing into answers made the model %s", got)
	}
}

// Questions change nothing, and models know nothing of one another.
func TestQuestionsLeaveNothing(t *testing.T) {
	l, base := rules(t, closure), facts(t, "n(a); n(1); e(b, c); e(a, b); n(0)")
	m, other := made(t, l, base), made(t, nil, facts(t, "other(1)"))
	want := show(m.All())
	for i := range 1000 {
		f := fact("n", num(int64(i+2)))
		m.Facts(fmt.Sprint("x", i))
		if m.Has(f) || m.Has(f) || m.Has(fact("new", num(1))) {
			t.Fatalf("P14.2: Has(%v): true", f)
		}
	}
	if got := show(m.All()); got != want || show(other.All()) != "other(1)" || show(made(t, l, base).All()) != want {
		t.Errorf("P0.5: the models became %s and %s", got, show(other.All()))
	}
}
