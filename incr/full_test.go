package incr

import (
	"fmt"
	"runtime"
	"slices"
	"testing"

	"delphi/api"
)

// With 31 of b the pairs are 961, with eight facts more the model has a thousand rows.
func TestInsertFull(t *testing.T) {
	l := live(t, rules(t, "p(X, Y) :- b(X), b(Y)."), append(numbered("b", 30), numbered("c", 8)...))
	inserts(t, l, fact("b", num(30)), true, api.OK)
	if n := len(l.All()); n != 1000 {
		t.Fatalf("P15.1: %d rows; want a thousand", n)
	}
	for _, text := range []string{"c(8)", "d", "b(31)", "b(a)"} {
		inserts(t, l, factOf(t, text), false, api.ErrFull)
	}
	inserts(t, l, factOf(t, "c(7)"), false, api.OK)
	retracts(t, l, factOf(t, "c(7)"), true, api.OK)
	inserts(t, l, factOf(t, "d"), true, api.OK)
	inserts(t, l, factOf(t, "b(a)"), false, api.ErrFull)
	retracts(t, l, factOf(t, "b(0)"), true, api.OK)
	inserts(t, l, factOf(t, "b(a)"), true, api.OK)
	if n := len(l.All()); n != 1000 {
		t.Errorf("P15.1: %d rows; want a thousand", n)
	}
}

// Negation gives more rows where a fact goes.
func TestRetractFull(t *testing.T) {
	for _, text := range []string{
		"p(X, Y) :- b(X), b(Y), !off.",
		"p(X, Y) :- b(X), b(Y), !low. low :- off.",
		"p(X, Y) :- b(X), b(Y), high. high :- !off.",
		"p(X, Y) :- q(X), q(Y). q(X) :- b(X), !off.",
	} {
		l := live(t, rules(t, text), append(numbered("b", 34), fact("off")))
		retracts(t, l, fact("off"), false, api.ErrFull)
		for i := range int64(5) {
			retracts(t, l, fact("b", num(i)), true, api.OK)
		}
		retracts(t, l, fact("off"), true, api.OK)
		inserts(t, l, fact("off"), true, api.OK)
	}
	l := live(t, rules(t, "p(X, Y) :- b(X), b(Y), !off."), slices.Concat(numbered("b", 31), numbered("c", 8), facts(t, "off; d")))
	retracts(t, l, fact("off"), false, api.ErrFull)
	retracts(t, l, fact("d"), true, api.OK)
	retracts(t, l, fact("off"), true, api.OK)
	if n := len(l.All()); n != 1000 {
		t.Errorf("P15.1: %d rows; want a thousand", n)
	}
	inserts(t, l, fact("d"), false, api.ErrFull)
}

// What comes below may let as much go above: only the model that is made counts, not what stands there on the way.
func TestRowsThatMakeRoom(t *testing.T) {
	for _, text := range []string{
		"low(X, Y) :- b(X), b(Y), on. high(X, Y) :- c(X), c(Y), !on.",
		"low(X, Y) :- b(X), b(Y), on. high(X, Y) :- c(X), c(Y), !mid. mid :- on.",
		"high(X, Y) :- c(X), c(Y), !mid. mid :- !off. off :- !on. low(X, Y) :- b(X), b(Y), on.",
		"high(X, Y) :- c(X), c(Y), !low(X, Y). low(X, Y) :- b(X), b(Y), on.",
		"high(X, Y) :- c(X), c(Y), !low(0, 0). low(X, Y) :- b(X), b(Y), on. top(X) :- c(X), !high(X, X).",
	} {
		l := live(t, rules(t, text), append(numbered("b", 29), numbered("c", 29)...))
		for range 3 {
			inserts(t, l, fact("on"), true, api.OK)
			retracts(t, l, fact("on"), true, api.OK)
		}
	}
	l := live(t, rules(t, "p(X, Y) :- b(X), b(Y), on. p(X, Y) :- b(Y), b(X), !on. q :- p(0, 0)."), append(numbered("b", 31), numbered("c", 6)...))
	inserts(t, l, fact("on"), true, api.OK)
	if n := len(l.All()); n != 1000 {
		t.Errorf("P15.1: %d rows; want a thousand", n)
	}
	retracts(t, l, fact("on"), true, api.OK)
}

// The two halves of what is too much may stand in two strata, of which the change reaches only one.
func TestFullTogether(t *testing.T) {
	for _, text := range []string{
		"p(X, Y) :- b(X), b(Y). q(X, Y) :- c(X), c(Y).",
		"p(X, Y) :- b(X), b(Y). q(X, Y) :- c(X), c(Y), !r. r :- none(X).",
		"p(X, Y) :- b(X), b(Y), !r. q(X, Y) :- c(X), c(Y). r :- none(X).",
		"p(X, Y) :- b(X), b(Y), !r. q(X, Y) :- c(X), c(Y), !s. r :- none(X). s :- !z. z :- !none(0).",
	} {
		l := live(t, rules(t, text), nil)
		for i := range int64(21) {
			inserts(t, l, fact("b", num(i)), true, api.OK)
			inserts(t, l, fact("c", num(i)), true, api.OK)
		}
		free := api.MaxRows - len(l.All())
		for i := 0; i < free && len(l.Base()) < api.MaxBase; i++ {
			inserts(t, l, fact("d", num(int64(i))), true, api.OK)
		}
		if n := len(l.Base()); n != api.MaxBase {
			t.Fatalf("%s: %d base facts, %d rows", text, n, len(l.All()))
		}
		for i := range int64(30) {
			retracts(t, l, fact("d", num(i)), true, api.OK)
		}
		inserts(t, l, fact("b", num(21)), true, api.OK)
		inserts(t, l, fact("c", num(21)), false, api.ErrFull)
		inserts(t, l, fact("b", num(22)), false, api.ErrFull)
		retracts(t, l, fact("b", num(3)), true, api.OK)
		inserts(t, l, fact("c", num(21)), true, api.OK)
	}
}

// grid gives all pairs of n numbers.
func grid(name string, n int64) []api.Fact {
	var l []api.Fact
	for a := range n {
		for b := range n {
			l = append(l, fact(name, num(a), num(b)))
		}
	}
	return l
}

// broad gives a hundred rows of four constants each, all different.
func broad() []api.Fact {
	var l []api.Fact
	for i := range int64(99) {
		l = append(l, fact("q", num(i), num(100+i), num(200+i), num(300+i)))
	}
	return l
}

// Changes that give very many rows, or lose and give few in very many ways, end soon.
func TestEnds(t *testing.T) {
	const all = "c(A) :- q(A, B, C, D). c(B) :- q(A, B, C, D). c(C) :- q(A, B, C, D). c(D) :- q(A, B, C, D). "
	for _, c := range []struct {
		text string
		base []api.Fact
		last string
		want api.Errno
	}{
		{"p(A, B, C, D) :- b(A), b(B), b(C), b(D), on.", numbered("b", 99), "on", api.ErrFull},
		{"p(A, B, C, D) :- b(A), b(B), b(C), b(D), on, A < B.", numbered("b", 99), "on", api.ErrFull},
		{"p(A, B, C, D) :- b(A), b(B), b(C), b(D), !f(A, B, C, D), on.", numbered("b", 99), "on", api.ErrFull},
		{"p(A) :- b(A), b(B), b(C), b(D), !f(A, B, C, D).", numbered("b", 99), "b(99)", api.OK},
		{"p :- b(A), b(B), b(C), b(D), b(E), b(F).", numbered("b", 99), "b(99)", api.OK},
		{"p(A) :- b(A), b(B), b(C), A < B, B < C, C < A.", numbered("b", 99), "b(99)", api.OK},
		{"p(A, G) :- e(A, B), e(B, C), e(C, D), e(D, E), e(E, F), e(F, G).", grid("e", 9), "e(3, 9)", api.OK},
		{"p(A) :- e(A, B), e(A, C), e(A, D), e(A, E), e(A, F), e(A, G).", grid("e", 9), "e(9, 9)", api.OK},
		{"t(X, Y) :- e(X, Y). t(X, Z) :- t(X, Y), t(Y, Z).", grid("e", 9), "e(3, 9)", api.OK},
		{all + "p(X) :- c(X), c(Y), c(Z), c(W), !q(X, Y, Z, W).", broad(), "q(a, b, 1, 2)", api.OK},
		{all + "p(X, Y, Z, W) :- c(X), c(Y), c(Z), c(W), on.", broad(), "on", api.ErrFull},
		{all + "p :- c(X), c(Y), c(Z), c(W), !q(X, Y, Z, W).", broad(), "q(a, b, c, d)", api.OK},
	} {
		l := live(t, rules(t, c.text), c.base)
		inserts(t, l, factOf(t, c.last), c.want == api.OK, c.want)
		if c.want == api.OK {
			retracts(t, l, factOf(t, c.last), true, api.OK)
		}
		retracts(t, l, c.base[0], true, api.OK)
		inserts(t, l, c.base[0], true, api.OK)
	}
}

// A chain is as long as the rounds that a change needs.
func TestManyRounds(t *testing.T) {
	l := live(t, rules(t, "c(0, 0, 9) :- on. c(A, B, D) :- c(A, B, C), s(C, D). c(A, D, 0) :- c(A, B, 9), s(B, D). c(D, 0, 0) :- c(A, 9, 9), s(A, D)."), nil)
	for i := range int64(9) {
		inserts(t, l, fact("s", num(i), num(i+1)), true, api.OK)
	}
	inserts(t, l, fact("on"), false, api.ErrFull)
	retracts(t, l, fact("s", num(4), num(5)), true, api.OK)
	inserts(t, l, fact("on"), true, api.OK)
	inserts(t, l, fact("s", num(4), num(6)), true, api.OK)
	retracts(t, l, fact("on"), true, api.OK)
	if n := len(l.All()); n != 9 {
		t.Errorf("P15.1: %d rows; want nine", n)
	}
}

func heldBytes() uint64 {
	runtime.GC()
	var m runtime.MemStats
	runtime.ReadMemStats(&m)
	return m.HeapAlloc
}

// What went leaves nothing behind, and neither does what was refused.
func TestNothingGathers(t *testing.T) {
	l := live(t, rules(t, "p(A, B, C, D) :- b(A), b(B), b(C), b(D), on(X). r(X) :- c(X), !s(X)."), numbered("b", 8))
	comeAndGo := func(n int) {
		for i := range n {
			name := fmt.Sprintf("w%d", i)
			if ok, err := l.Insert(fact("on", word(name))); ok || err != api.ErrFull {
				t.Fatalf("P15.1: %t, %d", ok, err)
			}
			for _, f := range []api.Fact{fact(name), fact("c", word(name)), fact("new", num(int64(i)), word(name))} {
				came, _ := l.Insert(f)
				went, _ := l.Retract(f)
				if !came || !went {
					t.Fatalf("P15.1: %v: %t, %t", f, came, went)
				}
			}
		}
	}
	comeAndGo(100)
	before := heldBytes()
	comeAndGo(3000)
	if after := heldBytes(); after > before+100000 {
		t.Errorf("P15.1: %d bytes are held; there were %d", after, before)
	}
	runtime.KeepAlive(l)
}
