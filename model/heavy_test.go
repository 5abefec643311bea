package model

import (
	"testing"

	"delphi/api"
)

// chain gives name(0, 1), name(1, 2), ..
func chain(name string, n int64) []api.Fact {
	var l []api.Fact
	for i := range n {
		l = append(l, fact(name, num(i), num(i+1)))
	}
	return l
}

// grid gives all pairs of n numbers.
func grid(name string, n int64) []api.Fact {
	var l []api.Fact
	for a := range n {
		for b := range n {
			l = append(l, fact(name, num(a), num(b)))
		}
	}
	return l
}

// broad gives a hundred rows of four constants each, all different.
func broad() []api.Fact {
	var l []api.Fact
	for i := range int64(100) {
		l = append(l, fact("q", num(i), num(100+i), num(200+i), num(300+i)))
	}
	return l
}

// Rules that have very many rows, or very many ways to few, end soon.
func TestEnds(t *testing.T) {
	const all = "c(A) :- q(A, B, C, D). c(B) :- q(A, B, C, D). c(C) :- q(A, B, C, D). c(D) :- q(A, B, C, D). "
	for _, c := range []struct {
		text string
		base []api.Fact
		want int // rows; 0: too many
	}{
		{"p(A, B, C, D) :- b(A), b(B), b(C), b(D).", numbered("b", 100), 0},
		{"p(A, B, C, D) :- b(A), b(B), b(C), b(D), b(E), b(F).", numbered("b", 100), 0},
		{"p(A, B, C, D) :- b(A), b(B), b(C), b(D), A < B, C < D.", numbered("b", 100), 0},
		{"p(A, B, C, D) :- b(A), b(B), b(C), b(D), !f(A, B, C, D), A < B.", numbered("b", 100), 0},
		{"p(A, B, C, D) :- b(A), b(B), b(C), b(D), A < B, B < A.", numbered("b", 100), 100},
		{"p(A, B, C, D) :- b(A), b(B), b(C), b(D), b(E), E < E.", numbered("b", 100), 100},
		{"p(A, B, C, D) :- b(A), b(B), b(C), b(D), none(D).", numbered("b", 100), 100},
		{"p(A, B) :- b(A), b(B), b(C), b(D), b(E), !f(A, C, D, E).", numbered("b", 100), 0},
		{"p(A) :- b(A), b(B), b(C), b(D), !f(A, B, C, D).", numbered("b", 100), 200},
		{"p :- b(A), b(B), b(C), b(D), !f(A, B, C, D), !f(D, C, B, A).", numbered("b", 100), 101},
		{"p :- b(A), b(B), b(C), b(D), b(E), b(F).", numbered("b", 100), 101},
		{"p(A) :- b(A), b(B), b(C), A < B, B < C, C < A.", numbered("b", 100), 100},
		{"p(A, G) :- e(A, B), e(B, C), e(C, D), e(D, E), e(E, F), e(F, G).", grid("e", 10), 200},
		{"p(A) :- e(A, B), e(A, C), e(A, D), e(A, E), e(A, F), e(A, G).", grid("e", 10), 110},
		{"t(X, Y) :- e(X, Y). t(X, Z) :- t(X, Y), t(Y, Z).", chain("e", 43), 43 + 43*44/2},
		{"t(X, Y) :- e(X, Y). t(X, Z) :- t(X, Y), t(Y, Z).", chain("e", 44), 0},
		{"t(X, Y) :- e(X, Y). t(X, Z) :- t(X, Y), t(Y, Z).", chain("e", 100), 0},
		{"t(X, Y) :- e(X, Y). t(X, Z) :- t(X, Y), t(Y, Z). p(A) :- t(A, B), t(B, C), t(C, D), t(D, E), t(E, F), t(F, G).", chain("e", 42), 42 + 42*43/2 + 37},
		{"p(X, Y, Z, W) :- p(Y, Z, W, X), b(X). p(X, Y, Z, W) :- p(X, Y, Z, V), b(W). p(0, 0, 0, 0).", numbered("b", 100), 0},
		{"p(X, Y, Z, W) :- p(X, Y, Z, V), b(W). p(0, 0, 0, 0).", numbered("b", 100), 200},
		{all + "p(X, Y, Z, W) :- c(X), c(Y), c(Z), c(W), !q(X, Y, Z, W), X != Y.", broad(), 0},
		{all + "p(X, Y, Z, W) :- c(X), c(Y), c(Z), c(W), X < Y, Z < W.", broad(), 0},
		{all + "p(X) :- c(X), c(Y), c(Z), c(W), !q(X, Y, Z, W).", broad(), 900},
		{all + "p :- c(X), c(Y), c(Z), c(W), !q(X, Y, Z, W).", broad(), 501},
		{all + "p(A, E) :- q(A, B, C, D), q(E, F, G, H), q(I, J, K, L), A < E, E < I, I < A.", broad(), 500},
	} {
		if c.want == 0 {
			refused(t, api.ErrFull, rules(t, c.text), c.base)
		} else if m := made(t, rules(t, c.text), c.base); m.Len() != c.want {
			t.Errorf("P14.1: %s: %d rows; want %d", c.text, m.Len(), c.want)
		}
	}
}
