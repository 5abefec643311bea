package image

import (
	"bytes"
	"math/rand"
	"strings"
	"testing"

	"delphi/api"
	"delphi/machine"
)

func pick[T any](r *rand.Rand, list []T) T { return list[r.Intn(len(list))] }

// drawnProgram has at times a fault.
func drawnProgram(r *rand.Rand) string {
	clauses := []string{
		"t(X, Y) :- e(X, Y).", "t(X, Z) :- t(X, Y), e(Y, Z).", "far(X) :- n(X), !t(a, X).", "loop :- t(X, X).", "n2(X) :- n(X), X != -1, -3 <= X.",
		"some(X) :- e(X, Y), -1 < Y, Y = Y.", "lone(X) :- n(X), !some(X), !loop.", "t(-9, 9).", "less(X, Y) :- n(X), n(Y), X < Y.", "ok.",
		"n(z).", "some(X) :- n(X), !lone(X).", "e(X, Y) :- n(X).", "p(",
	}
	var text []string
	for range r.Intn(7) {
		text = append(text, pick(r, clauses))
	}
	return strings.Join(text, " ")
}

func drawnCommand(r *rand.Rand, m *machine.Machine) api.Command {
	constants := []string{"a", "b", "c", "1", "-2", "-2147483648"}
	c := api.Command{Kind: pick(r, []int{1, 2, 2, 2, 2, 3, 3, 4, 4}), Client: 1 + r.Intn(8)}
	switch {
	case c.Kind == api.CInstall:
		c.Text = drawnProgram(r)
	case c.Kind == api.CQuery:
		c.Text = pick(r, []string{"t(X, Y)", "t(a, Y).", "e(X, b)", "n(X)", "far(X)", "less(1, X)", "loop", "ok", "t(X", "n(A, B, C, D, E)"})
	case r.Intn(3) == 0:
		c.Text = "n(" + pick(r, constants) + ")."
	case r.Intn(9) == 0:
		c.Text = pick(r, []string{"t(a, b)", "loop", "ok", "e(a)", "n", "n(X)", "z(1, 2, 3, 4)"})
	default:
		c.Text = "e(" + pick(r, constants) + ", " + pick(r, constants) + ")"
	}
	last, _ := m.Last(c.Client)
	c.Seq = last + pick(r, []int64{-1, 0, 1, 1, 1, 1, 2, 70, 1 << 35})
	return c
}

// At each moment the machine that is loaded goes on as the one that was; and of two machines at any moments the bytes are the same just where rules, facts and lasts are.
func TestDrawn(t *testing.T) {
	r := rand.New(rand.NewSource(19))
	byKey, byImage := map[string]string{}, map[string]string{}
	same := 0
	for range 150 {
		m := machine.New()
		x := loaded(t, Take(m))
		for range 40 {
			alike(t, m, x, drawnCommand(r, m))
			k, b := key(m), Take(m)
			if other, there := byKey[k]; there && other != string(b) {
				t.Fatalf("P19.1: %s: %q, and %q", k, b, other)
			} else if there {
				same++
			}
			if other, there := byImage[string(b)]; there && other != k {
				t.Fatalf("P19.1: the bytes of %s, and of %s: %q", k, other, b)
			}
			byKey[k], byImage[string(b)] = string(b), k
			if r.Intn(3) == 0 {
				x = loaded(t, b)
			}
		}
	}
	if same < 200 || len(byKey) < 1000 {
		t.Errorf("%d machines, %d times the same", len(byKey), same)
	}
}

// The same clients' commands in any order that leaves rules, facts and lasts as they are.
func TestDrawnOrders(t *testing.T) {
	r := rand.New(rand.NewSource(91))
	facts := []string{"n(a)", "n(b)", "e(a, b)", "e(-4, b)", "e(10, b)", "e(9, b)", "flag"}
	var want []byte
	for range 200 {
		m := machine.New()
		r.Shuffle(len(facts), func(i, k int) { facts[i], facts[k] = facts[k], facts[i] })
		install := r.Intn(len(facts))
		for i, fact := range facts {
			if i == install {
				m.Apply(api.Command{Kind: api.CInstall, Client: 1, Seq: 3, Text: pick(r, []string{paths, strings.ReplaceAll(paths, ",", " , ")})})
			}
			m.Apply(api.Command{Kind: api.CInsert, Client: 2, Seq: int64(i + 1), Text: fact})
		}
		b := Take(m)
		if want == nil {
			want = b
		}
		if !bytes.Equal(b, want) {
			t.Fatalf("P19.1: %s: %q, and %q", key(m), b, want)
		}
	}
}
