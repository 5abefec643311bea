package ask

import (
	"slices"
	"strings"
	"testing"

	"delphi/api"
	"delphi/incr"
	"delphi/syntax"
)

// state tells all that a live one tells of itself.
func state(l *incr.Live) string {
	var texts []string
	for _, r := range l.Rules() {
		texts = append(texts, syntax.Print(r))
	}
	return strings.Join(texts, " ") + " ; " + show(l.Base()) + " ; " + show(l.All())
}

// What is handed in, its spare room too, stays as it was, and so does what is asked.
func TestAskingChangesNothing(t *testing.T) {
	l := known(t)
	before := state(l)
	room := []api.Term{vary("X"), vary("X"), word("b"), num(1), vary("Y"), {}, word("zzz")}
	kept := slices.Clone(room)
	for _, name := range []string{"z", "o", "e", "p", "back", "w", "new", ""} {
		for n := range len(room) + 1 {
			for from := range n + 1 {
				Rows(l, atom(name, room[from:n]...))
			}
		}
	}
	for _, text := range []string{"new", "e(newer, 77)", "o(X).", "?", "w(A, B, C, D, E)"} {
		Text(l, text)
	}
	if !slices.Equal(room, kept) {
		t.Errorf("P0.3: the question's terms became %v; they were %v", room, kept)
	}
	if got := state(l); got != before {
		t.Errorf("P0.5: asking made %s of %s", got, before)
	}
}

// An answer is new memory, its spare room too.
func TestAnswersAreNew(t *testing.T) {
	l := known(t)
	before := state(l)
	for _, text := range []string{"e(X, Y)", "p(X, b)", "w(X, Y, Z, W)", "z", "flag", "o(X)"} {
		first, _ := Text(l, text)
		second, _ := Text(l, text)
		q, _ := syntax.Query(text)
		third, fourth := Rows(l, q), Rows(l, q)
		want := strings.Join(second, "|")
		if want == "" {
			t.Errorf("P16.1: %s: no rows", text)
		}
		clear(first[:cap(first)])
		clear(third[:cap(third)])
		for _, other := range [][]string{second, fourth} {
			if got := strings.Join(other, "|"); got != want {
				t.Errorf("P0.3: %s: writing into one answer made another %s; it was %s", text, got, want)
			}
		}
		gives(t, l, text, want)
	}
	if got := state(l); got != before {
		t.Errorf("P0.3: writing into answers made %s of %s", got, before)
	}
}

// A question is not kept: the next one is answered for itself, and other lives know nothing of it.
func TestQuestionsAreApart(t *testing.T) {
	first, second := live(t, "", "e(a, b); e(c, c)"), live(t, "", "e(a, a); e(b, c)")
	q := atom("e", vary("X"), vary("Y"))
	gets(t, first, q, "e(a, b)|e(c, c)")
	q.Args[1] = vary("X")
	gets(t, first, q, "e(c, c)")
	gets(t, second, q, "e(a, a)")
	q.Args[0] = word("b")
	gets(t, second, q, "e(b, c)")
	gets(t, first, q, "")
	q.Args[1] = vary("Y")
	gets(t, first, q, "")
	q.Args[0] = vary("Y")
	gets(t, first, q, "e(c, c)")
}
