package image

import (
	"fmt"
	"strings"
	"testing"

	"delphi/api"
	"delphi/machine"
	"delphi/syntax"
	"delphi/value"
)

// texts counts the bytes of a machine's rules, facts and replies as texts, with nothing between them.
func texts(m *machine.Machine) int {
	n := 0
	for _, r := range m.Rules() {
		n += len(strings.ReplaceAll(syntax.Print(r), " ", ""))
	}
	for _, f := range m.Base() {
		n += len(value.Fact(f))
	}
	for client := 1; client <= 8; client++ {
		_, r := m.Last(client)
		n += len(strings.Join(r.Rows, ""))
	}
	return n
}

// fits checks a machine of almost as many texts as the bound speaks of.
func fits(t *testing.T, m *machine.Machine) {
	t.Helper()
	if n := texts(m); n < 14900 || n > 15000 {
		t.Fatalf("%d bytes of texts", n)
	}
	b := Take(m)
	if len(b) > 20000 {
		t.Errorf("P19.1: %d bytes for %d bytes of texts", len(b), texts(m))
	}
	if got := state(loaded(t, b)); got != state(m) {
		t.Errorf("P19.1: %.600s, and not %.600s", got, state(m))
	}
}

// words gives the constants that are shortest: of one byte, then of two.
func words(n int) []string {
	const letters = "abcdefghijklmnopqrstuvwxyz"
	var all []string
	for i := range 10 {
		all = append(all, fmt.Sprint(i))
	}
	all = append(all, strings.Split(letters, "")...)
	for _, a := range letters {
		for _, b := range letters {
			all = append(all, string(a)+string(b))
		}
	}
	return all[:n]
}

// Replies of as many rows as go, each as short as it goes.
func TestSizeOfShortRows(t *testing.T) {
	m := machine.New()
	does(t, m, api.CInstall, 1, "p(X):-b(X,Y,Z,W).p(X):-b(Y,X,Z,W).p(X):-b(Y,Z,X,W).p(X):-b(Y,Z,W,X).", changes)
	all := words(400)
	for i := 0; i < 400; i += 4 {
		does(t, m, api.CInsert, 1, "b("+strings.Join(all[i:i+4], ",")+")", changes)
	}
	seq := int64(1 << 40)
	for client := 1; client <= 6; client++ {
		m.Apply(api.Command{Kind: api.CQuery, Client: client, Seq: seq, Text: "p(X)"})
	}
	// One reply more of as many rows as there is room for.
	for i := 0; texts(m) > 15000-(400-i)*5; i += 4 {
		does(t, m, api.CRetract, 7, "b("+strings.Join(all[396-i:400-i], ",")+")", changes)
	}
	m.Apply(api.Command{Kind: api.CQuery, Client: 7, Seq: seq, Text: "p(X)"})
	fits(t, m)
}

// Replies of rows that are long, and whose lengths take a byte more.
func TestSizeOfLongRows(t *testing.T) {
	m := machine.New()
	for i := 10; i < 97; i++ {
		does(t, m, api.CInsert, 1, fmt.Sprintf("abcdefghijklmnop(%d, %s)", i, strings.Repeat("z", 14)), changes)
	}
	for client := 1; client <= 3; client++ {
		does(t, m, api.CQuery, client, "abcdefghijklmnop(X, Y)", told(m.Ask("abcdefghijklmnop(X, Y)")))
	}
	does(t, m, api.CInstall, 4, longProgram(1, 20), changes)
	fits(t, m)
}

// longProgram gives a program of as many rules, literals and terms as go, without blanks, with constants of so many bytes in its bodies; so many bytes more stand in its heads, at most 15 in each.
func longProgram(size, more int) string {
	var text strings.Builder
	for i := range 30 {
		grown := min(more, 15)
		more -= grown
		fmt.Fprintf(&text, "p(X,Y,%d,a%s):-", i%10, strings.Repeat("b", grown))
		text.WriteString(strings.Repeat("q(X,Y,Y,"+strings.Repeat("c", size)+"),", 5) + "!q(X,X,X,Y).")
	}
	return text.String()
}

// A program that is short enough to be installed may be too long as Print writes it.
func TestLongProgram(t *testing.T) {
	text := longProgram(11, 130)
	if len(text) != 4000 {
		t.Fatalf("%d bytes", len(text))
	}
	m := machine.New()
	does(t, m, api.CInstall, 1, text, changes)
	if n := len(showRules(m.Rules())); n < 4500 {
		t.Fatalf("%d bytes as it is printed", n)
	}
	does(t, m, api.CInsert, 1, "q(a, b, b, ccccccccccc)", changes)
	x := loaded(t, Take(m))
	if got := state(x); got != state(m) || len(x.All()) != 20 {
		t.Errorf("P19.1: %.600s, and not %.600s", got, state(m))
	}
}

// Replies may be many more than the bound: such an image is long, and is one all the same.
func TestLongReplies(t *testing.T) {
	m := machine.New()
	does(t, m, api.CInstall, 1, "abcdefghijklmnop(X,Y,Z,W):-n(X),n(Y),n(Z),n(W).", changes)
	for i := range 5 {
		does(t, m, api.CInsert, 1, fmt.Sprintf("n(abcdefghijklmno%d)", i), changes)
	}
	for client := 1; client <= 8; client++ {
		does(t, m, api.CQuery, client, "abcdefghijklmnop(X,Y,Z,W)", told(m.Ask("abcdefghijklmnop(X,Y,Z,W)")))
	}
	b := Take(m)
	if len(b) < 1<<18 {
		t.Fatalf("%d bytes", len(b))
	}
	alike(t, m, loaded(t, b), api.Command{Kind: api.CQuery, Client: 8, Seq: 1, Text: "n(X)"})
}
