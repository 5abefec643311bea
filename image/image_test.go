package image

import (
	"bytes"
	"fmt"
	"strings"
	"testing"

	"delphi/api"
	"delphi/machine"
	"delphi/syntax"
	"delphi/value"
)

// told tells a reply: its error, whether something changed, its rows with a | between them.
func told(r api.Reply) string {
	return fmt.Sprint(int(r.Err), " ", r.Changed, " ", strings.Join(r.Rows, "|"))
}

const changes = "0 true "

func show(facts []api.Fact) string {
	texts := make([]string, len(facts))
	for i, f := range facts {
		texts[i] = value.Fact(f)
	}
	return strings.Join(texts, " ")
}

func showRules(rules []api.Rule) string {
	texts := make([]string, len(rules))
	for i, r := range rules {
		texts[i] = syntax.Print(r)
	}
	return strings.Join(texts, " ")
}

// key tells a machine's rules, facts and clients' lasts.
func key(m *machine.Machine) string {
	text := showRules(m.Rules()) + " ; " + show(m.Base())
	for client := 1; client <= 8; client++ {
		seq, r := m.Last(client)
		text += fmt.Sprintf(" ; %d: %d %s", client, seq, told(r))
	}
	return text
}

// state tells all that a machine tells of itself.
func state(m *machine.Machine) string { return key(m) + " ; " + show(m.All()) }

// does lets a machine do a command with the client's next number.
func does(t *testing.T, m *machine.Machine, kind, client int, text, want string) {
	t.Helper()
	seq, _ := m.Last(client)
	if got := told(m.Apply(api.Command{Kind: kind, Client: client, Seq: seq + 1, Text: text})); got != want {
		t.Fatalf("%d %.60q: %.200s; want %s", kind, text, got, want)
	}
}

const paths = "t(X,Y):-e(X,Y).t(X,Z):-t(X,Y),e(Y,Z).far(X):-n(X),!t(a,X),X!=-3."

// known gives a machine with rules and facts, and lasts of the clients 1, 3 and 8.
func known(t *testing.T) *machine.Machine {
	t.Helper()
	m := machine.New()
	does(t, m, api.CInstall, 1, paths, changes)
	for _, fact := range []string{"e(b, c)", "n(d)", "n(-3)", "e(a, b)", "flag"} {
		does(t, m, api.CInsert, 1, fact, changes)
	}
	m.Apply(api.Command{Kind: api.CQuery, Client: 3, Seq: 41, Text: "t(X, Y)"})
	does(t, m, api.CInsert, 8, "t(a, b)", "9 false ")
	return m
}

// loaded gives the machine of an image, which must be one, and whose own image must be the same.
func loaded(t *testing.T, b []byte) *machine.Machine {
	t.Helper()
	m, err := Load(b)
	if m == nil || err != api.OK {
		t.Fatalf("P19.1: Load(%.200q): error %d", b, err)
	}
	if again := Take(m); !bytes.Equal(again, b) {
		t.Fatalf("P19.1: Load(%.200q) has the image %.200q", b, again)
	}
	return m
}

// alike lets two machines do a command: they must tell the same of it and behind it.
func alike(t *testing.T, one, two *machine.Machine, c api.Command) {
	t.Helper()
	before := state(one)
	if a, b := told(one.Apply(c)), told(two.Apply(c)); a != b {
		t.Fatalf("P19.1: %.600s: %.200v: %.200s, and not %.200s", before, c, b, a)
	}
	if a, b := told(one.Ask(c.Text)), told(two.Ask(c.Text)); a != b {
		t.Fatalf("P19.1: %.600s: Ask(%.200q): %.200s, and not %.200s", before, c.Text, b, a)
	}
	if a, b := state(one), state(two); a != b {
		t.Fatalf("P19.1: %.600s: %.200v made %.600s, and not %.600s", before, c, b, a)
	}
	if !bytes.Equal(Take(one), Take(two)) {
		t.Fatalf("P19.1: %.600s: %.200v: other bytes", before, c)
	}
}

func TestLoadedAnswersTheSame(t *testing.T) {
	for _, c := range []api.Command{
		{Kind: api.CInsert, Client: 1, Seq: 6, Text: "n(new)"},
		{Kind: api.CQuery, Client: 1, Seq: 6, Text: "n(X)"},
		{Kind: api.CInsert, Client: 1, Seq: 5, Text: "n(new)"},
		{Kind: api.CInsert, Client: 1, Seq: 7, Text: "n(new)"},
		{Kind: api.CQuery, Client: 3, Seq: 41, Text: "z"},
		{Kind: api.CQuery, Client: 3, Seq: 40, Text: "t(X, Y)"},
		{Kind: api.CQuery, Client: 3, Seq: 42, Text: "far(X)"},
		{Kind: api.CInsert, Client: 8, Seq: 1, Text: "n(new)"},
		{Kind: api.CRetract, Client: 8, Seq: 2, Text: "n(d)"},
		{Kind: api.CInsert, Client: 8, Seq: 2, Text: "t(a, b)"},
		{Kind: api.CInsert, Client: 2, Seq: 1, Text: "e(c, d)"},
		{Kind: api.CInsert, Client: 2, Seq: 1, Text: "e(a, b, c)"},
		{Kind: api.CRetract, Client: 2, Seq: 1 << 40, Text: "e(a, b)"},
		{Kind: api.CInstall, Client: 2, Seq: 5, Text: "p(X) :- n(X), X < d."},
		{Kind: api.CInstall, Client: 2, Seq: 5, Text: "p(X) :- !n(X)."},
		{Kind: api.CInstall, Client: 2, Seq: 5},
		{Kind: 5, Client: 2, Seq: 5}, {Kind: api.CInsert, Client: 9, Seq: 5, Text: "n(new)"},
	} {
		m := known(t)
		alike(t, m, loaded(t, Take(m)), c)
	}
	// One behind the other too.
	m := known(t)
	x := loaded(t, Take(m))
	for i, c := range []api.Command{
		{Kind: api.CInsert, Text: "e(c, d)"},
		{Kind: api.CQuery, Text: "t(a, X)"},
		{Kind: api.CInsert, Text: "t(a, e)"},
		{Kind: api.CRetract, Text: "e(b, c)"},
		{Kind: api.CQuery, Text: "far(X)"},
		{Kind: api.CInstall, Text: "u(X) :- n(X), !e(X, X)."},
		{Kind: api.CQuery, Text: "u(X)"},
		{Kind: api.CInsert, Text: "t(a, e)"},
	} {
		c.Client, c.Seq = 4, int64(i+1)
		alike(t, m, x, c)
		x = loaded(t, Take(x))
	}
}

func TestTakeChangesNothing(t *testing.T) {
	m := known(t)
	before := state(m)
	first := Take(m)
	if second := Take(m); !bytes.Equal(first, second) || state(m) != before {
		t.Errorf("P19.1: Take made %s of %s, and %q after %q", state(m), before, second, first)
	}
}

// Ways to the same rules, facts and clients' lasts: the machines have the same bytes.
func TestSameMachinesHaveTheSameBytes(t *testing.T) {
	want := Take(known(t))
	other := machine.New()
	for _, c := range []struct {
		kind, client int
		seq          int64
		text         string
	}{
		{api.CInsert, 8, 0, "n(x)"}, // a number that may not be: nothing
		{api.CInsert, 3, 2, "e(a,b)."},
		{api.CInsert, 3, 3, " flag % set"},
		{api.CInsert, 3, 5, "u(1, 2, 3)"},
		{api.CInsert, 3, 7, "n(d)"},
		{api.CInstall, 3, 10, "n2(X) :- n(X). loop :- e(X, X)."},
		{api.CInsert, 3, 11, "e(b, c)"},
		{api.CInsert, 3, 12, "n(zzz)"},
		{api.CInstall, 3, 13, "t(X, Y) :- e(X, Y).\nt(X, Z) :- t(X, Y), e(Y, Z). % paths\nfar(X) :- n(X), !t(a, X), X != -3."},
		{api.CRetract, 3, 14, "n(zzz)"},
		{api.CRetract, 3, 20, "u(1, 2, 3)"},
		{api.CQuery, 3, 41, "t(A, B)."},
		{api.CInsert, 8, 1, "t(z, z)"},
		{api.CInsert, 1, 6, "n(-3)"},
		{api.CInsert, 1, 6, "n(-4)"},
		{api.CInsert, 1, 3, "n(-4)"},
	} {
		other.Apply(api.Command{Kind: c.kind, Client: c.client, Seq: c.seq, Text: c.text})
	}
	if key(other) != key(known(t)) {
		t.Fatalf("%s is not %s", key(other), key(known(t)))
	}
	if got := Take(other); !bytes.Equal(got, want) {
		t.Errorf("P19.1: the same machine: %q, and not %q", got, want)
	}
	// A new one and one that was told what it does not do.
	told := machine.New()
	told.Apply(api.Command{Kind: 7, Client: 1, Seq: 1})
	for _, m := range []*machine.Machine{told, {}} {
		if !bytes.Equal(Take(m), Take(machine.New())) {
			t.Errorf("P19.1: empty machines: %q and %q", Take(m), Take(machine.New()))
		}
	}
}

// Machines that are not the same have other bytes, each from each.
func TestOtherMachinesHaveOtherBytes(t *testing.T) {
	images := map[string]string{string(Take(machine.New())): "a new one", string(Take(known(t))): "known's"}
	for _, c := range []api.Command{
		{Kind: api.CInsert, Client: 1, Seq: 7, Text: "n(b)"},
		{Kind: api.CInsert, Client: 1, Seq: 7, Text: "n(1)"},
		{Kind: api.CInsert, Client: 1, Seq: 8, Text: "n(1)"},
		{Kind: api.CInsert, Client: 1, Seq: 1 << 40, Text: "n(1)"},
		{Kind: api.CInsert, Client: 2, Seq: 7, Text: "n(1)"},
		{Kind: api.CRetract, Client: 1, Seq: 7, Text: "flag"},
		{Kind: api.CRetract, Client: 1, Seq: 7, Text: "n(1)"},
		{Kind: api.CQuery, Client: 1, Seq: 7, Text: "flag"},
		{Kind: api.CQuery, Client: 1, Seq: 7, Text: "t(a, X)"},
		{Kind: api.CQuery, Client: 1, Seq: 7, Text: "t(X, c)"},
		{Kind: api.CQuery, Client: 1, Seq: 7, Text: "t("},
		{Kind: api.CQuery, Client: 1, Seq: 7, Text: "t(1, 2, 3, 4, 5)"},
		{Kind: api.CInstall, Client: 1, Seq: 7, Text: paths},
		{Kind: api.CInstall, Client: 1, Seq: 7, Text: strings.Replace(paths, "!t(a,X),X!=-3", "X!=-3,!t(a,X)", 1)},
		{Kind: api.CInstall, Client: 1, Seq: 7, Text: strings.Replace(paths, "!=", "<=", 1)},
		{Kind: api.CInstall, Client: 1, Seq: 7, Text: strings.ReplaceAll(paths, "Z", "W")},
		{Kind: api.CInstall, Client: 1, Seq: 7, Text: "far(X):-n(X),!t(a,X),X!=-3.t(X,Y):-e(X,Y).t(X,Z):-t(X,Y),e(Y,Z)."},
		{Kind: api.CInstall, Client: 1, Seq: 7, Text: paths + paths},
		{Kind: api.CInstall, Client: 1, Seq: 7},
	} {
		m := known(t)
		m.Apply(c)
		b := string(Take(m))
		if other, there := images[b]; there {
			t.Errorf("P19.1: %v has the bytes of %s", c, other)
		}
		images[b] = fmt.Sprint(c)
		alike(t, m, loaded(t, []byte(b)), api.Command{Kind: api.CQuery, Client: 6, Seq: 1, Text: "far(X)"})
	}
}

// Each client's last, of each kind of reply.
func TestLastsOfAllClients(t *testing.T) {
	m := known(t)
	for n, c := range []struct {
		kind int
		text string
		err  api.Errno
	}{
		{api.CInsert, "n(a", api.ErrSyntax},
		{api.CInstall, "p(X).", api.ErrUnsafe},
		{api.CInsert, "n", api.ErrArity},
		{api.CInstall, "p :- !p.", api.ErrStrata},
		{api.CRetract, "n(1, 2, 3, 4, 5)", api.ErrLimit},
		{api.CInstall, "n(a).", api.ErrBase},
		{api.CInstall, "p(X, Y, Z, W) :- c(X), c(Y), c(Z), c(W). c(1). c(2). c(3). c(4). c(5). c(6).", api.ErrFull},
		{api.CQuery, "t(X, Y)", api.OK},
		{api.CQuery, "none(X)", api.OK},
		{api.CInsert, "n(d)", api.OK},
		{api.CRetract, "n(c)", api.OK},
		{api.CInsert, "n(100)", api.OK},
		{api.CRetract, "n(100)", api.OK},
		{api.CInstall, paths, api.OK},
	} {
		for client := 1; client <= 8; client++ {
			seq, _ := m.Last(client)
			command := api.Command{Kind: c.kind, Client: client, Seq: seq*3 + int64(client), Text: c.text}
			if r := m.Apply(command); r.Err != c.err {
				t.Fatalf("%d: %v: %s", n, command, told(r))
			}
			x := loaded(t, Take(m))
			if got, want := state(x), state(m); got != want {
				t.Fatalf("P19.1: %v: %s, and not %s", command, got, want)
			}
			alike(t, m, x, command)
			command.Seq--
			alike(t, m, x, command)
		}
	}
}

func TestTakeNil(t *testing.T) {
	if b := Take(nil); len(b) != 0 {
		t.Errorf("P19.1: Take(nil): %q", b)
	}
}

func TestEmptyMachine(t *testing.T) {
	x := loaded(t, Take(machine.New()))
	if state(x) != state(machine.New()) {
		t.Errorf("P19.1: a new machine, loaded: %s", state(x))
	}
	alike(t, machine.New(), x, api.Command{Kind: api.CInsert, Client: 1, Seq: 1, Text: "p(1)"})
}
