package machine

import (
	"fmt"
	"math"
	"strings"
	"testing"

	"delphi/api"
	"delphi/syntax"
	"delphi/value"
)

// told tells a reply: its error, whether something changed, its rows with a | between them.
func told(r api.Reply) string {
	return fmt.Sprint(int(r.Err), " ", r.Changed, " ", strings.Join(r.Rows, "|"))
}

// failed is what a reply of this error alone tells.
func failed(err api.Errno) string { return told(api.Reply{Err: err}) }

const (
	changes = "0 true "
	stays   = "0 false "
)

func show(facts []api.Fact) string {
	texts := make([]string, len(facts))
	for i, f := range facts {
		texts[i] = value.Fact(f)
	}
	return strings.Join(texts, " ")
}

func showRules(rules []api.Rule) string {
	texts := make([]string, len(rules))
	for i, r := range rules {
		texts[i] = syntax.Print(r)
	}
	return strings.Join(texts, " ")
}

// holds tells a machine's rules, base facts and all facts.
func holds(m *Machine) string {
	return showRules(m.Rules()) + " ; " + show(m.Base()) + " ; " + show(m.All())
}

// state tells all that a machine tells of itself, the clients' lasts too.
func state(m *Machine) string {
	text := holds(m)
	for client := 1; client <= 8; client++ {
		seq, r := m.Last(client)
		text += fmt.Sprintf(" ; %d: %d %s", client, seq, told(r))
	}
	return text
}

// asker is a client that gives each of its commands the next number.
type asker struct {
	*testing.T
	m      *Machine
	client int
	seq    int64
}

func newAsker(t *testing.T) *asker { return &asker{T: t, m: New(), client: 1} }

// gives lets the machine do a command. It must answer what is wanted, tell it as the client's last, and answer it again without doing it again.
func (a *asker) gives(kind int, text, want string) {
	a.Helper()
	a.seq++
	c := api.Command{Kind: kind, Client: a.client, Seq: a.seq, Text: text}
	if got := told(a.m.Apply(c)); got != want {
		a.Errorf("P18.1: %d %.60q: %.300s; want %.300s", kind, text, got, want)
	}
	if seq, r := a.m.Last(a.client); seq != a.seq || told(r) != want {
		a.Errorf("P18.1: Last behind %d %.60q: %d, %.300s; want %d, %.300s", kind, text, seq, told(r), a.seq, want)
	}
	before := state(a.m)
	if got := told(a.m.Apply(c)); got != want {
		a.Errorf("P18.1: %d %.60q again: %.300s; want %.300s", kind, text, got, want)
	}
	if got := state(a.m); got != before {
		a.Errorf("P18.1: %d %.60q again made %.600s of %.600s", kind, text, got, before)
	}
}

// fails lets the machine do a command that is answered an error and changes nothing but the client's last.
func (a *asker) fails(kind int, text string, err api.Errno) {
	a.Helper()
	before := holds(a.m)
	a.gives(kind, text, failed(err))
	if got := holds(a.m); got != before {
		a.Errorf("P18.1: %d %.60q, error %d: made %.600s of %.600s", kind, text, err, got, before)
	}
}

func (a *asker) inserts(texts ...string) {
	a.Helper()
	for _, text := range texts {
		a.gives(api.CInsert, text, changes)
	}
}

// isNow checks rules, base facts and all facts.
func (a *asker) isNow(want string) {
	a.Helper()
	if got := holds(a.m); got != want {
		a.Errorf("P18.1: the machine holds %s; want %s", got, want)
	}
}

const paths = "t(X, Y) :- e(X, Y). t(X, Z) :- t(X, Y), e(Y, Z). far(X) :- n(X), !t(a, X)."

// known gives a machine with rules and facts, and lasts of the clients 1, 3 and 8, the last one's an error.
func known(t *testing.T) *Machine {
	t.Helper()
	a := newAsker(t)
	a.gives(api.CInstall, paths, changes)
	a.inserts("e(a, b)", "e(b, c)", "n(b)", "n(d)")
	a.client, a.seq = 3, 40
	a.gives(api.CQuery, "t(X, Y)", "0 false t(a, b)|t(a, c)|t(b, c)")
	a.client, a.seq = 8, 9
	a.fails(api.CInsert, "t(a, b)", api.ErrBase)
	return a.m
}

func TestNew(t *testing.T) {
	const nothing = " ;  ;  ; 1: 0 0 false  ; 2: 0 0 false  ; 3: 0 0 false  ; 4: 0 0 false  ; 5: 0 0 false  ; 6: 0 0 false  ; 7: 0 0 false  ; 8: 0 0 false "
	for _, m := range []*Machine{New(), {}} {
		if got := state(m); got != nothing {
			t.Errorf("P18.1: New: %s", got)
		}
		if got := told(m.Ask("e(X, Y)")); got != stays {
			t.Errorf("P18.1: New: Ask: %s", got)
		}
		a := &asker{T: t, m: m, client: 1}
		a.gives(api.CRetract, "e(a, b)", stays)
		a.inserts("e(a, b)")
		a.gives(api.CInstall, "p(X) :- e(X, Y).", changes)
		a.gives(api.CQuery, "p(X)", "0 false p(a)")
	}
	if got := state(New()); got != nothing {
		t.Errorf("P18.1: New behind the commands of another machine: %s", got)
	}
}

// turned gives a command that may be, but for what turn does to it.
func turned(turn func(c *api.Command)) api.Command {
	c := api.Command{Kind: api.CInsert, Client: 3, Seq: 64, Text: "n(new)"}
	turn(&c)
	return c
}

func commandsThatMayNotBe() []api.Command {
	none := []api.Command{{}, {Kind: 5, Client: 9, Seq: -1, Text: strings.Repeat(" ", 4001)}}
	wide := []int64{math.MinInt64, -1<<32 + 1, -8, -1, 0, 9, 256 + 1, 1<<31 - 1, 1<<32 + 1, math.MaxInt64}
	for _, n := range append(wide, 5, 6) {
		none = append(none, turned(func(c *api.Command) { c.Kind = int(n) }))
	}
	for _, n := range append(wide, 10, 100, 101, 108) {
		none = append(none, turned(func(c *api.Command) { c.Client = int(n) }))
	}
	for _, n := range []int64{math.MinInt64, -64, -1, 0, 1<<40 + 1, 1 << 41, math.MaxInt64} {
		none = append(none, turned(func(c *api.Command) { c.Seq = n }))
	}
	for _, n := range []int{3995, 4000, 1000000} {
		none = append(none, turned(func(c *api.Command) { c.Text += strings.Repeat(" ", n) }))
	}
	// The form is asked for ahead of the number: 41 is this client's last.
	for _, seq := range []int64{1, 40, 41} {
		none = append(none, turned(func(c *api.Command) { c.Kind, c.Seq = 5, seq }))
		none = append(none, turned(func(c *api.Command) { c.Text, c.Seq = strings.Repeat("a", 4001), seq }))
	}
	return none
}

func TestCommandsThatMayNotBe(t *testing.T) {
	m := known(t)
	before := state(m)
	for _, c := range commandsThatMayNotBe() {
		if got := told(m.Apply(c)); got != failed(api.ErrForm) {
			t.Errorf("P18.1: Apply(%.80v): %s; want error %d", c, got, api.ErrForm)
		}
		if got := state(m); got != before {
			t.Fatalf("P18.1: Apply(%.80v) made %s of %s", c, got, before)
		}
	}
}

// Every kind and client, the ends of Seq and of Text.
func TestCommandsThatMayBe(t *testing.T) {
	wants := []string{changes, "0 true ", "0 true ", stays}
	for i, text := range []string{"p.", "e", "e", "e"} {
		for client := 1; client <= 8; client++ {
			for _, seq := range []int64{1, 2, 64, 1 << 31, 1<<32 + 1, 1<<40 - 1, 1 << 40} {
				for _, padded := range []string{text, text + strings.Repeat(" ", 4000-len(text))} {
					a := &asker{T: t, m: New(), client: client, seq: seq - 1}
					if i == 2 {
						a.m.Apply(api.Command{Kind: api.CInsert, Client: client%8 + 1, Seq: 1, Text: "e"})
					}
					a.gives(i+1, padded, wants[i])
				}
			}
		}
	}
}

// What comes with the last number is answered what that was answered, whatever it is now and whatever became of the facts.
func TestLastSeqIsThatReplyAgain(t *testing.T) {
	for _, c := range []struct {
		kind       int
		text, want string
	}{
		{api.CInstall, "n2(X) :- n(X).", changes},
		{api.CInstall, "p :- !p.", failed(api.ErrStrata)},
		{api.CInsert, "n(c)", changes},
		{api.CInsert, "n(b)", stays},
		{api.CInsert, "n(X)", failed(api.ErrSyntax)},
		{api.CRetract, "n(b)", changes},
		{api.CRetract, "n(c)", stays},
		{api.CQuery, "n(X)", "0 false n(b)|n(d)"},
		{api.CQuery, "n(c)", stays},
		{api.CQuery, "n(", failed(api.ErrSyntax)},
	} {
		m := known(t)
		a := &asker{T: t, m: m, client: 5, seq: 6}
		a.gives(c.kind, c.text, c.want)
		other := &asker{T: t, m: m, client: 6}
		other.m.Apply(api.Command{Kind: api.CInsert, Client: 6, Seq: 1, Text: "n(zz)"})
		other.m.Apply(api.Command{Kind: api.CRetract, Client: 6, Seq: 2, Text: "n(d)"})
		before := state(m)
		for kind := 1; kind <= 4; kind++ {
			for _, text := range []string{c.text, "n(X)", "n(new)", "n(d)", "n(zz)", "", "?", "q(1)."} {
				if got := told(m.Apply(api.Command{Kind: kind, Client: 5, Seq: 7, Text: text})); got != c.want {
					t.Errorf("P18.1: %d %q with the last number: %s; want %s", kind, text, got, c.want)
				}
				if got := state(m); got != before {
					t.Fatalf("P18.1: %d %q with the last number made %s of %s", kind, text, got, before)
				}
			}
		}
	}
}

func TestBelowTheLastIsStale(t *testing.T) {
	m := known(t)
	before := state(m)
	for client, seqs := range map[int][]int64{1: {1, 2, 3, 4}, 3: {1, 2, 30, 39, 40}, 8: {1, 8, 9}} {
		for _, seq := range seqs {
			for kind := 1; kind <= 4; kind++ {
				for _, text := range []string{"n(new)", "n(b)", "n(X)", "n(c).", "", "?"} {
					if got := told(m.Apply(api.Command{Kind: kind, Client: client, Seq: seq, Text: text})); got != failed(api.ErrStale) {
						t.Errorf("P18.1: client %d, %d: %s; want error %d", client, seq, got, api.ErrStale)
					}
					if got := state(m); got != before {
						t.Fatalf("P18.1: client %d, %d made %s of %s", client, seq, got, before)
					}
				}
			}
		}
	}
	// One that was never asked is stale too, if a later one was done, and the greatest number leaves none above.
	m.Apply(api.Command{Kind: api.CInsert, Client: 2, Seq: 1 << 40, Text: "n(x)"})
	if got := told(m.Apply(api.Command{Kind: api.CInsert, Client: 2, Seq: 1<<40 - 1, Text: "n(y)"})); got != failed(api.ErrStale) {
		t.Errorf("P18.1: below the greatest number: %s", got)
	}
	if got := told(m.Apply(api.Command{Kind: api.CRetract, Client: 2, Seq: 1 << 40, Text: "n(b)"})); got != changes {
		t.Errorf("P18.1: the greatest number again: %s", got)
	}
}

// Each client's numbers are its own, and may leap.
func TestClientsAreApart(t *testing.T) {
	m := New()
	for _, seq := range []int64{5, 6, 90, 1 << 33} {
		for client := 1; client <= 8; client++ {
			a := &asker{T: t, m: m, client: client, seq: seq - 1}
			a.inserts(fmt.Sprintf("did(%d, %d)", client, seq%1000))
		}
	}
	if got := len(m.Base()); got != 32 {
		t.Errorf("P18.1: %d facts; want 32", got)
	}
	a := &asker{T: t, m: m, client: 2, seq: 1 << 34}
	a.gives(api.CQuery, "did(3, 90)", "0 false did(3, 90)")
	for client := 1; client <= 8; client++ {
		want := int64(1 << 33)
		if client == 2 {
			want = 1<<34 + 1
		}
		if seq, _ := m.Last(client); seq != want {
			t.Errorf("P18.1: Last(%d): %d; want %d", client, seq, want)
		}
	}
}

func TestLast(t *testing.T) {
	m := known(t)
	for client, want := range map[int]string{
		1: "5 0 true ", 3: "41 0 false t(a, b)|t(a, c)|t(b, c)", 8: "10 9 false ",
		2: "0 0 false ", 4: "0 0 false ", 7: "0 0 false ",
		0: "0 0 false ", -1: "0 0 false ", 9: "0 0 false ", 100: "0 0 false ", 101: "0 0 false ", 1<<32 + 1: "0 0 false ", 256 + 3: "0 0 false ",
		math.MinInt: "0 0 false ", math.MaxInt: "0 0 false ",
	} {
		seq, r := m.Last(client)
		if got := fmt.Sprint(seq, " ", told(r)); got != want {
			t.Errorf("P18.1: Last(%d): %s; want %s", client, got, want)
		}
	}
}

func TestNil(t *testing.T) {
	var m *Machine
	for _, c := range append(commandsThatMayNotBe(), turned(func(*api.Command) {}), turned(func(c *api.Command) { c.Kind = api.CQuery })) {
		if got := told(m.Apply(c)); got != failed(api.ErrNone) {
			t.Errorf("P18.1: a nil one: Apply(%.80v): %s", c, got)
		}
	}
	for _, text := range []string{"e(X, Y)", "e", "", "?", strings.Repeat("a", 4001)} {
		if got := told(m.Ask(text)); got != failed(api.ErrNone) {
			t.Errorf("P18.1: a nil one: Ask(%.60q): %s", text, got)
		}
	}
	for _, client := range []int{1, 8, 0, -1, 9} {
		if seq, r := m.Last(client); seq != 0 || told(r) != stays {
			t.Errorf("P18.1: a nil one: Last(%d): %d, %s", client, seq, told(r))
		}
	}
	if len(m.Rules())+len(m.Base())+len(m.All()) != 0 {
		t.Errorf("P18.1: a nil one: %s", holds(m))
	}
}
