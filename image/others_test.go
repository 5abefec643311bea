package image

import (
	"bytes"
	"iter"
	"math"
	"math/rand"
	"slices"
	"strings"
	"testing"

	"delphi/api"
	"delphi/bin"
	"delphi/command"
	"delphi/machine"
	"delphi/model"
)

// parts are what an image is made of; a test may write them otherwise than Take does.
type parts struct {
	program string
	base    []string
	seqs    [8]int64
	replies [8][]byte
}

// knownParts are those of known's image.
func knownParts() parts {
	p := parts{program: paths, base: []string{"e(a, b)", "e(b, c)", "flag", "n(-3)", "n(d)"}, seqs: [8]int64{0: 6, 2: 41, 7: 1}}
	for i := range p.replies {
		p.replies[i] = command.Reply(api.Reply{})
	}
	p.replies[0] = command.Reply(api.Reply{Changed: true})
	p.replies[2] = command.Reply(api.Reply{Rows: []string{"t(a, b)", "t(a, c)", "t(b, c)"}})
	p.replies[7] = command.Reply(api.Reply{Err: api.ErrBase})
	return p
}

func (p parts) bytes() []byte {
	var w bin.Writer
	w.Text([]byte(p.program))
	w.Num(int64(len(p.base)))
	for _, text := range p.base {
		w.Text([]byte(text))
	}
	for i, seq := range p.seqs {
		w.Num(seq)
		w.Text(p.replies[i])
	}
	return w.Bytes()
}

// refused checks that bytes are no image.
func refused(t *testing.T, b []byte) {
	t.Helper()
	if m, err := Load(b); m != nil || err != api.ErrForm {
		t.Errorf("P19.1: Load(%.300q): a machine: %v, error %d; want none, %d", b, m != nil, err, api.ErrForm)
	}
}

// but gives known's parts with a change.
func but(change func(p *parts)) parts {
	p := knownParts()
	change(&p)
	return p
}

func TestPartsAreAnImage(t *testing.T) {
	if got, want := knownParts().bytes(), Take(known(t)); !bytes.Equal(got, want) {
		t.Fatalf("the parts make %q; known's image is %q", got, want)
	}
}

func TestOtherPrograms(t *testing.T) {
	for _, program := range []string{
		// As rules they may be, but not as Take writes them.
		paths + " ", " " + paths, paths + "\n", paths + "% all", strings.Replace(paths, ",", ", ", 1), strings.Replace(paths, ":-", " :- ", 1), strings.Replace(paths, "!=", "!= ", 1), strings.Replace(paths, "!t", "! t", 1),
		" ", "%", "\t",
		// They are none.
		"?", "p", "p:-", "p(X", paths[:len(paths)-1], paths + "p", paths + ".", "\xff", "p\x00.", "p(1,2,3,4,5).", "p:-a,b,c,d,e,f,g.", strings.Repeat("p.", 31),
		"p(123456789012345678).", "p(2147483649).", "p(-0).", "p(01).",
		// No machine has them.
		"p(X).", "p(X):-n(Y).", "p:-!n(X).", "p.p(1).", "p(X):-n(X,X).", "n(a).", "flag:-n(a).", "flag.", "p:-!p.", "p:-!q.q:-p.",
		"p(X,Y,Z,W):-c(X),c(Y),c(Z),c(W).c(1).c(2).c(3).c(4).c(5).c(6).",
	} {
		refused(t, but(func(p *parts) { p.program = program }).bytes())
	}
	// 4,001 bytes of rules, each of which may be.
	long := parts{program: longProgram(11, 131), seqs: [8]int64{100}, replies: knownParts().replies}
	long.replies[0], long.replies[2], long.replies[7] = command.Reply(api.Reply{Changed: true}), long.replies[1], long.replies[1]
	refused(t, long.bytes())
	long.program = longProgram(11, 130)
	loaded(t, long.bytes())
}

func TestOtherFacts(t *testing.T) {
	for _, base := range [][]string{
		{"flag", "n(d)", "n(-3)"}, {"n(-3)", "flag"}, {"flag", "flag"}, {"n(10)", "n(9)"}, {"n(a)", "n(9)"}, {"n(b)", "n(a)"}, {"e(b, a)", "e(a, b)"}, {"e(a, b)", "e(a, a)"},
		{"flag."}, {"flag "}, {" flag"}, {"flag% set"}, {"e(a,b)"}, {"e( a, b)"}, {"e (a, b)"}, {"e(a, b)."},
		{""}, {"X"}, {"n(X)"}, {"n(a"}, {"n()"}, {"n(a) n(b)"}, {"!flag"}, {"n(01)"}, {"n(-0)"}, {"n(2147483649)"}, {"abcdefghijklmnopq"}, {"m(1, 2, 3, 4, 5)"}, {"\xff"}, {"flag\x00"},
		{"n"}, {"e(a)"}, {"flag", "flag(1)"}, {"m", "m(1)"}, {"t(a, b)"}, {"far(a)"}, {"t"},
	} {
		refused(t, but(func(p *parts) { p.base = base }).bytes())
	}
	many := but(func(p *parts) { p.base, p.seqs[0] = nil, 1000 })
	for i := range 100 {
		many.base = append(many.base, "n("+string(rune('a'+i/26))+string(rune('a'+i%26))+")")
	}
	loaded(t, many.bytes())
	many.base = append(many.base, "n(z)")
	refused(t, many.bytes())
	// With more rows than go, where each fact may be.
	full := but(func(p *parts) { p.program, p.base, p.seqs[0] = "p(X,Y):-n(X),n(Y).", many.base[:31], 1000 })
	loaded(t, full.bytes())
	full.base = many.base[:32]
	refused(t, full.bytes())
	// So many facts take commands that changed something.
	refused(t, but(func(p *parts) { p.seqs[0], p.seqs[2] = 5, 1 }).bytes())
	loaded(t, but(func(p *parts) { p.seqs[0], p.seqs[2] = 5, 2 }).bytes())
}

func TestOtherLasts(t *testing.T) {
	for _, seq := range []int64{math.MinInt64, -41, -1, 0, 1<<40 + 1, math.MaxInt64} {
		refused(t, but(func(p *parts) { p.seqs[2] = seq }).bytes())
	}
	loaded(t, but(func(p *parts) { p.seqs[2] = 1 << 40 }).bytes())
	var replies [][]byte
	for _, r := range []api.Reply{
		{Err: api.ErrRange}, {Err: api.ErrForm}, {Err: api.ErrStale}, {Err: api.ErrLeader}, {Err: api.ErrDown}, {Err: api.ErrThere}, {Err: api.ErrNone}, {Err: -1}, {Err: 15}, {Err: 4 + 1<<32},
		{Err: api.ErrSyntax, Changed: true}, {Err: api.ErrSyntax, Rows: []string{"t(a, b)"}}, {Changed: true, Rows: []string{"t(a, b)"}},
		{Rows: []string{""}}, {Rows: []string{"t(a, X)"}}, {Rows: []string{"t(a,b)"}}, {Rows: []string{"t(a, b)."}}, {Rows: []string{"t(a, b)", "t(a, b)"}}, {Rows: []string{"t(b, a)", "t(a, b)"}}, {Rows: []string{"t(a, b)", "u(a, c)"}}, {Rows: []string{"t(a)", "t(a, c)"}}, {Rows: make([]string, 1001)},
	} {
		replies = append(replies, command.Reply(r))
	}
	good := command.Reply(api.Reply{Rows: []string{"t(a, b)"}})
	replies = append(replies, nil, []byte{0}, []byte{0, 0}, []byte{0, 2, 0}, good[:len(good)-1], append(bytes.Clone(good), 0), []byte{0x80, 0, 0, 0}, []byte{0, 0, 1})
	for _, reply := range replies {
		refused(t, but(func(p *parts) { p.replies[2] = reply }).bytes())
	}
	loaded(t, but(func(p *parts) { p.replies[2] = good }).bytes())
	// Who never asked was answered nothing.
	for _, reply := range [][]byte{good, command.Reply(api.Reply{Changed: true}), command.Reply(api.Reply{Err: api.ErrSyntax})} {
		refused(t, but(func(p *parts) { p.replies[1] = reply }).bytes())
		loaded(t, but(func(p *parts) { p.seqs[1], p.replies[1] = 1, reply }).bytes())
	}
}

// Counts and lengths that nothing stands behind, and numbers of more bytes than they need.
func TestOtherBytes(t *testing.T) {
	var nums [][]byte
	for _, n := range []int64{math.MinInt64, -1, 6, 101, 1 << 31, 1 << 40, math.MaxInt64} {
		var w bin.Writer
		w.Num(n)
		nums = append(nums, w.Bytes())
	}
	good := Take(known(t))
	program := len(paths) + 2
	for _, n := range append(nums, []byte{0x8a, 0}, bytes.Repeat([]byte{0xff}, 11)) {
		refused(t, n)
		refused(t, append(n, good[2:]...))
		refused(t, slices.Concat(good[:program], n, good[program+1:]))
		refused(t, slices.Concat(good[:program], n))
		refused(t, append(good, n...))
		refused(t, append(n, good...))
	}
	for n := range good {
		refused(t, good[:n])
		refused(t, good[n+1:])
	}
	refused(t, nil)
	refused(t, []byte{})
	refused(t, append(good, 0))
	refused(t, append(good, good...))
	refused(t, bytes.Repeat([]byte{0}, 1<<20))
	refused(t, bytes.Repeat([]byte{0xff}, 1<<20))
	refused(t, bytes.Repeat([]byte("p."), 1<<19))
}

// nearby gives bytes near b: each byte as every other one, gone, or with one more ahead, and b with some of its bytes drawn anew.
func nearby(b []byte) iter.Seq[[]byte] {
	return func(yield func([]byte) bool) {
		for at := range b {
			for c := range 256 {
				x := slices.Insert(bytes.Clone(b), at, byte(c))
				if !yield(x) || !yield(slices.Delete(bytes.Clone(x), at+1, at+2)) {
					return
				}
			}
			if !yield(slices.Delete(bytes.Clone(b), at, at+1)) {
				return
			}
		}
		rng := rand.New(rand.NewSource(int64(len(b))))
		for range 3000 {
			x := bytes.Clone(b)
			for range 1 + rng.Intn(4) {
				x[rng.Intn(len(x))] = byte(rng.Intn(256))
			}
			if !yield(x) {
				return
			}
		}
	}
}

// sound checks that what was loaded is a machine as machines are.
func sound(t *testing.T, m *machine.Machine) {
	t.Helper()
	made, err := model.Make(m.Rules(), m.Base())
	if err != api.OK || show(made.All()) != show(m.All()) {
		t.Fatalf("P19.1: loaded: %s; its model: error %d", state(m), err)
	}
	for client := 1; client <= 8; client++ {
		seq, r := m.Last(client)
		if seq < 0 || seq > 1<<40 || seq == 0 && told(r) != "0 false " || r.Err != api.OK && (r.Changed || len(r.Rows) > 0) || r.Changed && len(r.Rows) > 0 {
			t.Fatalf("P19.1: loaded: client %d's last: %d, %s", client, seq, told(r))
		}
	}
}

// Bytes near an image are that of another machine, or of none.
func TestNearby(t *testing.T) {
	few := machine.New()
	does(t, few, api.CInsert, 2, "p(1)", changes)
	does(t, few, api.CQuery, 5, "p(X)", "0 false p(1)")
	for _, m := range []*machine.Machine{machine.New(), few, known(t)} {
		taken, none := 0, 0
		for b := range nearby(Take(m)) {
			x, err := Load(b)
			if err != api.OK {
				if x != nil || err != api.ErrForm {
					t.Fatalf("P19.1: Load(%q): a machine: %v, error %d", b, x != nil, err)
				}
				none++
				continue
			}
			if again := Take(x); !bytes.Equal(again, b) {
				t.Fatalf("P19.1: Load(%q) has the image %q", b, again)
			}
			sound(t, x)
			taken++
		}
		if taken == 0 || none == 0 {
			t.Errorf("P19.1: nearby %d images and %d others", taken, none)
		}
	}
}

func TestAnyBytes(t *testing.T) {
	rng := rand.New(rand.NewSource(19))
	for range 30000 {
		b := make([]byte, rng.Intn(60))
		for i := range b {
			b[i] = byte(rng.Intn(1 << (1 + rng.Intn(8))))
		}
		if m, err := Load(b); err == api.OK {
			loaded(t, b)
			sound(t, m)
		} else {
			refused(t, b)
		}
	}
}
