package value

import (
	"fmt"
	"math"
	"math/rand"
	"slices"
	"strings"
	"testing"

	"delphi/api"
)

func num(n int64) api.Term { return api.Term{Kind: api.TInt, Num: n} }

func word(s string) api.Term { return api.Term{Kind: api.TWord, Name: s} }

func variable(s string) api.Term { return api.Term{Kind: api.TVar, Name: s} }

// rising are constants, each less than all behind it.
var rising = []api.Term{
	num(-1 << 31), num(-1<<31 + 1), num(-300), num(-20), num(-3), num(-1),
	num(0), num(1), num(3), num(20), num(300), num(1<<31 - 1), num(1 << 31),
	word("a"), word("a0"), word("a00"), word("a1"), word("a10"), word("a9"), word("a_"), word("a_0"), word("aa"),
	word("aaaaaaaaaaaaaaaa"), word("aab"), word("ab"), word("az"), word("b"), word("ba"),
	word("z"), word("z9"), word("z_"), word("zz"), word("zzzzzzzzzzzzzzzz"),
}

// noConstants are terms that may not be.
var noConstants = []struct {
	name string
	term api.Term
}{
	{"a zero term", api.Term{}},
	{"a number one beyond the greatest", num(1<<31 + 1)},
	{"a number one below the least", num(-1<<31 - 1)},
	{"2^32", num(1 << 32)},
	{"the greatest int64", num(math.MaxInt64)},
	{"the least int64", num(math.MinInt64)},
	{"a number with a Name", api.Term{Kind: api.TInt, Name: "a", Num: 1}},
	{"0 with a Name", api.Term{Kind: api.TInt, Name: "0"}},
	{"the empty word", word("")},
	{"a word of 17 bytes", word("aaaaaaaaaaaaaaaaa")},
	{"a word of a million bytes", word(strings.Repeat("a", 1e6))},
	{"a word that begins with 0", word("0a")},
	{"a word that begins with 9", word("9")},
	{"a word that begins with _", word("_a")},
	{"a word that is _", word("_")},
	{"a word that begins with a great letter", word("Ab")},
	{"a great letter behind a small one", word("aZ")},
	{"a blank behind a word", word("a ")},
	{"a blank ahead of a word", word(" a")},
	{"a zero byte", word("a\x00")},
	{"a small letter beyond ASCII", word("ä")},
	{"a small letter beyond ASCII, behind another", word("aä")},
	{"a digit beyond ASCII", word("a٣")},
	{"a byte that is no rune", word("a\xff")},
	{"a word with a Num", api.Term{Kind: api.TWord, Name: "a", Num: 1}},
	{"a word with a Num below 0", api.Term{Kind: api.TWord, Name: "a", Num: -1}},
	{"a variable", variable("X")},
	{"a variable by the name of a word", variable("x")},
	{"a variable with a Num", api.Term{Kind: api.TVar, Num: 1}},
	{"no kind, by the name of a word", api.Term{Name: "a"}},
	{"no kind, a number", api.Term{Num: 1}},
	{"kind 4, by the name of a word", api.Term{Kind: 4, Name: "a"}},
	{"kind 4, a number", api.Term{Kind: 4, Num: 1}},
	{"kind -3", api.Term{Kind: -3, Num: 1}},
	{"the greatest kind", api.Term{Kind: math.MaxInt, Name: "a"}},
}

func TestMayOfConstants(t *testing.T) {
	for _, c := range rising {
		if !May(c) {
			t.Errorf("P6.1: May(%v) is false", c)
		}
	}
	for _, c := range noConstants {
		if May(c.term) {
			t.Errorf("P6.1: May(%s) is true", c.name)
		}
	}
}

func TestMayOfEveryByteAtEveryPlace(t *testing.T) {
	const first = "abcdefghijklmnopqrstuvwxyz"
	const behind = first + "0123456789_"
	for size := 1; size <= api.MaxName; size++ {
		for at := range size {
			good := behind
			if at == 0 {
				good = first
			}
			for b := range 256 {
				name := []byte(strings.Repeat("m", size))
				name[at] = byte(b)
				if got, want := May(word(string(name))), strings.IndexByte(good, byte(b)) >= 0; got != want {
					t.Errorf("P6.1: May(%q): %v, want %v", name, got, want)
				}
			}
		}
	}
}

func TestLessAndEqOfConstants(t *testing.T) {
	for i, a := range rising {
		for j, b := range rising {
			if got := Less(a, b); got != (i < j) {
				t.Errorf("P6.1: Less(%v, %v): %v", a, b, got)
			}
			if got := Eq(a, b); got != (i == j) {
				t.Errorf("P6.1: Eq(%v, %v): %v", a, b, got)
			}
		}
	}
}

func TestLessSorts(t *testing.T) {
	r := rand.New(rand.NewSource(1))
	mixed := slices.Clone(rising)
	for range 20 {
		r.Shuffle(len(mixed), func(i, j int) { mixed[i], mixed[j] = mixed[j], mixed[i] })
		slices.SortFunc(mixed, func(a, b api.Term) int {
			switch {
			case Less(a, b):
				return -1
			case Less(b, a):
				return 1
			}
			return 0
		})
		if !slices.Equal(mixed, rising) {
			t.Fatalf("P6.1: sorted by Less: %v", mixed)
		}
	}
}

func TestLessOfNumbersAndWordsThatMayNotBe(t *testing.T) {
	up := []api.Term{num(math.MinInt64), num(-1<<31 - 1), num(0), num(1<<31 + 1), num(math.MaxInt64), word(""), word("A"), word("a"), word("ä"), word("\xff")}
	for i, a := range up {
		for j, b := range up {
			if got := Less(a, b); got != (i < j) {
				t.Errorf("P6.1: Less(%v, %v): %v", a, b, got)
			}
		}
	}
}

func TestLessLeavesOutWhatIsNeitherNumberNorWord(t *testing.T) {
	for _, other := range []api.Term{{}, variable("X"), variable("a"), {Kind: api.TVar, Num: 5}, {Kind: 4, Name: "a"}, {Kind: -1, Num: 3}} {
		for _, b := range append(slices.Clone(rising), other, variable("Y"), api.Term{Kind: 4, Name: "b", Num: 9}) {
			if Less(other, b) || Less(b, other) {
				t.Errorf("P6.1: Less orders %v and %v", other, b)
			}
		}
	}
}

func TestEqOfWhatLessDoesNotOrder(t *testing.T) {
	all := []api.Term{{}, variable("X"), variable("Y"), variable("a"), word("a"), word(""), num(0),
		{Kind: api.TVar, Name: "X", Num: 1}, {Kind: api.TInt, Name: "a"}, {Kind: api.TWord, Name: "a", Num: 1}, {Kind: 4, Name: "a"}}
	for i, a := range all {
		for j, b := range all {
			if got := Eq(a, b); got != (i == j) {
				t.Errorf("P6.1: Eq(%v, %v): %v", a, b, got)
			}
		}
	}
	if a, b := word("ab"), word(strings.Repeat("ab", 2)[2:]); !Eq(a, b) {
		t.Error("P6.1: Eq of a word and its copy")
	}
}

func TestPrint(t *testing.T) {
	for _, c := range []struct {
		term api.Term
		want string
	}{
		{num(0), "0"},
		{num(7), "7"},
		{num(-7), "-7"},
		{num(-10), "-10"},
		{num(1234567), "1234567"},
		{num(1 << 31), "2147483648"},
		{num(-1 << 31), "-2147483648"},
		{num(math.MaxInt64), "9223372036854775807"},
		{num(math.MinInt64), "-9223372036854775808"},
		{word("a"), "a"},
		{word("a_9"), "a_9"},
		{word("abcdefghijklmnop"), "abcdefghijklmnop"},
		{word("a b\xff"), "a b\xff"},
		{variable("X"), "X"},
		{variable("Long_name9"), "Long_name9"},
		{api.Term{}, ""},
	} {
		if got := Print(c.term); got != c.want {
			t.Errorf("P6.1: Print(%v): %q, want %q", c.term, got, c.want)
		}
	}
}

func TestFact(t *testing.T) {
	args := []api.Term{word("a"), num(-3), num(0), word("b_1"), variable("X")}
	for n, want := range []string{"p", "p(a)", "p(a, -3)", "p(a, -3, 0)", "p(a, -3, 0, b_1)", "p(a, -3, 0, b_1, X)"} {
		if got := Fact(api.Fact{Name: "p", Args: args[:n]}); got != want {
			t.Errorf("P6.1: Fact of %d terms: %q, want %q", n, got, want)
		}
	}
	if got := Fact(api.Fact{Name: "p"}); got != "p" {
		t.Errorf("P0.4: Fact of a nil list: %q", got)
	}
	if got := Fact(api.Fact{}); got != "" {
		t.Errorf("P6.1: Fact of no name: %q", got)
	}
	if got, want := Fact(api.Fact{Name: "edge", Args: []api.Term{word("edge"), word("edge")}}), "edge(edge, edge)"; got != want {
		t.Errorf("P6.1: Fact: %q, want %q", got, want)
	}
}

func TestFactLeavesItsListAsItIs(t *testing.T) {
	room := []api.Term{word("a"), num(1), variable("X"), num(4)}
	before := slices.Clone(room)
	if got := Fact(api.Fact{Name: "p", Args: room[:2]}); got != "p(a, 1)" {
		t.Errorf("P6.1: Fact: %q", got)
	}
	if !slices.Equal(room, before) {
		t.Errorf("P0.3: %v, was %v", room, before)
	}
}

func TestFactOfManyTerms(t *testing.T) {
	const n = 100000
	args := make([]api.Term, n)
	texts := make([]string, n)
	for i := range args {
		args[i], texts[i] = num(int64(i)), fmt.Sprint(i)
	}
	if got, want := Fact(api.Fact{Name: "p", Args: args}), "p("+strings.Join(texts, ", ")+")"; got != want {
		t.Errorf("P6.1: Fact of %d terms has %d bytes, want %d", n, len(got), len(want))
	}
}
