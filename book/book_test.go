package book

import (
	"slices"
	"strings"
	"testing"

	"delphi/api"
	"delphi/relation"
	"delphi/value"
)

func num(n int64) api.Term { return api.Term{Kind: api.TInt, Num: n} }

func word(s string) api.Term { return api.Term{Kind: api.TWord, Name: s} }

func fact(name string, args ...api.Term) api.Fact { return api.Fact{Name: name, Args: args} }

func show(facts []api.Fact) string {
	var texts []string
	for _, f := range facts {
		texts = append(texts, value.Fact(f))
	}
	return strings.Join(texts, " ")
}

// lay writes the facts of one predicate.
func lay(b *Book, name string, width int, facts ...api.Fact) {
	t := value.New()
	rows := relation.New(width)
	for _, f := range facts {
		rows.Add(RowOf(f, t))
	}
	b.Write(name, rows, t)
}

// filled gives a book of two predicates, whose facts came in no order.
func filled() Book {
	var b Book
	lay(&b, "q", 1, fact("q", word("z")), fact("q", num(10)), fact("q", word("a")), fact("q", num(9)))
	lay(&b, "p", 2, fact("p", word("b"), num(1)), fact("p", word("a"), num(2)))
	return b
}

func TestOrder(t *testing.T) {
	b := filled()
	if got := b.Names(); !slices.Equal(got, []string{"p", "q"}) {
		t.Errorf("names: %v", got)
	}
	if got := show(b.All()); got != "p(a, 2) p(b, 1) q(9) q(10) q(a) q(z)" {
		t.Errorf("all: %s", got)
	}
	if got := show(b.Facts("q")); got != "q(9) q(10) q(a) q(z)" {
		t.Errorf("those of q: %s", got)
	}
	if b.Len() != 6 || len(b.Facts("r")) != 0 {
		t.Errorf("%d facts, and of r %v", b.Len(), b.Facts("r"))
	}
}

func TestHas(t *testing.T) {
	b := filled()
	lay(&b, "none", 0, fact("none"))
	for _, f := range append(b.All(), fact("none")) {
		if !b.Has(f) {
			t.Errorf("%s is not there", value.Fact(f))
		}
	}
	for _, f := range []api.Fact{
		{}, fact("q"), fact("q", num(8)), fact("q", num(11)), fact("q", word("zz")), fact("q", num(9), num(9)),
		fact("p", word("a")), fact("p", word("a"), num(1)), fact("p", word("a"), num(2), num(2)), fact("r", num(9)),
		fact("none", num(1)), fact("q", api.Term{}), fact("q", api.Term{Kind: api.TVar, Name: "a"}),
		fact("q", api.Term{Kind: 77, Num: 9}), fact("q", word(strings.Repeat("a", 17))),
	} {
		if b.Has(f) {
			t.Errorf("%v is there", f)
		}
	}
}

func TestWriteReplaces(t *testing.T) {
	b := filled()
	lay(&b, "q", 1, fact("q", num(3)))
	if got := show(b.All()); got != "p(a, 2) p(b, 1) q(3)" {
		t.Errorf("replaced: %s", got)
	}
	lay(&b, "q", 1)
	b.Write("p", nil, value.New())
	if len(b.Names()) != 0 || b.Len() != 0 {
		t.Errorf("emptied: %v, %d", b.Names(), b.Len())
	}
}

func TestNilBook(t *testing.T) {
	var b Book
	if len(b.Names()) != 0 || len(b.All()) != 0 || len(b.Facts("p")) != 0 || b.Len() != 0 || b.Has(fact("p")) {
		t.Error("a nil book has facts")
	}
	lay(&b, "p", 1)
	if b.Len() != 0 {
		t.Error("no rows became facts")
	}
	lay(&b, "p", 1, fact("p", num(1)))
	if got := show(b.All()); got != "p(1)" {
		t.Errorf("a book that was nil: %s", got)
	}
}

func TestNewMemory(t *testing.T) {
	b := filled()
	want := show(b.All())
	for _, list := range [][]api.Fact{b.All(), b.Facts("p"), b.Facts("q")} {
		for i := range list {
			args := list[i].Args[:cap(list[i].Args)]
			for k := range args {
				args[k] = num(77)
			}
			list[i].Name = "x"
		}
		for i := range list[:cap(list)] {
			list[:cap(list)][i] = api.Fact{}
		}
	}
	for i := range b.Names() {
		b.Names()[i] = "x"
	}
	if got := show(b.All()); got != want {
		t.Errorf("it became %s", got)
	}
}

func TestRowOf(t *testing.T) {
	table := value.New()
	five, a := table.Id(num(5)), table.Id(word("a"))
	if got := RowOf(fact("p", word("a"), num(5), word("a")), table); !slices.Equal(got, relation.Row{a, five, a}) {
		t.Errorf("row %v", got)
	}
	if got := RowOf(fact("p", word("b")), table); !slices.Equal(got, relation.Row{3}) || table.Id(word("b")) != 3 {
		t.Errorf("row %v of a constant that is new", got)
	}
	if got := RowOf(fact("p"), table); got == nil || len(got) != 0 {
		t.Errorf("row %v of a fact without terms", got)
	}
}
