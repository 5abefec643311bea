package syntax

import (
	"fmt"
	"slices"
	"strings"
	"testing"
	"unsafe"

	"delphi/api"
)

func num(n int64) api.Term { return api.Term{Kind: api.TInt, Num: n} }

func word(s string) api.Term { return api.Term{Kind: api.TWord, Name: s} }

func vary(s string) api.Term { return api.Term{Kind: api.TVar, Name: s} }

func atom(s string, args ...api.Term) api.Literal {
	return api.Literal{Kind: api.LAtom, Name: s, Args: args}
}

func not(s string, args ...api.Term) api.Literal {
	return api.Literal{Kind: api.LNot, Name: s, Args: args}
}

func compare(kind int, a, b api.Term) api.Literal {
	return api.Literal{Kind: kind, Args: []api.Term{a, b}}
}

func rule(head api.Literal, body ...api.Literal) api.Rule { return api.Rule{Head: head, Body: body} }

func sameAtom(a, b api.Literal) bool {
	return a.Kind == b.Kind && a.Name == b.Name && slices.Equal(a.Args, b.Args)
}

func sameRule(a, b api.Rule) bool {
	return sameAtom(a.Head, b.Head) && slices.EqualFunc(a.Body, b.Body, sameAtom)
}

func check(t *testing.T, text string, want ...api.Rule) {
	t.Helper()
	got, err := Program(text)
	if !slices.EqualFunc(got, want, sameRule) || err != api.OK {
		t.Errorf("P8.1: Program(%q): %v, %d; want %v", text, got, err, want)
	}
}

func checkErr(t *testing.T, text string, want api.Errno) {
	t.Helper()
	if got, err := Program(text); got != nil || err != want {
		t.Errorf("P8.2: Program(%.90q), %d bytes: %v, %d; want nil, %d", text, len(text), got, err, want)
	}
}

// checkBody checks what the text reads as, being the only literal of a body, and the first and the last of several.
func checkBody(t *testing.T, text string, want api.Literal) {
	t.Helper()
	p, q := atom("p"), atom("q")
	check(t, "p :- "+text+".", rule(p, want))
	check(t, "p:-"+text+",q.", rule(p, want, q))
	check(t, "p :- q, "+text+" .p.", rule(p, q, want), rule(p))
}

// badBody checks that the text is no literal.
func badBody(t *testing.T, text string) {
	t.Helper()
	for _, form := range []string{"p :- #.", "p :- #, q.", "p :- q, #.", "p. p :- q, #, q. p."} {
		checkErr(t, strings.Replace(form, "#", text, 1), api.ErrSyntax)
	}
}

func checkFact(t *testing.T, text, name string, args ...api.Term) {
	t.Helper()
	got, err := Fact(text)
	if got.Name != name || !slices.Equal(got.Args, args) || err != api.OK {
		t.Errorf("P8.2: Fact(%q): %v, %d; want %s%v", text, got, err, name, args)
	}
	checkQuery(t, text, atom(name, args...))
}

func badFact(t *testing.T, text string, want api.Errno) {
	t.Helper()
	if got, err := Fact(text); got.Name != "" || got.Args != nil || err != want {
		t.Errorf("P8.2: Fact(%.90q): %v, %d; want a zero one, %d", text, got, err, want)
	}
}

func checkQuery(t *testing.T, text string, want api.Literal) {
	t.Helper()
	if got, err := Query(text); !sameAtom(got, want) || err != api.OK {
		t.Errorf("P8.2: Query(%q): %v, %d; want %v", text, got, err, want)
	}
}

func badQuery(t *testing.T, text string, want api.Errno) {
	t.Helper()
	if got, err := Query(text); got.Kind != 0 || got.Name != "" || got.Args != nil || err != want {
		t.Errorf("P8.2: Query(%.90q): %v, %d; want a zero one, %d", text, got, err, want)
	}
}

// badBoth checks a text that is neither a fact nor a question.
func badBoth(t *testing.T, text string, want api.Errno) {
	t.Helper()
	badFact(t, text, want)
	badQuery(t, text, want)
}

func TestPrograms(t *testing.T) {
	x, y, z, a, b := vary("X"), vary("Y"), vary("Z"), word("a"), word("b")
	check(t, "p.", rule(atom("p")))
	check(t, "edge(a, b).\nedge(b, -12).", rule(atom("edge", a, b)), rule(atom("edge", b, num(-12))))
	check(t, "path(X,Y):-edge(X,Z),!end(Z),Z!=Y.",
		rule(atom("path", x, y), atom("edge", x, z), not("end", z), compare(api.LNe, z, y)))
	check(t, "% ages\nold(P) :- age(P, N), 65 <= N. % who is old\nold(a).",
		rule(atom("old", vary("P")), atom("age", vary("P"), vary("N")), compare(api.LLe, num(65), vary("N"))), rule(atom("old", a)))
	check(t, "p:-q.q:-p.p.p.", rule(atom("p"), atom("q")), rule(atom("q"), atom("p")), rule(atom("p")), rule(atom("p")))
	check(t, "p\n(\ta\r,X % remark ).\n)\n:-\nq . ", rule(atom("p", a, x), atom("q")))
	check(t, "p(p) :- p(p), p, !p, p = p.", rule(atom("p", word("p")), atom("p", word("p")), atom("p"), not("p"), compare(api.LEq, word("p"), word("p"))))
}

func TestProgramOfNothing(t *testing.T) {
	for _, text := range []string{"", " ", "\n", " \t\r\n", "%", "% p.", " % p :- ?\n\t% q", strings.Repeat(" ", 4000), "%" + strings.Repeat("?", 3999)} {
		check(t, text)
	}
}

func TestClausesAreWhole(t *testing.T) {
	for _, clause := range []string{"p", "p(a)", "p(X, Y)", "p :- q", "p(X) :- q(X)", "p :- q, r", "p :- !q", "p :- X < 3", "p :- a = a", "p :- q(a)"} {
		if got, err := Program(clause + "."); len(got) != 1 || err != api.OK {
			t.Errorf("P8.1: Program(%q): %v, %d", clause+".", got, err)
		}
		for _, form := range []string{"#", "p. #", "# #.", "# p.", "#..", ".#.", "p.. #.", "#:-", "#:-.", "#:- q :- r.", "(#).", "#).", "(#.", ":- #.", "#. :- p.", "#. p", "#,."} {
			checkErr(t, strings.ReplaceAll(form, "#", clause), api.ErrSyntax)
		}
	}
	for _, text := range []string{".", ",", ":-", ":-.", "()", "(", "!", "=", "a = b.", "p q.", "p.q", "p :- q r.", "p :- q. r", "p :- q :- r.", "p :- (q).", "p :- q,, r.", "p :- , q.", "p :- q,.", "p :- .", "p :-", "p :- ,."} {
		checkErr(t, text, api.ErrSyntax)
	}
}

func TestHeads(t *testing.T) {
	for _, head := range []string{"!p", "! p(a)", "a = b", "X = a", "a != b", "a < 3", "3 <= a", "X < Y", "p(a) = b", "X", "Xy(a)", "3", "-3", "0", "3(a)", "X(a)", "p(a)(b)", "p a", "!!p", "()", "(a)", ""} {
		for _, form := range []string{"#.", "# :- q.", "p. #.", "q :- p. # :- q."} {
			checkErr(t, strings.Replace(form, "#", head, 1), api.ErrSyntax)
		}
		badBoth(t, head, api.ErrSyntax)
		badBoth(t, head+".", api.ErrSyntax)
	}
}

// atoms are texts of atoms with what they read as.
func atoms() map[string]api.Literal {
	x, y, a, b := vary("X"), vary("Long_Name9"), word("a"), word("b_9")
	return map[string]api.Literal{
		"p":                                     atom("p"),
		"p1_x":                                  atom("p1_x"),
		"abcdefghijklmnop":                      atom("abcdefghijklmnop"),
		"p(a)":                                  atom("p", a),
		"p ( a )":                               atom("p", a),
		"p(X)":                                  atom("p", x),
		"p(0)":                                  atom("p", num(0)),
		"p(-1)":                                 atom("p", num(-1)),
		"p(a,X)":                                atom("p", a, x),
		"p(X, X)":                               atom("p", x, x),
		"p(p)":                                  atom("p", word("p")),
		"p(a,b_9,12)":                           atom("p", a, b, num(12)),
		"p(Long_Name9, a, -7, X)":               atom("p", y, a, num(-7), x),
		"p(a,a,a,a)":                            atom("p", a, a, a, a),
		"p(abcdefghijklmnop, ABCDEFGHIJKLMNOP)": atom("p", word("abcdefghijklmnop"), vary("ABCDEFGHIJKLMNOP")),
		"p(2147483647, 2147483648)":             atom("p", num(1<<31-1), num(1<<31)),
		"p(-2147483648, -2147483647, 1, -1)":    atom("p", num(-1<<31), num(-1<<31+1), num(1), num(-1)),
		"p(% none\n% ).\n\ta\t,\r\nX\n% the end\n)": atom("p", a, x),
	}
}

// noAtoms are texts that begin as one.
var noAtoms = []string{
	"p()", "p( )", "p(,)", "p(a,)", "p(,a)", "p(a,,b)", "p(a b)", "p(a)(b)", "p((a))", "p(a", "p(", "p)", "p(a))", "p(a,", "p(a.b)", "p(!a)", "p(a = b)", "p(a < b)",
	"p(a(b))", "p(X(a))", "p(a;b)", "p[a]", "p(:-)", "p(.)", "p(a:-b)", "p(a, b, c, )", "p(a, b, c, d, )", "p(, a, b, c, d)", "p(-)", "p(-0)", "p(- 1)", "p(01)", "p(1 2)", "p(_)", "p(a-1)",
	"p(2147483649)", "p(-2147483649)", "p(a, 2147483649)", "p(2147483650, a)", "p(9999999999)", "p(-9999999999)", "p(9999999999999999)", "p(-999999999999999)", "p(4294967296)", "p(4294967297, 1)", "p(6442450944)",
	"abcdefghijklmnopq", "p(abcdefghijklmnopq)", "p(ABCDEFGHIJKLMNOPQ)", "p(12345678901234567)",
	"pQ", "p_Q", "p3Q", "3", "X", "3(a)", "X(a)", "-1(a)", "P", "_p", "'p'", "\"p\"", "ä", "p(ä)", "p\x00", "p(\xff)",
}

func TestAtoms(t *testing.T) {
	for text, want := range atoms() {
		check(t, text+".", rule(want))
		check(t, text+":-"+text+".", rule(want, want))
		checkBody(t, text, want)
		checkQuery(t, text, want)
		negated := want
		negated.Kind = api.LNot
		checkBody(t, "!"+text, negated)
		checkBody(t, "!\n"+text, negated)
	}
	for _, text := range noAtoms {
		checkErr(t, text+".", api.ErrSyntax)
		checkErr(t, text+" :- p.", api.ErrSyntax)
		badBody(t, text)
		badBody(t, "!"+text)
		badBoth(t, text, api.ErrSyntax)
		badBoth(t, text+".", api.ErrSyntax)
	}
}

// comparisons are the signs with the kinds that the literals have.
var comparisons = map[string]int{"=": api.LEq, "!=": api.LNe, "<": api.LLt, "<=": api.LLe}

// sides are the texts of terms with what they read as.
func sides() map[string]api.Term {
	return map[string]api.Term{
		"X": vary("X"), "ABCDEFGHIJKLMNOP": vary("ABCDEFGHIJKLMNOP"), "a": word("a"), "abcdefghijklmnop": word("abcdefghijklmnop"), "p": word("p"),
		"0": num(0), "3": num(3), "-3": num(-3), "2147483648": num(1 << 31), "-2147483648": num(-1 << 31), "2147483647": num(1<<31 - 1),
	}
}

func TestComparisons(t *testing.T) {
	for sign, kind := range comparisons {
		for left, a := range sides() {
			for right, b := range sides() {
				checkBody(t, left+sign+right, compare(kind, a, b))
				checkBody(t, left+" "+sign+"\n"+right, compare(kind, a, b))
			}
		}
	}
}

func TestWhatIsNoComparison(t *testing.T) {
	for sign := range comparisons {
		for side := range sides() {
			for _, form := range []string{"S#", "#S", "S##", "##S", "S#(a)", "p(a)#S", "!S#a", "!a#S", "S#!S", "S#S#S", "(S#S)", "S#(S)", "S#2147483649", "2147483649#S", "S#-2147483649", "-2147483649#S", "S#9999999999999999", "S#12345678901234567", "S#abcdefghijklmnopq", "ABCDEFGHIJKLMNOPQ#S", "S#S(a)", "S S", "S !S", "S :- S", "S)#S", "S,#S", "S#,S", "S#;", "_#S", "S # -0", "S # -", "S #:- S"} {
				text := strings.ReplaceAll(strings.ReplaceAll(form, "S", side), "#", sign)
				if form == "S##" && sign == "!=" {
					text = side + "!!= a"
				}
				badBody(t, text)
			}
		}
	}
	for _, text := range []string{"X", "3", "-3", "X(a)", "3(a)", "!X", "!3", "!X(a)", "!!p", "!", "! !p", "!X<2", "!p = a", "!p < a", "a > b", "a >= b", "a == b", "a =< b", "a ! = b", "a < = b", "a =! b", "a: - b", "a(b) < 2", "2 < a(b)", "a = p(a)", "p(a) = b", "a = !b", "a := b", "a <> b"} {
		badBody(t, text)
	}
}

// A name says an atom or a comparison's left side by the word behind it.
func TestNamesInBodies(t *testing.T) {
	p, a := atom("p"), word("a")
	check(t, "p :- a.", rule(p, atom("a")))
	check(t, "p :- a, b.", rule(p, atom("a"), atom("b")))
	check(t, "p :- a(b).", rule(p, atom("a", word("b"))))
	check(t, "p :- a = b.", rule(p, compare(api.LEq, a, word("b"))))
	check(t, "p :- a != b.", rule(p, compare(api.LNe, a, word("b"))))
	check(t, "p :- a < b.", rule(p, compare(api.LLt, a, word("b"))))
	check(t, "p :- a <= b.", rule(p, compare(api.LLe, a, word("b"))))
	check(t, "p :- a, !b, a != b, a.", rule(p, atom("a"), not("b"), compare(api.LNe, a, word("b")), atom("a")))
	check(t, "p :- a % <\n .", rule(p, atom("a")))
	check(t, "p :- a % .\n < % .\n b.", rule(p, compare(api.LLt, a, word("b"))))
	for _, text := range []string{"a !", "a ! b", "a(b) = c", "a )", "a :-", "a b", "a X", "a 3", "a -3", "a (", "a ?"} {
		badBody(t, text)
	}
}

func TestBodyOfNone(t *testing.T) {
	rules, err := Program("p. q(a). r :- p.")
	if len(rules) != 3 || err != api.OK || rules[0].Body != nil || rules[1].Body != nil || len(rules[2].Body) != 1 {
		t.Errorf("P8.2: %v, %d", rules, err)
	}
}

func TestFacts(t *testing.T) {
	for text, want := range atoms() {
		if slices.ContainsFunc(want.Args, func(c api.Term) bool { return c.Kind == api.TVar }) {
			badFact(t, text, api.ErrSyntax)
			badFact(t, text+".", api.ErrSyntax)
			checkQuery(t, text+" . ", want)
			continue
		}
		checkFact(t, text, want.Name, want.Args...)
		checkFact(t, text+".", want.Name, want.Args...)
		checkFact(t, "\n% a fact\n"+text+"\t. % no more\n", want.Name, want.Args...)
	}
}

func TestFactsAndQuestionsAlone(t *testing.T) {
	for _, a := range []string{"p", "p(a)", "p(a, -3)"} {
		for _, form := range []string{"#..", "#. .", "#.#", "#.#.", "# #", "#,", "#,#", "#, #.", "#.,", "#:-", "# :- q", "# :- q.", "# :- a < b.", "#. # :- q.", "!#", "! #.", "!!#", "#!", "# = a", "a = #", "# < 3.", "3 < #", "# ?", "#. ?", "? #", ".#", ",#", "(#)", "#)", "(#", "#. %\n.", "#:", "#-", "#.\x00", "#.\xff"} {
			badBoth(t, strings.ReplaceAll(form, "#", a), api.ErrSyntax)
		}
	}
	for _, text := range []string{"", " ", "%", "% p.", ".", " . ", "..", ",", "!", "()", ":-", "X", "X.", "3", "-3.", "X < 3", "X = Y.", "a = b", "3 <= a."} {
		badBoth(t, text, api.ErrSyntax)
	}
}

func TestFactsWithVariables(t *testing.T) {
	x, a := vary("X"), word("a")
	checkQuery(t, "p(X, a)", atom("p", x, a))
	checkQuery(t, "p(a, X).", atom("p", a, x))
	checkQuery(t, "p(X,Y,Z,X)", atom("p", x, vary("Y"), vary("Z"), x))
	for _, text := range []string{"p(X)", "p(X, a)", "p(a, X).", "p(a, 3, b, X)", "p(X, Y)", "p(X", "p(X ?", "p(a, X, ?"} {
		badFact(t, text, api.ErrSyntax)
	}
}

// items writes n of one item, a comma between.
func items(item string, n int) string {
	return strings.TrimSuffix(strings.Repeat(item+", ", n), ", ")
}

func TestLimits(t *testing.T) {
	x := vary("X")
	for n := 1; n <= 40; n++ {
		text := strings.Repeat("p. ", n)
		body := strings.Repeat("p :- q, r.", n)
		if n <= api.MaxRules {
			check(t, text, slices.Repeat([]api.Rule{rule(atom("p"))}, n)...)
			check(t, body, slices.Repeat([]api.Rule{rule(atom("p"), atom("q"), atom("r"))}, n)...)
			continue
		}
		checkErr(t, text, api.ErrLimit)
		checkErr(t, body, api.ErrLimit)
	}
	for _, l := range []string{"q", "q(a)", "!q", "!q(X, X, X, X)", "X < 3", "a = b", "3 <= X", "a != 3"} {
		for n := 1; n <= 10; n++ {
			text := "p :- " + items(l, n) + "."
			if got, err := Program(text); n <= api.MaxBody && (err != api.OK || len(got) != 1 || len(got[0].Body) != n) {
				t.Errorf("P8.2: Program(%q): %v, %d", text, got, err)
			}
			if n > api.MaxBody {
				checkErr(t, text, api.ErrLimit)
			}
		}
	}
	for n := 1; n <= 10; n++ {
		text := "p(" + items("X", n) + ")"
		fact := "p(" + items("-3", n) + ")"
		if n <= api.MaxArity {
			args := slices.Repeat([]api.Term{x}, n)
			check(t, text+".", rule(atom("p", args...)))
			checkBody(t, text, atom("p", args...))
			checkBody(t, "!"+text, not("p", args...))
			checkQuery(t, text, atom("p", args...))
			checkFact(t, fact, "p", slices.Repeat([]api.Term{num(-3)}, n)...)
			continue
		}
		for _, form := range []string{"#.", "q. # :- q.", "p :- #.", "p :- !#.", "p :- q, #, q."} {
			checkErr(t, strings.ReplaceAll(form, "#", text), api.ErrLimit)
			checkErr(t, strings.ReplaceAll(form, "#", fact), api.ErrLimit)
		}
		badQuery(t, text, api.ErrLimit)
		badBoth(t, fact, api.ErrLimit)
		badBoth(t, fact+".", api.ErrLimit)
	}
}

func TestLimitsTogether(t *testing.T) {
	a := "p(a,X,-3,b)"
	want := atom("p", word("a"), vary("X"), num(-3), word("b"))
	one := rule(want, slices.Repeat([]api.Literal{want}, api.MaxBody)...)
	check(t, strings.Repeat(a+":-"+items(a, api.MaxBody)+".", api.MaxRules), slices.Repeat([]api.Rule{one}, api.MaxRules)...)
}

// A limit is met when what is one too many has been read whole, not sooner, not later.
func TestWhenALimitIsMet(t *testing.T) {
	six, thirty := "p :- a,b,c,d,e,f", strings.Repeat("p.", 30)
	for _, c := range []struct {
		text string
		want api.Errno
	}{
		{"p(a,b,c,d", api.ErrSyntax},
		{"p(a,b,c,d,", api.ErrSyntax},
		{"p(a,b,c,d,)", api.ErrSyntax},
		{"p(a,b,c,d,?", api.ErrSyntax},
		{"p(a,b,c,d ?", api.ErrSyntax},
		{"p(a,b,c,d,!e)", api.ErrSyntax},
		{"p(a,b,c,d,2147483649)", api.ErrSyntax},
		{"p(a,b,c,d,-2147483649)", api.ErrSyntax},
		{"p(a,b,c,d,-0)", api.ErrSyntax},
		{"p(a,b,c,d,abcdefghijklmnopq)", api.ErrSyntax},
		{"p(a,b,c,d,abcdefghijklmnop_)", api.ErrSyntax},
		{"p(a,b,c,d,ABCDEFGHIJKLMNOP_", api.ErrSyntax},
		{"p(a,b,c,d,ABCDEFGHIJKLMNOPQ", api.ErrSyntax},
		{"p(a,b,c,d,12345678901234567", api.ErrSyntax},
		{"p(a,b,c,d,-1234567890123456", api.ErrSyntax},
		{"p(a,b,c,d,e", api.ErrLimit},
		{"p(a,b,c,d,e)", api.ErrLimit},
		{"p(a,b,c,d,e,", api.ErrLimit},
		{"p(a,b,c,d,e,f", api.ErrLimit},
		{"p(a,b,c,d,X", api.ErrLimit},
		{"p(a,b,c,d,-3", api.ErrLimit},
		{"p(a,b,c,d,e?", api.ErrLimit},
		{"p(a,b,c,d,e ?", api.ErrLimit},
		{"p(a,b,c,d,e(", api.ErrLimit},
		{"p(a,b,c,d,e:", api.ErrLimit},
		{"p(a,b,c,d,e-", api.ErrLimit},
		{"p(a,b,c,d,1-0", api.ErrLimit},
		{"p(a,b,c,d,1_", api.ErrLimit},
		{"p(a,b,c,d,abcdefghijklmnop?", api.ErrLimit},
		{"p(a,b,c,d,abcdefghijklmnop _", api.ErrLimit},
		{"p(a,b,c,d,abcdefghijklmnop%\n?", api.ErrLimit},
		{"p(a,b,c,d,abcdefghijklmnop% _\n_", api.ErrLimit},
		{"p(a,b,c,d,abcdefghijklmnop%\nabcdefghijklmnopq", api.ErrLimit},
		{"p(a,b,c,d,abcdefghijklmnopQ?", api.ErrLimit},
		{"p(a,b,c,d,abcdefghijklmnop-", api.ErrLimit},
		{"p(a,b,c,d,ABCDEFGHIJKLMNOP-0", api.ErrLimit},
		{"p(a,b,c,d,e,abcdefghijklmnopq", api.ErrLimit},
		{"p(a,b,c,d,2147483648 2147483649", api.ErrLimit},
		{"p(a,b,c,d,e abcdefghijklmnop_", api.ErrLimit},
		{six, api.ErrSyntax},
		{six + ",", api.ErrSyntax},
		{six + " ?", api.ErrSyntax},
		{six + ",.", api.ErrSyntax},
		{six + ",?", api.ErrSyntax},
		{six + ",!", api.ErrSyntax},
		{six + ",!?", api.ErrSyntax},
		{six + ",!X", api.ErrSyntax},
		{six + ",g(", api.ErrSyntax},
		{six + ",g(?", api.ErrSyntax},
		{six + ",g(a", api.ErrSyntax},
		{six + ",g(a ?", api.ErrSyntax},
		{six + ",!g(a ?", api.ErrSyntax},
		{six + ",g()", api.ErrSyntax},
		{six + ",g(2147483649)", api.ErrSyntax},
		{six + ",g <", api.ErrSyntax},
		{six + ",g < ?", api.ErrSyntax},
		{six + ",g < 2147483649", api.ErrSyntax},
		{six + ",2147483649 < g", api.ErrSyntax},
		{six + ",X", api.ErrSyntax},
		{six + ",X ?", api.ErrSyntax},
		{six + ",X <", api.ErrSyntax},
		{six + ",3 = abcdefghijklmnopq", api.ErrSyntax},
		{six + ",abcdefghijklmnopq", api.ErrSyntax},
		{six + ",abcdefghijklmnop_", api.ErrSyntax},
		{six + ",3", api.ErrSyntax},
		{six + ",g", api.ErrLimit},
		{six + ",g.", api.ErrLimit},
		{six + ",g ?", api.ErrLimit},
		{six + ",g?", api.ErrLimit},
		{six + ",g,", api.ErrLimit},
		{six + ",g g", api.ErrLimit},
		{six + ",g X", api.ErrLimit},
		{six + ",g !", api.ErrLimit},
		{six + ",g :-", api.ErrLimit},
		{six + ",g(a)", api.ErrLimit},
		{six + ",g(a)?", api.ErrLimit},
		{six + ",g(a) < 3", api.ErrLimit},
		{six + ",g(a,b,c,d,e", api.ErrLimit},
		{six + ",!g", api.ErrLimit},
		{six + ",!g?", api.ErrLimit},
		{six + ",!g < 3", api.ErrLimit},
		{six + ",!g(a)(", api.ErrLimit},
		{six + ",g < 3", api.ErrLimit},
		{six + ",g < h(", api.ErrLimit},
		{six + ",3 <= X?", api.ErrLimit},
		{six + ",X = 2147483648 2147483649", api.ErrLimit},
		{thirty, api.OK},
		{thirty + "% ?", api.OK},
		{thirty + "?", api.ErrSyntax},
		{thirty + "p", api.ErrSyntax},
		{thirty + "p ?", api.ErrSyntax},
		{thirty + "p q.", api.ErrSyntax},
		{thirty + "p(a)", api.ErrSyntax},
		{thirty + "p :- q", api.ErrSyntax},
		{thirty + "p :- q ?.", api.ErrSyntax},
		{thirty + "p :- .", api.ErrSyntax},
		{thirty + "!p.", api.ErrSyntax},
		{thirty + ".", api.ErrSyntax},
		{thirty + "p(2147483649).", api.ErrSyntax},
		{thirty + "abcdefghijklmnopq.", api.ErrSyntax},
		{thirty + "p.", api.ErrLimit},
		{thirty + "p.?", api.ErrLimit},
		{thirty + "p..", api.ErrLimit},
		{thirty + "p :- q. ?", api.ErrLimit},
		{thirty + "p. p :- ", api.ErrLimit},
		{thirty + "p. abcdefghijklmnopq", api.ErrLimit},
		{thirty + "p(a,b,c,d,e", api.ErrLimit},
		{thirty + six + ",g", api.ErrLimit},
	} {
		got, err := Program(c.text)
		if err != c.want || (err == api.OK) != (got != nil) {
			t.Errorf("P8.2: Program(%q): %v, %d; want %d", c.text, got, err, c.want)
		}
	}
}

// faults are pieces of programs that hold one error each, told as soon as the piece has been read.
var faults = []struct {
	text string
	err  api.Errno
}{
	{"?", api.ErrSyntax},
	{"p(_).", api.ErrSyntax},
	{"q :- p, abcdefghijklmnopq.", api.ErrSyntax},
	{"p(ABCDEFGHIJKLMNOPQ).", api.ErrSyntax},
	{"q :- 12345678901234567 < 3.", api.ErrSyntax},
	{"q :- -0 = 0.", api.ErrSyntax},
	{"q : p.", api.ErrSyntax},
	{"p q.", api.ErrSyntax},
	{"p().", api.ErrSyntax},
	{"!p.", api.ErrSyntax},
	{"q :- X.", api.ErrSyntax},
	{"p(2147483649).", api.ErrSyntax},
	{"q :- X < -2147483649.", api.ErrSyntax},
	{"p(a,b,c,d,e).", api.ErrLimit},
	{"q :- !p(1,2,3,4,5).", api.ErrLimit},
	{"q :- a,b,c,d,e,f,g.", api.ErrLimit},
	{"q :- 1=1,2=2,3=3,4=4,5=5,6=6,7=7.", api.ErrLimit},
	{strings.Repeat("p.", 31), api.ErrLimit},
	{strings.Repeat("p :- q, r.\n", 31), api.ErrLimit},
}

func TestOfTwoErrorsTheFirst(t *testing.T) {
	for _, first := range faults {
		for _, second := range faults {
			for _, between := range []string{"", " ", "\n% p.\n", "p.", "q :- p, X = 3.\n"} {
				for _, ahead := range []string{"", "p. ", "% ?\np(X) :- q(X)."} {
					checkErr(t, ahead+first.text+between+second.text, first.err)
				}
			}
		}
	}
}

func TestOfTwoErrorsInFactsAndQuestions(t *testing.T) {
	for _, c := range []struct {
		text        string
		fact, query api.Errno
	}{
		{"p(a,b,c,d,e ?", api.ErrLimit, api.ErrLimit},
		{"p(a,b,c,d,e) q", api.ErrLimit, api.ErrLimit},
		{"p(a,b,c,d,e", api.ErrLimit, api.ErrLimit},
		{"p(a,b,c,d ?,e)", api.ErrSyntax, api.ErrSyntax},
		{"p(a,b,c,d,?)", api.ErrSyntax, api.ErrSyntax},
		{"? p(a,b,c,d,e)", api.ErrSyntax, api.ErrSyntax},
		{"!p(a,b,c,d,e)", api.ErrSyntax, api.ErrSyntax},
		{"p p(a,b,c,d,e)", api.ErrSyntax, api.ErrSyntax},
		{"p. p(a,b,c,d,e)", api.ErrSyntax, api.ErrSyntax},
		{"p(a,2147483649,c,d,e)", api.ErrSyntax, api.ErrSyntax},
		{"p(a,b,c,d,2147483649)", api.ErrSyntax, api.ErrSyntax},
		{"p(a,b,c,d,e,2147483649)", api.ErrLimit, api.ErrLimit},
		{"p(a,b,c,d,abcdefghijklmnopq", api.ErrSyntax, api.ErrSyntax},
		{"p(a,b,c,d,abcdefghijklmnop?", api.ErrLimit, api.ErrLimit},
		// In a fact a variable is a fault of its own, where it stands.
		{"p(X,b,c,d,e)", api.ErrSyntax, api.ErrLimit},
		{"p(a,b,c,X,e)", api.ErrSyntax, api.ErrLimit},
		{"p(a,b,c,d,X)", api.ErrSyntax, api.ErrLimit},
		{"p(a,b,c,d,e,X)", api.ErrLimit, api.ErrLimit},
	} {
		for _, ahead := range []string{"", " \n% p ?\n"} {
			badFact(t, ahead+c.text, c.fact)
			badQuery(t, ahead+c.text, c.query)
		}
	}
}

func TestLongTexts(t *testing.T) {
	for _, text := range []string{"", "p.", "?", "p q.", "p(a,b,c,d,e).", strings.Repeat("p.", 31), "p(", "p :- a,b,c,d,e,f,g.", "abcdefghijklmnopq"} {
		for _, fill := range []string{" ", "\n", "%", "p.", "?", "a"} {
			long := text + strings.Repeat(fill, 4002)
			for _, size := range []int{4001, 4002} {
				checkErr(t, long[:size], api.ErrLimit)
				badBoth(t, long[:size], api.ErrLimit)
			}
		}
		checkErr(t, text+strings.Repeat("?", 1e6), api.ErrLimit)
	}
	rest := strings.Repeat(" ", 3998)
	check(t, "p."+rest, rule(atom("p")))
	check(t, rest+"p.", rule(atom("p")))
	checkFact(t, rest+"p.", "p")
	checkFact(t, " p"+rest, "p")
	checkErr(t, rest+"p?", api.ErrSyntax)
	badBoth(t, "p?"+rest, api.ErrSyntax)
	checkErr(t, strings.Repeat("?", 4000), api.ErrSyntax)
	checkErr(t, strings.Repeat("(", 4000), api.ErrSyntax)
	checkErr(t, strings.Repeat("p(", 2000), api.ErrSyntax)
	checkErr(t, strings.Repeat("!", 4000), api.ErrSyntax)
	checkErr(t, "p:-"+strings.Repeat("!", 3997), api.ErrSyntax)
	checkErr(t, "p(a"+strings.Repeat(",a", 1998), api.ErrLimit)
	checkErr(t, "p(a"+strings.Repeat(",a", 1998)+"?", api.ErrLimit)
	checkErr(t, "p:-q"+strings.Repeat(",q", 1998), api.ErrLimit)
	checkErr(t, strings.Repeat("p.", 1999)+".?", api.ErrLimit)
}

func TestAnyByteAnywhere(t *testing.T) {
	const text = "p(a,-3,X):-q(X),!r,X<2,a!=X."
	for at := range len(text) {
		for b := range 256 {
			changed := []byte(text)
			changed[at] = byte(b)
			want, wantErr := modelProgram(string(changed))
			got, err := Program(string(changed))
			if !slices.EqualFunc(got, want, sameRule) || err != wantErr {
				t.Errorf("P8.1: Program(%q): %v, %d; want %v, %d", changed, got, err, want, wantErr)
			}
		}
	}
}

func TestAnswersAreNewMemory(t *testing.T) {
	text := "p(a, X) :- q(a, X), !p(a, X), X < a. p(a, X)."
	one, _ := Program(text)
	two, _ := Program(text)
	var names []string
	for _, rules := range [][]api.Rule{one, two} {
		for _, r := range rules {
			for _, l := range append([]api.Literal{r.Head}, r.Body...) {
				names = append(names, l.Name)
				for _, a := range l.Args {
					names = append(names, a.Name)
				}
			}
		}
	}
	begin := uintptr(unsafe.Pointer(unsafe.StringData(text)))
	for _, s := range names {
		if at := uintptr(unsafe.Pointer(unsafe.StringData(s))); s != "" && begin <= at && at < begin+uintptr(len(text)) {
			t.Fatalf("P0.3: %q is a piece of the text", s)
		}
	}
	// Each list is filled up with all its spare room: the others stay.
	wipe(one)
	if again, _ := Program(text); !slices.EqualFunc(two, again, sameRule) {
		t.Errorf("P0.3: %v, want %v", two, again)
	}
}

func wipe(rules []api.Rule) {
	for _, r := range rules {
		for _, l := range append([]api.Literal{r.Head}, r.Body...) {
			clear(l.Args[:cap(l.Args)])
		}
		clear(r.Body[:cap(r.Body)])
	}
	clear(rules[:cap(rules)])
}

func TestListsOfOneAnswerShareNone(t *testing.T) {
	rules, _ := Program("p(a, b, c) :- q(d, e, f), r(g), X < 3. p(h) :- q(i). p.")
	fill := 0
	for i := range rules {
		rules[i].Body = append(rules[i].Body, atom("more"))
		for _, l := range append([]*api.Literal{&rules[i].Head}, pointers(rules[i].Body)...) {
			l.Args = append(l.Args, num(int64(fill)))
			fill++
		}
	}
	want := "p(a, b, c, 0) :- q(d, e, f, 1), r(g, 2), X < 3, more(4).|p(h, 5) :- q(i, 6), more(7).|p(8) :- more(9)."
	var texts []string
	for _, r := range rules {
		texts = append(texts, Print(r))
	}
	if got := strings.Join(texts, "|"); got != want {
		t.Errorf("P0.3: %s, want %s", got, want)
	}
	f, _ := Fact("p(a, b, c)")
	q, _ := Query("p(a, b, c)")
	clear(f.Args[:cap(f.Args)])
	clear(q.Args[:cap(q.Args)])
	checkFact(t, "p(a, b, c)", "p", word("a"), word("b"), word("c"))
}

func pointers(body []api.Literal) []*api.Literal {
	var all []*api.Literal
	for i := range body {
		all = append(all, &body[i])
	}
	return all
}

func TestOtherFieldsAreZero(t *testing.T) {
	rules, err := Program("p(a, -3, X) :- q(a, 3, X), !r(a), X = 0, a < b.")
	want := "[{{1 p [{2 a 0} {3  -3} {1 X 0}]} [{1 q [{2 a 0} {3  3} {1 X 0}]} {2 r [{2 a 0}]} {3  [{1 X 0} {3  0}]} {5  [{2 a 0} {2 b 0}]}]}]"
	if got := fmt.Sprint(rules); got != want || err != api.OK {
		t.Errorf("P0.2: %s, %d; want %s", got, err, want)
	}
}
