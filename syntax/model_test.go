package syntax

import (
	"math/big"
	"math/rand"
	"regexp"
	"slices"
	"strings"
	"testing"

	"delphi/api"
)

// model reads a text byte by byte, without words, by patterns of what may stand next; it panics with the error that it meets.
type model struct{ rest string }

var (
	skipped     = regexp.MustCompile(`^(?:[ \t\r\n]|%[^\n]*)*`)
	nameNext    = regexp.MustCompile(`^[a-z][a-z0-9_]*`)
	varNext     = regexp.MustCompile(`^[A-Z][A-Za-z0-9_]*`)
	numberNext  = regexp.MustCompile(`^(?:0|-?[1-9][0-9]*)`)
	signNext    = regexp.MustCompile(`^(?::-|!=|<=|[(),.!=<])`)
	compareNext = regexp.MustCompile(`^(?:=|!=|<=?)$`)
)

func modelProgram(text string) (rules []api.Rule, err api.Errno) {
	defer caught(&err, func() { rules = nil })
	m := modelOf(text)
	for m.rest != "" {
		head := m.atom(true)
		one := rule(head)
		if m.take(":-") {
			m.some(api.MaxBody, func() { one.Body = append(one.Body, m.literal()) })
		}
		m.must(".")
		if rules = append(rules, one); len(rules) > api.MaxRules {
			panic(api.ErrLimit)
		}
	}
	return rules, api.OK
}

func modelAtom(text string, variables bool) (l api.Literal, err api.Errno) {
	defer caught(&err, func() { l = api.Literal{} })
	m := modelOf(text)
	l = m.atom(variables)
	m.take(".")
	if m.rest != "" {
		panic(api.ErrSyntax)
	}
	return l, api.OK
}

func modelOf(text string) *model {
	if len(text) > api.MaxText {
		panic(api.ErrLimit)
	}
	m := &model{text}
	m.pass(0)
	return m
}

func caught(err *api.Errno, undo func()) {
	if p := recover(); p != nil {
		undo()
		*err = p.(api.Errno)
	}
}

func (m *model) pass(size int) {
	m.rest = m.rest[size:]
	m.rest = m.rest[len(skipped.FindString(m.rest)):]
}

func (m *model) sign() string { return signNext.FindString(m.rest) }

func (m *model) take(sign string) bool {
	if m.sign() != sign {
		return false
	}
	m.pass(len(sign))
	return true
}

func (m *model) must(sign string) {
	if !m.take(sign) {
		panic(api.ErrSyntax)
	}
}

func (m *model) word(pattern *regexp.Regexp) string {
	found := pattern.FindString(m.rest)
	if len(found) > api.MaxName {
		panic(api.ErrSyntax)
	}
	m.pass(len(found))
	return found
}

func (m *model) some(limit int, item func()) {
	for n := 1; ; n++ {
		item()
		if n > limit {
			panic(api.ErrLimit)
		}
		if !m.take(",") {
			return
		}
	}
}

func (m *model) term(variables bool) api.Term {
	if s := m.word(nameNext); s != "" {
		return word(s)
	}
	if variables {
		if s := m.word(varNext); s != "" {
			return vary(s)
		}
	}
	s := m.word(numberNext)
	worth, ok := new(big.Int).SetString(s, 10)
	if !ok || worth.CmpAbs(big.NewInt(1<<31)) > 0 {
		panic(api.ErrSyntax)
	}
	return num(worth.Int64())
}

func (m *model) atom(variables bool) api.Literal {
	l := atom(m.word(nameNext))
	if l.Name == "" {
		panic(api.ErrSyntax)
	}
	if m.take("(") {
		m.some(api.MaxArity, func() { l.Args = append(l.Args, m.term(variables)) })
		m.must(")")
	}
	return l
}

func (m *model) literal() api.Literal {
	if m.take("!") {
		l := m.atom(true)
		l.Kind = api.LNot
		return l
	}
	copied := *m
	if copied.word(nameNext) != "" && !compareNext.MatchString(copied.sign()) {
		return m.atom(true)
	}
	left := m.term(true)
	sign := m.sign()
	kind, ok := comparisons[sign]
	if !ok {
		panic(api.ErrSyntax)
	}
	m.pass(len(sign))
	return compare(kind, left, m.term(true))
}

// agree checks all that may be asked of a text against the model.
func agree(t *testing.T, text string) api.Errno {
	t.Helper()
	rules, err := Program(text)
	wantRules, wantErr := modelProgram(text)
	if !slices.EqualFunc(rules, wantRules, sameRule) || err != wantErr {
		t.Fatalf("P8.1: Program(%q): %v, %d; want %v, %d", text, rules, err, wantRules, wantErr)
	}
	query, queryErr := Query(text)
	if want, wantErr := modelAtom(text, true); !sameAtom(query, want) || queryErr != wantErr {
		t.Fatalf("P8.2: Query(%q): %v, %d; want %v, %d", text, query, queryErr, want, wantErr)
	}
	fact, factErr := Fact(text)
	if want, wantErr := modelAtom(text, false); fact.Name != want.Name || !slices.Equal(fact.Args, want.Args) || factErr != wantErr {
		t.Fatalf("P8.2: Fact(%q): %v, %d; want %v, %d", text, fact, factErr, want, wantErr)
	}
	return err
}

// bits are what random texts are made of, good and bad.
var bits = []string{
	"p", "q", "a", "X", "Y", "3", "-3", "0", "2147483648", "2147483649", "-2147483649", "abcdefghijklmnop", "abcdefghijklmnopq", "ABCDEFGHIJKLMNOP", "123456789012345", "1234567890123456",
	"(", "(", ")", ")", ",", ",", ",", ".", ".", ":-", ":-", "!", "=", "!=", "<", "<=", " ", "\n", "% .\n", "%", "?", "_", "-", ":",
}

func TestTextsOfFewPieces(t *testing.T) {
	few := []string{"p", "X", "3", "(", ")", ",", ".", ":-", "!", "<", "?"}
	var all func(text string, left int)
	all = func(text string, left int) {
		agree(t, text)
		if left > 0 {
			for _, piece := range few {
				all(text+piece, left-1)
			}
		}
	}
	all("", 4)
	for _, beginning := range []string{"p:-", "p(a,b,c,d,", "p:-a,b,c,d,e,f,", "p:-a,b,c,d,e,f,g(", strings.Repeat("p.", 30)} {
		all(beginning, 3)
	}
}

func TestTextsOfRandomPieces(t *testing.T) {
	r := rand.New(rand.NewSource(2))
	for range 60000 {
		var text strings.Builder
		for range r.Intn(15) {
			text.WriteString(bits[r.Intn(len(bits))])
		}
		agree(t, text.String())
	}
}

// Programs with a few pieces changed: most errors stand deep within them.
func TestProgramsThatAreSpoiled(t *testing.T) {
	r := rand.New(rand.NewSource(3))
	told := [9]int{}
	for range 6000 {
		var parts []string
		for range r.Intn(6) * (1 + r.Intn(7)) {
			parts = append(parts, Print(randomRule(r)))
		}
		text := strings.Join(parts, " ")
		for range r.Intn(4) {
			at := r.Intn(len(text) + 1)
			end := min(len(text), at+r.Intn(3))
			piece := bits[r.Intn(len(bits))]
			if r.Intn(3) == 0 {
				piece += "," + items("b", r.Intn(6))
			}
			text = text[:at] + piece + text[end:]
		}
		told[agree(t, text)]++
	}
	for _, err := range []api.Errno{api.OK, api.ErrSyntax, api.ErrLimit} {
		if told[err] < 150 {
			t.Errorf("only %d texts with the answer %d", told[err], err)
		}
	}
}
