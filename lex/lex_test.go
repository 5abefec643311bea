package lex

import (
	"math/rand"
	"regexp"
	"slices"
	"strconv"
	"strings"
	"testing"
	"unsafe"

	"delphi/api"
)

// tell writes words as kind:text@at, a blank between.
func tell(words []Word) string {
	var parts []string
	for _, w := range words {
		parts = append(parts, strconv.Itoa(w.Kind)+":"+w.Text+"@"+strconv.Itoa(w.At))
	}
	return strings.Join(parts, " ")
}

func check(t *testing.T, text, want string) {
	t.Helper()
	words, err := Scan(text)
	if got := tell(words); got != want || err != api.OK {
		t.Errorf("P7.1: Scan(%q): %s, %d; want %s", text, got, err, want)
	}
}

func checkErr(t *testing.T, text string, want api.Errno) {
	t.Helper()
	words, err := Scan(text)
	if words != nil || err != want {
		t.Errorf("P7.1: Scan(%.60q), %d bytes: %s, %d; want nil, %d", text, len(text), tell(words), err, want)
	}
}

func TestScanOfPrograms(t *testing.T) {
	check(t, "p.", "1:p@0 4:.@1")
	check(t, "edge(a, b).\nedge(b, -12).", "1:edge@0 4:(@4 1:a@5 4:,@6 1:b@8 4:)@9 4:.@10 1:edge@12 4:(@16 1:b@17 4:,@18 3:-12@20 4:)@23 4:.@24")
	check(t, "path(X,Y):-edge(X,Z),!end(Z),Z!=Y.",
		"1:path@0 4:(@4 2:X@5 4:,@6 2:Y@7 4:)@8 4::-@9 1:edge@11 4:(@15 2:X@16 4:,@17 2:Z@18 4:)@19 4:,@20 4:!@21 1:end@22 4:(@25 2:Z@26 4:)@27 4:,@28 2:Z@29 4:!=@30 2:Y@32 4:.@33")
	check(t, "% ages\nold(P) :- age(P, N), 65 <= N. % who is old\n",
		"1:old@7 4:(@10 2:P@11 4:)@12 4::-@14 1:age@17 4:(@20 2:P@21 4:,@22 2:N@24 4:)@25 4:,@26 3:65@28 4:<=@31 2:N@34 4:.@35")
	check(t, "same(X, Y) :- X = Y, X < 3.", "1:same@0 4:(@4 2:X@5 4:,@6 2:Y@8 4:)@9 4::-@11 2:X@14 4:=@16 2:Y@18 4:,@19 2:X@21 4:<@23 3:3@25 4:.@26")
}

// Words need make no program.
func TestScanOfWordsThatAreNoProgram(t *testing.T) {
	check(t, ").,(", "4:)@0 4:.@1 4:,@2 4:(@3")
	check(t, "a b 1 2 X Y", "1:a@0 1:b@2 3:1@4 3:2@6 2:X@8 2:Y@10")
	check(t, "not Not", "1:not@0 2:Not@4")
}

func TestScanOfNothing(t *testing.T) {
	for _, text := range []string{"", " ", "\t", "\n", "\r", "\r\n", " \t\r\n\n\t ", "%", "%%", "% %", "%\n", "\n%", "%a", "%a\n%b\n%c", "%?\xff\x00_-:", strings.Repeat("%\n", 2000)} {
		check(t, text, "")
	}
}

func TestScanOfBlanks(t *testing.T) {
	for _, blank := range []string{" ", "\t", "\n", "\r"} {
		check(t, blank+"a"+blank+blank+"b"+blank, "1:a@1 1:b@4")
		check(t, "<"+blank+"=", "4:<@0 4:=@2")
		check(t, "!"+blank+"=", "4:!@0 4:=@2")
		check(t, "1"+blank+"2", "3:1@0 3:2@2")
		check(t, "X"+blank+"y", "2:X@0 1:y@2")
		checkErr(t, ":"+blank+"-", api.ErrSyntax)
		checkErr(t, "-"+blank+"1", api.ErrSyntax)
		checkErr(t, "_"+blank, api.ErrSyntax)
	}
	for _, other := range []string{"\x08", "\x0b", "\x0c", "\x0e", "\x1f", "\x00", "\x7f", "\u0085", "\u00a0", "\u2003", "\u2028", "\ufeff"} {
		checkErr(t, other, api.ErrSyntax)
		checkErr(t, "a"+other+"b", api.ErrSyntax)
		checkErr(t, " "+other, api.ErrSyntax)
	}
	check(t, "a!b", "1:a@0 4:!@1 1:b@2")
}

func TestScanOfRemarks(t *testing.T) {
	check(t, "%a\nb", "1:b@3")
	check(t, "a%b", "1:a@0")
	check(t, "a%", "1:a@0")
	check(t, "a%b\nc", "1:a@0 1:c@4")
	check(t, "a%b%c\nd%e", "1:a@0 1:d@6")
	check(t, "a%b\r\nc", "1:a@0 1:c@5")
	check(t, "a%\r\nc", "1:a@0 1:c@4")
	check(t, "%\r\n%\r\nc", "1:c@6")
	check(t, "a%b\rc", "1:a@0")
	check(t, "a%b\rc\nd", "1:a@0 1:d@6")
	check(t, "a%b\n\rc", "1:a@0 1:c@5")
	check(t, "a%\n\n%\nb", "1:a@0 1:b@6")
	check(t, "a%\u2028b\u0085c\n d", "1:a@0 1:d@11")
	check(t, "a%"+strings.Repeat("x", 17)+"\nb", "1:a@0 1:b@20")
	check(t, "a%?_\x00\xff:\nb", "1:a@0 1:b@8")
	check(t, "<%\n=", "4:<@0 4:=@3")
	check(t, "1%\n2", "3:1@0 3:2@3")
	check(t, "X%\ny", "2:X@0 1:y@3")
	checkErr(t, ":%\n-", api.ErrSyntax)
	checkErr(t, "-%\n1", api.ErrSyntax)
	checkErr(t, "%a\n?", api.ErrSyntax)
	checkErr(t, "?%a", api.ErrSyntax)
}

var allSigns = []string{"(", ")", ",", ".", ":-", "!", "=", "!=", "<", "<="}

func TestScanOfSigns(t *testing.T) {
	for _, s := range allSigns {
		check(t, s, "4:"+s+"@0")
		check(t, " "+s+" ", "4:"+s+"@1")
		check(t, "a"+s+"X", "1:a@0 4:"+s+"@1 2:X@"+strconv.Itoa(1+len(s)))
		check(t, s+"-1", "4:"+s+"@0 3:-1@"+strconv.Itoa(len(s)))
	}
}

func TestScanOfSignsSideBySide(t *testing.T) {
	for _, a := range allSigns {
		for _, b := range allSigns {
			want := "4:" + a + "@0 4:" + b + "@" + strconv.Itoa(len(a))
			if (a == "!" || a == "<") && b == "=" {
				want = "4:" + a + b + "@0"
			}
			check(t, a+b, want)
		}
	}
	check(t, "<=<!==", "4:<=@0 4:<@2 4:!=@3 4:=@5")
	check(t, "!==", "4:!=@0 4:=@2")
	check(t, "!!=", "4:!@0 4:!=@1")
	check(t, "<==", "4:<=@0 4:=@2")
	check(t, "<<=", "4:<@0 4:<=@1")
	check(t, "=<=", "4:=@0 4:<=@1")
	check(t, "=<", "4:=@0 4:<@1")
	check(t, "=!=", "4:=@0 4:!=@1")
	check(t, "==", "4:=@0 4:=@1")
	check(t, ":-1", "4::-@0 3:1@2")
	check(t, ":--1", "4::-@0 3:-1@2")
	check(t, ":-:-", "4::-@0 4::-@2")
	check(t, "...", "4:.@0 4:.@1 4:.@2")
}

func TestScanOfAColonAlone(t *testing.T) {
	for _, text := range []string{":", "::-", ":=", ": -", ":a", ":-:", ":--", "a:b", "a:", ":\n-", "-:", ":1", ":.", "::"} {
		checkErr(t, text, api.ErrSyntax)
	}
}

func TestScanOfSignsThatAreNone(t *testing.T) {
	for _, text := range []string{">", ">=", "=>", "<>", "->", "<-", "[", "]", "{", "}", ";", "?", "?-", "+", "+1", "*", "/", "\\", "|", "&", "^", "~", "#", "$", "@", "'", "\"", "`", "=-", "!-", "≤", "≠", "（"} {
		checkErr(t, text, api.ErrSyntax)
	}
}

func TestScanOfNames(t *testing.T) {
	check(t, "a", "1:a@0")
	check(t, "z", "1:z@0")
	check(t, "az09_", "1:az09_@0")
	check(t, "a_", "1:a_@0")
	check(t, "a__", "1:a__@0")
	check(t, "a9", "1:a9@0")
	check(t, "a0b", "1:a0b@0")
	check(t, "aB", "1:a@0 2:B@1")
	check(t, "aBc", "1:a@0 2:Bc@1")
	check(t, "a_B", "1:a_@0 2:B@2")
	check(t, "a9Z", "1:a9@0 2:Z@2")
	check(t, "a-1", "1:a@0 3:-1@1")
	check(t, "abcdefghijklmnop", "1:abcdefghijklmnop@0")
	check(t, "a_______________", "1:a_______________@0")
	check(t, "a123456789012345", "1:a123456789012345@0")
	check(t, "abcdefghijklmnopQ", "1:abcdefghijklmnop@0 2:Q@16")
	check(t, "abcdefghijklmnop q", "1:abcdefghijklmnop@0 1:q@17")
	check(t, "abcdefghijklmnop(", "1:abcdefghijklmnop@0 4:(@16")
	check(t, "abcdefghijklmnop-1", "1:abcdefghijklmnop@0 3:-1@16")
	for _, text := range []string{"abcdefghijklmnopq", "abcdefghijklmnop0", "abcdefghijklmnop_", " abcdefghijklmnopq ", strings.Repeat("a", 32), strings.Repeat("a", 4000)} {
		checkErr(t, text, api.ErrSyntax)
	}
}

func TestScanOfVariables(t *testing.T) {
	check(t, "A", "2:A@0")
	check(t, "Z", "2:Z@0")
	check(t, "AZaz09_", "2:AZaz09_@0")
	check(t, "X_", "2:X_@0")
	check(t, "X9", "2:X9@0")
	check(t, "Xy", "2:Xy@0")
	check(t, "XaY_9b", "2:XaY_9b@0")
	check(t, "X-1", "2:X@0 3:-1@1")
	check(t, "ABCDEFGHIJKLMNOP", "2:ABCDEFGHIJKLMNOP@0")
	check(t, "Abcdefghijklmnop", "2:Abcdefghijklmnop@0")
	check(t, "X_______________", "2:X_______________@0")
	check(t, "Abcdefghijklmnop-1", "2:Abcdefghijklmnop@0 3:-1@16")
	check(t, "Abcdefghijklmnop.", "2:Abcdefghijklmnop@0 4:.@16")
	for _, text := range []string{"ABCDEFGHIJKLMNOPQ", "Abcdefghijklmnopq", "Abcdefghijklmnop0", "Abcdefghijklmnop_", "AbcdefghijklmnopQ", strings.Repeat("A", 32), strings.Repeat("A", 4000)} {
		checkErr(t, text, api.ErrSyntax)
	}
}

func TestScanOfWhatBeginsNoNameOrVariable(t *testing.T) {
	for _, text := range []string{"_", "__", "_a", "_X", "_1", "a _b", "a,_", "1_", "-1_", "0_0", "é", "aé", "É", "Xé", "ａ", "Ａ", "Xß", "aª"} {
		checkErr(t, text, api.ErrSyntax)
	}
	check(t, "1a", "3:1@0 1:a@1")
	check(t, "1X", "3:1@0 2:X@1")
	check(t, "0a_", "3:0@0 1:a_@1")
}

func TestScanOfNumbers(t *testing.T) {
	for n := -1200; n <= 1200; n++ {
		text := strconv.Itoa(n)
		check(t, text, "3:"+text+"@0")
	}
	check(t, "2147483648", "3:2147483648@0")
	check(t, "-2147483648", "3:-2147483648@0")
	check(t, "00", "3:0@0 3:0@1")
	check(t, "01", "3:0@0 3:1@1")
	check(t, "007", "3:0@0 3:0@1 3:7@2")
	check(t, "0123", "3:0@0 3:123@1")
	check(t, "100", "3:100@0")
	check(t, "1-2", "3:1@0 3:-2@1")
	check(t, "0-2", "3:0@0 3:-2@1")
	check(t, "-1-2", "3:-1@0 3:-2@2")
	check(t, "12a", "3:12@0 1:a@2")
	check(t, "-12a", "3:-12@0 1:a@3")
	check(t, "12A", "3:12@0 2:A@2")
	check(t, "1e5", "3:1@0 1:e5@1")
	check(t, "0x1", "3:0@0 1:x1@1")
	check(t, "1.5", "3:1@0 4:.@1 3:5@2")
	check(t, "1.", "3:1@0 4:.@1")
	for _, text := range []string{"-", "-0", "-00", "-05", "-01", "- 1", "--1", "--", "-a", "-X", "-.", "-(", "1-", "1-0", "0-0", "a-0", "-0.", "-1-", "١", "1٣"} {
		checkErr(t, text, api.ErrSyntax)
	}
}

func TestScanOfLongNumbers(t *testing.T) {
	check(t, "1234567890123456", "3:1234567890123456@0")
	check(t, "9999999999999999", "3:9999999999999999@0")
	check(t, "1000000000000000", "3:1000000000000000@0")
	check(t, "-123456789012345", "3:-123456789012345@0")
	check(t, "123456789012345a", "3:123456789012345@0 1:a@15")
	check(t, "1234567890123456a", "3:1234567890123456@0 1:a@16")
	check(t, "1234567890123456-1", "3:1234567890123456@0 3:-1@16")
	check(t, "1234567890123456 7", "3:1234567890123456@0 3:7@17")
	check(t, "01234567890123456", "3:0@0 3:1234567890123456@1")
	for _, text := range []string{"12345678901234567", "10000000000000000", "-1234567890123456", "-12345678901234567", "012345678901234567", "12345678901234567a", strings.Repeat("9", 4000), "-" + strings.Repeat("9", 3999)} {
		checkErr(t, text, api.ErrSyntax)
	}
	words, err := Scan(strings.Repeat("0", api.MaxText))
	if len(words) != api.MaxText || err != api.OK {
		t.Errorf("P7.1: 4,000 noughts: %d words, %d", len(words), err)
	}
}

func TestScanOfEveryByteAlone(t *testing.T) {
	const small, great, digits, signs = "abcdefghijklmnopqrstuvwxyz", "ABCDEFGHIJKLMNOPQRSTUVWXYZ", "0123456789", "(),.!=<"
	for b := range 256 {
		c, text := byte(b), string([]byte{byte(b)})
		switch {
		case strings.IndexByte(" \t\n\r%", c) >= 0:
			check(t, text, "")
		case strings.IndexByte(small, c) >= 0:
			check(t, text, "1:"+text+"@0")
		case strings.IndexByte(great, c) >= 0:
			check(t, text, "2:"+text+"@0")
		case strings.IndexByte(digits, c) >= 0:
			check(t, text, "3:"+text+"@0")
		case strings.IndexByte(signs, c) >= 0:
			check(t, text, "4:"+text+"@0")
		default:
			checkErr(t, text, api.ErrSyntax)
		}
	}
}

func TestScanOfAFaultBehindGoodWords(t *testing.T) {
	good := "p(X, 1) :- q(X). "
	for _, fault := range []string{"?", "_", "-", "-0", ":", "\x00", "\xff", "é", strings.Repeat("a", 17), strings.Repeat("X", 17), strings.Repeat("1", 17)} {
		checkErr(t, good+fault, api.ErrSyntax)
		checkErr(t, fault+" "+good, api.ErrSyntax)
		checkErr(t, good+fault+" "+good, api.ErrSyntax)
		checkErr(t, good+"% "+fault+"\n"+good+fault, api.ErrSyntax)
	}
}

func TestScanOfLongTexts(t *testing.T) {
	for _, unit := range []string{" ", "a ", "X ", "1 ", "(", "%", "%\n", "<="} {
		text := strings.Repeat(unit, api.MaxText/len(unit))
		if _, err := Scan(text); err != api.OK || len(text) != 4000 {
			t.Errorf("P7.1: %q, to 4,000 bytes: %d", unit, err)
		}
		checkErr(t, text+" ", api.ErrLimit)
		checkErr(t, text+"?", api.ErrLimit)
		checkErr(t, "?"+text, api.ErrLimit)
		checkErr(t, text+text, api.ErrLimit)
	}
	check(t, strings.Repeat(" ", 3999)+"a", "1:a@3999")
	check(t, strings.Repeat("\n", 3984)+"abcdefghijklmnop", "1:abcdefghijklmnop@3984")
	check(t, strings.Repeat("\n", 3998)+":-", "4::-@3998")
	check(t, "a"+strings.Repeat("%", 3997)+"\nb", "1:a@0 1:b@3999")
	checkErr(t, strings.Repeat(" ", 3999)+"?", api.ErrSyntax)
	checkErr(t, "?"+strings.Repeat(" ", 3999), api.ErrSyntax)
	checkErr(t, strings.Repeat(" ", 3999)+":", api.ErrSyntax)
	checkErr(t, strings.Repeat(" ", 3999)+":-", api.ErrLimit)
	checkErr(t, strings.Repeat("a", 1<<20), api.ErrLimit)
	checkErr(t, strings.Repeat("\xff", 4001), api.ErrLimit)
}

func TestScanTellsWhereEachWordBegins(t *testing.T) {
	r := rand.New(rand.NewSource(1))
	parts := []string{"abc", "X1", "-12", "0", "(", ")", ",", ".", ":-", "!", "=", "!=", "<", "<="}
	gaps := []string{" ", "\t", "\n", "\r\n", " % gap\n", "%\n", "  "}
	for range 300 {
		var text strings.Builder
		var want []Word
		for range 1 + r.Intn(60) {
			text.WriteString(gaps[r.Intn(len(gaps))])
			part := parts[r.Intn(len(parts))]
			want = append(want, Word{Kind: kindOf(part), Text: part, At: text.Len()})
			text.WriteString(part)
		}
		words, err := Scan(text.String())
		if !slices.Equal(words, want) || err != api.OK {
			t.Fatalf("P7.1: Scan(%q): %s, %d; want %s", text.String(), tell(words), err, tell(want))
		}
	}
}

func kindOf(part string) int {
	switch c := part[0]; {
	case c >= 'a' && c <= 'z':
		return 1
	case c >= 'A' && c <= 'Z':
		return 2
	case c == '-' || c >= '0' && c <= '9':
		return 3
	}
	return 4
}

// The chapter's words, as patterns; where two begin at one byte, the longer one is tried first.
var patterns = []*regexp.Regexp{
	regexp.MustCompile(`^(?:[ \t\n\r]|%[^\n]*)`),
	regexp.MustCompile(`^[a-z][a-z0-9_]*`),
	regexp.MustCompile(`^[A-Z][a-zA-Z0-9_]*`),
	regexp.MustCompile(`^(?:0|-?[1-9][0-9]*)`),
	regexp.MustCompile(`^(?:[(),.=]|:-|!=?|<=?)`),
}

func scanByPatterns(text string) (words []Word, err api.Errno) {
next:
	for at := 0; at < len(text); {
		for kind, p := range patterns {
			size := len(p.FindString(text[at:]))
			if size == 0 {
				continue
			}
			if kind > 0 {
				words = append(words, Word{kind, text[at : at+size], at})
				if size > 16 {
					return nil, api.ErrSyntax
				}
			}
			at += size
			continue next
		}
		return nil, api.ErrSyntax
	}
	return words, api.OK
}

func checkByPatterns(t *testing.T, text string) {
	t.Helper()
	words, err := Scan(text)
	want, wantErr := scanByPatterns(text)
	if !slices.Equal(words, want) || err != wantErr {
		t.Fatalf("P7.1: Scan(%q): %s, %d; want %s, %d", text, tell(words), err, tell(want), wantErr)
	}
}

func TestScanOfAllShortTexts(t *testing.T) {
	const letters = "aX_01-:!=<. %\n\r?"
	for size := range 5 {
		count := 1
		for range size {
			count *= len(letters)
		}
		text := make([]byte, size)
		for n := range count {
			for i := range text {
				text[i] = letters[n%len(letters)]
				n /= len(letters)
			}
			checkByPatterns(t, string(text))
		}
	}
}

func TestScanOfManyTexts(t *testing.T) {
	r := rand.New(rand.NewSource(2))
	parts := []string{"a", "b1", "z_", "X", "Yz", "_", "0", "1", "-", "12", ":-", ":", "!", "=", "<", "(", ")", ",", ".", " ", "\t", "\n", "\r", "%", "aaaaaaaa", "X9999999", "11111111"}
	for range 20000 {
		var text strings.Builder
		for range r.Intn(20) {
			text.WriteString(parts[r.Intn(len(parts))])
		}
		checkByPatterns(t, text.String())
	}
	for range 5000 {
		text := make([]byte, r.Intn(6))
		r.Read(text)
		checkByPatterns(t, string(text))
	}
}

func TestScanAnswersNewMemory(t *testing.T) {
	text := "p(X) :- q(X, -12)."
	first, _ := Scan(text)
	whole := tell(first)
	for i := range first[:cap(first)] {
		first[:cap(first)][i] = Word{9, "?", -1}
	}
	second, err := Scan(text)
	if got := tell(second); got != whole || err != api.OK {
		t.Errorf("P0.3: a second Scan: %s, %d; want %s", got, err, whole)
	}
	begin, end := uintptr(unsafe.Pointer(unsafe.StringData(text))), uintptr(len(text))
	for _, w := range second {
		if at := uintptr(unsafe.Pointer(unsafe.StringData(w.Text))); at >= begin && at < begin+end {
			t.Errorf("P0.3: the word %s is a piece of the text", w.Text)
		}
	}
}
