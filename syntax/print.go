package syntax

import (
	"strings"

	"delphi/api"
	"delphi/value"
)

// signs are the comparisons' signs, each with the kind of its literals.
var signs = [...]struct {
	text string
	kind int
}{
	{"=", api.LEq},
	{"!=", api.LNe},
	{"<", api.LLt},
	{"<=", api.LLe},
}

// kindOf gives the kind of the literals with that sign; 0: it is no comparison's.
func kindOf(sign string) int {
	for _, s := range signs {
		if s.text == sign {
			return s.kind
		}
	}
	return 0
}

// signOf gives the sign of that kind of literals; empty: they are no comparisons.
func signOf(kind int) string {
	for _, s := range signs {
		if s.kind == kind {
			return s.text
		}
	}
	return ""
}

// Print: see the chapter.
func Print(r api.Rule) string {
	head := literalText(r.Head)
	if len(r.Body) == 0 {
		return head + "."
	}
	body := make([]string, len(r.Body))
	for i, l := range r.Body {
		body[i] = literalText(l)
	}
	return head + " :- " + strings.Join(body, ", ") + "."
}

func literalText(l api.Literal) string {
	if sign := signOf(l.Kind); sign != "" {
		return termText(l.Args, 0) + " " + sign + " " + termText(l.Args, 1)
	}
	atom := value.Fact(api.Fact{Name: l.Name, Args: l.Args})
	if l.Kind == api.LNot {
		return "!" + atom
	}
	return atom
}

// termText gives the text of the term at that place; of one that is not there nothing, as a literal made elsewhere may lack it.
func termText(terms []api.Term, at int) string {
	if at >= len(terms) {
		return ""
	}
	return value.Print(terms[at])
}
