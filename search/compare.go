package search

import (
	"delphi/api"
	"delphi/value"
)

// IsComparison says whether the literal is a comparison of two terms.
func IsComparison(l api.Literal) bool {
	switch l.Kind {
	case api.LEq, api.LNe, api.LLt, api.LLe:
		return len(l.Args) == 2
	}
	return false
}

// Compare says whether a comparison of that kind holds between two constants.
func Compare(kind int, a, b api.Term) bool {
	switch kind {
	case api.LEq:
		return value.Eq(a, b)
	case api.LNe:
		return !value.Eq(a, b)
	case api.LLt:
		return value.Less(a, b)
	case api.LLe:
		return !value.Less(b, a)
	}
	return false
}
