package model

import (
	"slices"

	"delphi/api"
	"delphi/check"
	"delphi/lex"
	"delphi/strata"
	"delphi/value"
)

// variable is lex's Kind of one.
const variable = 2

// examine gives the rules' strata, or the first error by which there is no model, but for its being too great.
func examine(rules []api.Rule, facts []api.Fact) ([][]string, api.Errno) {
	if !withinLimits(rules, facts) {
		return nil, api.ErrLimit
	}
	if !all(rules, check.Safe) {
		return nil, api.ErrUnsafe
	}
	if _, err := check.Arities(rules, facts); err != api.OK {
		return nil, err
	}
	isBase := func(f api.Fact) bool { return !check.Defined(rules, f.Name) }
	if !all(facts, isBase) {
		return nil, api.ErrBase
	}
	return strata.Order(rules)
}

func all[T any](list []T, good func(T) bool) bool {
	return !slices.ContainsFunc(list, func(x T) bool { return !good(x) })
}

// withinLimits counts ahead of all else, so that nobody goes through lists that are too long.
func withinLimits(rules []api.Rule, facts []api.Fact) bool {
	return len(rules) <= api.MaxRules && len(facts) <= api.MaxBase && all(rules, mayRule) && all(facts, mayFact)
}

func mayRule(r api.Rule) bool {
	return len(r.Body) <= api.MaxBody && r.Head.Kind == api.LAtom && mayLiteral(r.Head) && all(r.Body, mayLiteral)
}

func mayLiteral(l api.Literal) bool {
	switch l.Kind {
	case api.LAtom, api.LNot:
		return mayPredicate(l.Name, l.Args) && all(l.Args, mayTerm)
	case api.LEq, api.LNe, api.LLt, api.LLe:
		return l.Name == "" && len(l.Args) == 2 && all(l.Args, mayTerm)
	}
	return false
}

func mayFact(f api.Fact) bool {
	return mayPredicate(f.Name, f.Args) && all(f.Args, value.May)
}

// mayPredicate asks for a name that is a word, as constants may be.
func mayPredicate(name string, args []api.Term) bool {
	return len(args) <= api.MaxArity && value.May(api.Term{Kind: api.TWord, Name: name})
}

func mayTerm(t api.Term) bool {
	if t.Kind != api.TVar {
		return value.May(t)
	}
	words, err := lex.Scan(t.Name)
	return t.Num == 0 && err == api.OK && len(words) == 1 && words[0] == lex.Word{Kind: variable, Text: t.Name}
}
