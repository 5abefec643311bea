package incr

import (
	"slices"
	"strings"

	"delphi/api"
)

// copiesOf gives the rules in memory of their own. Texts are copied too: one may be a piece of a long text, which must not be held for its sake.
func copiesOf(rules []api.Rule) []api.Rule {
	copies := slices.Clone(rules)
	for i, r := range copies {
		copies[i].Head = copyOf(r.Head)
		copies[i].Body = slices.Clone(r.Body)
		for k, b := range r.Body {
			copies[i].Body[k] = copyOf(b)
		}
	}
	return copies
}

func copyOf(l api.Literal) api.Literal {
	args := slices.Clone(l.Args)
	for i, t := range args {
		args[i].Name = strings.Clone(t.Name)
	}
	return api.Literal{Kind: l.Kind, Name: strings.Clone(l.Name), Args: args}
}
