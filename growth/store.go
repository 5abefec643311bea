package growth

import "delphi/relation"

// Store holds the rows of predicates; one that never had any has no set.
type Store map[string]*relation.Set

// Set gives the rows of a predicate.
func (s Store) Set(name string) *relation.Set { return s[name] }

// Add says whether the row is new.
func (s Store) Add(name string, r relation.Row) bool {
	if s[name] == nil {
		s[name] = relation.New(len(r))
	}
	return s[name].Add(r)
}

// Remove says whether the row was there.
func (s Store) Remove(name string, r relation.Row) bool {
	return s[name].Remove(r)
}
