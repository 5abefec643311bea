package incr

import (
	"maps"

	"delphi/api"
	"delphi/book"
	"delphi/check"
	"delphi/growth"
	"delphi/relation"
	"delphi/strata"
	"delphi/value"
)

// upkeep leads from the rows ahead of a change to those behind it: these are its Rows. Its Size counts those of the base and of the strata that it came to, so that rows of higher strata, which may go yet, fill nothing up.
type upkeep struct {
	growth.Growth
	old  growth.Store // the rows ahead of the change
	gone growth.Store // those of old that are not among Rows any more
	came growth.Store // those of Rows that are not in old
}

// change lets the base change, and stratum by stratum what hangs on it, unless the rows would be too many.
func (l *Live) change(f api.Fact, first func(*upkeep, api.Fact)) (bool, api.Errno) {
	u := newUpkeep(l.facts)
	u.countBase(l.rules)
	first(u, f)
	// Rules that have no strata are not installed.
	order, _ := strata.Order(l.rules)
	for _, names := range order {
		s := stratum{names: names, rules: growth.RulesOf(l.rules, names)}
		work := u.workOn(s)
		work(u, s)
		if u.Full() {
			return false, api.ErrFull
		}
	}
	u.write(&l.facts)
	return true, api.OK
}

// newUpkeep numbers the constants anew: a table that lasted would keep those of all facts that ever came.
func newUpkeep(facts book.Book) *upkeep {
	u := &upkeep{old: make(growth.Store), gone: make(growth.Store), came: make(growth.Store)}
	u.Table = value.New()
	for _, f := range facts.All() {
		u.old.Add(f.Name, book.RowOf(f, u.Table))
	}
	u.Rows = maps.Clone(u.old)
	return u
}

func (u *upkeep) countBase(rules []api.Rule) {
	for name := range u.old {
		if !check.Defined(rules, name) {
			u.count(name)
		}
	}
}

// count lets the rows that a predicate has now count.
func (u *upkeep) count(name string) {
	u.Size += u.Rows.Set(name).Len()
}

func (u *upkeep) insert(f api.Fact) {
	row := book.RowOf(f, u.Table)
	u.part(f.Name)
	u.Add(f.Name, row)
	u.noteCame(f.Name, row)
}

func (u *upkeep) retract(f api.Fact) {
	u.part(f.Name)
	u.drop(f.Name, book.RowOf(f, u.Table))
}

// part lets a predicate's rows change without its old ones.
func (u *upkeep) part(name string) {
	if rows := u.old.Set(name); rows != nil {
		u.Rows[name] = rows.Copy()
	}
}

// noteCame says that a row came. If it had gone, all is as it was.
func (u *upkeep) noteCame(name string, r relation.Row) {
	if !u.gone.Remove(name, r) {
		u.came.Add(name, r)
	}
}

// drop lets a row go, and says whether it was there.
func (u *upkeep) drop(name string, r relation.Row) bool {
	wasThere := u.Remove(name, r)
	if wasThere {
		u.gone.Add(name, r)
	}
	return wasThere
}

// changed says whether the predicate has other rows than before.
func (u *upkeep) changed(name string) bool {
	return u.gone.Set(name).Len() > 0 || u.came.Set(name).Len() > 0
}

// write brings the facts up to date.
func (u *upkeep) write(facts *book.Book) {
	for name, rows := range u.Rows {
		if u.changed(name) {
			facts.Write(name, rows, u.Table)
		}
	}
}
