package machine

import (
	"delphi/api"
	"delphi/book"
	"delphi/incr"
	"delphi/syntax"
	"delphi/value"
)

// Of gives the machine that has a program's rules, base facts, and clients' lasts (the client c's at c - 1), as commands
// may have left it. Nil, ErrForm: the rules and facts are none that a machine has, or one of the lasts by itself is none,
// or all of them have too few commands for so many facts. Whether a reply's rows ever were a model's is not asked.
func Of(program string, base []api.Fact, lasts [api.MaxClient]Answered) (*Machine, api.Errno) {
	rules, err := syntax.Program(program)
	if err != api.OK {
		return nil, api.ErrForm
	}
	live, err := incr.New(rules, base)
	if err != api.OK {
		return nil, api.ErrForm
	}
	m := &Machine{live: *live}
	for i, l := range lasts {
		if !mayBeLast(l) {
			return nil, api.ErrForm
		}
		m.lasts[i] = Answered{Seq: l.Seq, Reply: copyOf(l.Reply)}
	}
	if m.leastChanges() > m.mostChanges() {
		return nil, api.ErrForm
	}
	return m, api.OK
}

// leastChanges counts the commands that it took at least to come to the rules and the base facts.
func (m *Machine) leastChanges() int64 {
	n := int64(len(m.Base()))
	if len(m.Rules()) > 0 {
		n++
	}
	return n
}

// mostChanges counts the commands that may have changed something: each that was done, but for a client's last if its reply says otherwise.
func (m *Machine) mostChanges() int64 {
	var n int64
	for _, l := range m.lasts {
		n += l.Seq
		if l.Seq > 0 && !l.Reply.Changed {
			n--
		}
	}
	return n
}

func mayBeLast(l Answered) bool {
	r := l.Reply
	switch {
	case l.Seq < 0 || l.Seq > api.MaxSeq:
		return false
	case l.Seq == 0:
		return r.Err == api.OK && !r.Changed && len(r.Rows) == 0
	case len(r.Rows) > 0:
		return r.Err == api.OK && !r.Changed && mayBeRows(r.Rows)
	case r.Changed:
		return r.Err == api.OK
	}
	return mayBeErr(r.Err)
}

// mayBeErr says whether a command that was done may have been answered that error, or none.
func mayBeErr(err api.Errno) bool {
	switch err {
	case api.OK, api.ErrFull, api.ErrSyntax, api.ErrUnsafe, api.ErrArity, api.ErrStrata, api.ErrLimit, api.ErrBase:
		return true
	}
	return false
}

// mayBeRows says whether a question may have been answered these rows: facts of one predicate, rising.
func mayBeRows(rows []string) bool {
	if len(rows) > api.MaxRows {
		return false
	}
	var ahead api.Fact
	for i, row := range rows {
		f, err := syntax.Fact(row)
		if err != api.OK || value.Fact(f) != row {
			return false
		}
		if i > 0 && !goesOn(ahead, f) {
			return false
		}
		ahead = f
	}
	return true
}

func goesOn(ahead, f api.Fact) bool {
	return f.Name == ahead.Name && len(f.Args) == len(ahead.Args) && book.Compare(ahead, f) < 0
}
