package search

import (
	"delphi/api"
	"delphi/relation"
	"delphi/value"
)

// field is where a number of the head's rows comes from: a part's column, or, with no part, a constant.
type field struct {
	part     int
	column   int
	constant int
}

// headRows gives the head's rows, at most so many: every binding of a part with every one of the others. As the parts bind the head's variables and no others, no row comes twice.
func headRows(head api.Literal, t *value.Table, parts []bindings, most int) []relation.Row {
	fields := fieldsOf(head, t, parts)
	var rows []relation.Row
	at := make([]int, len(parts))
	for more := true; more && len(rows) < most; more = advance(at, parts) {
		rows = append(rows, rowOf(fields, parts, at))
	}
	return rows
}

func fieldsOf(head api.Literal, t *value.Table, parts []bindings) []field {
	where := make(map[string]field)
	for i, b := range parts {
		for column, name := range b.vars {
			where[name] = field{part: i, column: column}
		}
	}
	fields := make([]field, len(head.Args))
	for i, term := range head.Args {
		if term.Kind == api.TVar {
			fields[i] = where[term.Name]
		} else {
			fields[i] = field{part: None, constant: t.Id(term)}
		}
	}
	return fields
}

func rowOf(fields []field, parts []bindings, at []int) relation.Row {
	row := make(relation.Row, len(fields))
	for i, f := range fields {
		if f.part == None {
			row[i] = f.constant
		} else {
			row[i] = parts[f.part].rows[at[f.part]][f.column]
		}
	}
	return row
}

// advance goes on to the next choice of one binding of each part; false: that was the last.
func advance(at []int, parts []bindings) bool {
	for i := range at {
		at[i]++
		if at[i] < len(parts[i].rows) {
			return true
		}
		at[i] = 0
	}
	return false
}
