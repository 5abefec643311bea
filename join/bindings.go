package join

// bindings are numbers for variables: rows with a column for each of them, each row once.
type bindings struct {
	vars []string
	rows [][]int
}

// gatherer takes rows into bindings that are new there. Without it the rows of a body in which many ways lead to one row would be too many.
type gatherer struct {
	found bindings
	seen  map[string]struct{}
	key   []byte
}

func newGatherer(vars []string) *gatherer {
	return &gatherer{found: bindings{vars: vars}, seen: make(map[string]struct{})}
}

// add takes the columns of a row.
func (g *gatherer) add(row, columns []int) {
	g.key = g.key[:0]
	for _, c := range columns {
		g.key = appendNumber(g.key, row[c])
	}
	if _, ok := g.seen[string(g.key)]; ok {
		return
	}
	g.seen[string(g.key)] = struct{}{}
	g.found.rows = append(g.found.rows, pick(row, columns))
}

// appendNumber writes all of a number's bytes, so that no two lists of equal length are written alike.
func appendNumber(key []byte, n int) []byte {
	for shift := 0; shift < 64; shift += 8 {
		key = append(key, byte(n>>shift))
	}
	return key
}
