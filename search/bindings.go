package search

// bindings are numbers for variables: rows with a column for each of them, each row once.
type bindings struct {
	vars []string
	rows [][]int
}

// memory holds the rows that were there. Without it a body in which many ways lead to one row would be gone through in each of them.
type memory struct {
	seen map[string]struct{}
	key  []byte
}

func newMemory() *memory { return &memory{seen: make(map[string]struct{})} }

// add takes the columns of a row, and says whether they are new. No memory takes everything for new.
func (m *memory) add(row, columns []int) bool {
	if m == nil {
		return true
	}
	if m.has(row, columns) {
		return false
	}
	m.seen[string(m.key)] = struct{}{}
	return true
}

// has leaves what it looked for in key.
func (m *memory) has(row, columns []int) bool {
	m.key = m.key[:0]
	for _, c := range columns {
		m.key = appendNumber(m.key, row[c])
	}
	_, ok := m.seen[string(m.key)]
	return ok
}

// appendNumber writes all of a number's bytes, so that no two lists of equal length are written alike.
func appendNumber(key []byte, n int) []byte {
	for shift := 0; shift < 64; shift += 8 {
		key = append(key, byte(n>>shift))
	}
	return key
}
