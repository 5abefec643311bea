package strata

// unknown is the stratum of a predicate whose circle is not closed yet.
const unknown = -1

// place is a predicate on the walk's path, and which of its needs is the next.
type place struct {
	id   int
	next int
}

// walk goes through a graph in depth, once over each need, and closes its circles (predicates that need one another, or one alone) each behind those that it needs: Tarjan's way. It keeps its path itself: a chain of needs may be longer than a stack of calls is deep.
type walk struct {
	needs  [][]need
	path   []place
	open   []int // those that were met and have no stratum yet, in the order in which they were met
	count  int
	met    []int // its number in the order of meeting, from 1 on; 0: not yet met
	low    []int // the earliest met one of its circle that is known
	strata []int
}

// strata gives the least stratum of each predicate; false: there is a negation within a circle.
func (g graph) strata() ([]int, bool) {
	n := len(g.needs)
	w := walk{needs: g.needs, met: make([]int, n), low: make([]int, n), strata: make([]int, n)}
	for id := range w.strata {
		w.strata[id] = unknown
	}
	for id := range w.strata {
		if w.met[id] == 0 && !w.from(id) {
			return nil, false
		}
	}
	return w.strata, true
}

// from goes through all that the predicate leads to.
func (w *walk) from(id int) bool {
	w.enter(id)
	for len(w.path) > 0 {
		top := &w.path[len(w.path)-1]
		if top.next < len(w.needs[top.id]) {
			top.next++
			w.look(top.id, w.needs[top.id][top.next-1].on)
		} else if !w.leave() {
			return false
		}
	}
	return true
}

func (w *walk) enter(id int) {
	w.count++
	w.met[id], w.low[id] = w.count, w.count
	w.open = append(w.open, id)
	w.path = append(w.path, place{id: id})
}

// look goes on to what is needed, if it is new; if it is open, it leads back to the one that needs it.
func (w *walk) look(id, on int) {
	if w.met[on] == 0 {
		w.enter(on)
	} else if w.strata[on] == unknown {
		w.low[id] = min(w.low[id], w.met[on])
	}
}

// leave goes one back on the path; a predicate that leads to none ahead of it is its circle's first.
func (w *walk) leave() bool {
	id := w.path[len(w.path)-1].id
	w.path = w.path[:len(w.path)-1]
	if len(w.path) > 0 {
		back := w.path[len(w.path)-1].id
		w.low[back] = min(w.low[back], w.low[id])
	}
	return w.low[id] < w.met[id] || w.settle(id)
}

// settle gives the circle that begins with the predicate its stratum; all that stand open behind it are of that circle.
func (w *walk) settle(first int) bool {
	begin := len(w.open) - 1
	for w.open[begin] != first {
		begin--
	}
	circle := w.open[begin:]
	w.open = w.open[:begin]
	stratum, ok := w.least(circle)
	if !ok {
		return false
	}
	for _, id := range circle {
		w.strata[id] = stratum
	}
	return true
}

// least gives the stratum that the needs of the circle's predicates ask for. What has none yet is of the circle itself: plain it asks for nothing more (unknown is below all strata); negated it would have to be below itself.
func (w *walk) least(circle []int) (int, bool) {
	stratum := 0
	for _, id := range circle {
		for _, n := range w.needs[id] {
			asked := w.strata[n.on]
			if n.negated && asked == unknown {
				return 0, false
			}
			if n.negated {
				asked++
			}
			stratum = max(stratum, asked)
		}
	}
	return stratum, true
}
