package search

import "sort"

// walk goes through a part's stages, each binding's followers ahead of the next binding: so it may end as soon as it has found enough. What waits stands in a list, for a body may have more stages than calls can be nested.
type walk struct {
	stages  []stage
	frames  []frame // frame i is of stage i
	settled int     // from this stage on the head's variables are all bound
	columns []int   // theirs, ahead of that stage
	wide    []int
	known   *memory // what was found
	found   bindings
}

// frame is a binding ahead of a stage, with what it may still be lengthened by.
type frame struct {
	binding []int
	tails   [][]int
}

// solve gives the head's variables among those of the literals at these places, in all ways in which the literals hold, or in so many of them.
func (b *body) solve(places []int, most int) bindings {
	w := b.walk(b.stages(places))
	w.enter(nil)
	for len(w.frames) > 0 && len(w.found.rows) < most {
		w.step()
	}
	return w.found
}

func (b *body) walk(stages []stage) *walk {
	w := &walk{stages: stages, known: newMemory()}
	w.found.vars = w.ahead(len(stages))
	// A variable of the head stays, once it is bound: so they become more from stage to stage.
	w.settled = sort.Search(len(stages), func(depth int) bool {
		return len(b.headColumns(w.ahead(depth))) == len(w.found.vars)
	})
	w.columns = b.headColumns(w.ahead(w.settled))
	return w
}

// ahead gives the variables that are bound ahead of a stage; of one behind the last: those that are left in the end.
func (w *walk) ahead(depth int) []string {
	if depth == 0 {
		return nil
	}
	return w.stages[depth-1].vars
}

// headColumns gives the columns of the variables that the head needs.
func (b *body) headColumns(vars []string) []int {
	var columns []int
	for column, name := range vars {
		if b.last[name] == len(b.literals) {
			columns = append(columns, column)
		}
	}
	return columns
}

// enter goes on with a binding, unless what it would lead to is found already.
func (w *walk) enter(binding []int) {
	depth := len(w.frames)
	if depth == w.settled && w.known.has(binding, w.columns) {
		return
	}
	w.frames = append(w.frames, frame{binding: binding, tails: w.stages[depth].atom.tails(binding)})
}

// step takes the next of the last frame's tails, or, if there is none, goes back.
func (w *walk) step() {
	depth := len(w.frames) - 1
	f := &w.frames[depth]
	if len(f.tails) == 0 {
		w.frames = w.frames[:depth]
		return
	}
	w.wide = append(append(w.wide[:0], f.binding...), f.tails[0]...)
	f.tails = f.tails[1:]
	s := &w.stages[depth]
	switch {
	case !s.passes(w.wide):
	case depth == len(w.stages)-1:
		w.take(s)
	case s.seen.add(w.wide, s.keep):
		w.enter(pick(w.wide, s.keep))
	}
}

// take lays what was found to the others. From the settled stage on one way is as good as many.
func (w *walk) take(s *stage) {
	if w.known.add(w.wide, s.keep) {
		w.found.rows = append(w.found.rows, pick(w.wide, s.keep))
	}
	w.frames = w.frames[:min(w.settled, len(w.frames))]
}
