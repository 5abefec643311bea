package plan

import (
	"strings"

	"delphi/api"
)

// walk takes a body's literals one behind the other, and keeps those that wait current with what is bound.
type walk struct {
	body   []api.Literal
	queue  queue
	stands map[string][]int // where each variable that is not bound yet stands: a literal's place, once for each term there
	plan   Plan
}

func start(body []api.Literal) *walk {
	w := &walk{body: body, stands: make(map[string][]int)}
	for place, l := range body {
		w.queue.add(waiterOf(l))
		for _, t := range l.Args {
			if t.Kind == api.TVar {
				w.stands[t.Name] = append(w.stands[t.Name], place)
			}
		}
	}
	return w
}

// take lays the literal behind those of the plan. An atom alone binds: all other literals ask what is bound already.
func (w *walk) take(place int) {
	w.plan.Order = append(w.plan.Order, place)
	l := w.body[place]
	if l.Kind != api.LAtom {
		return
	}
	for _, t := range l.Args {
		if t.Kind == api.TVar {
			w.bind(t.Name)
		}
	}
}

// bind tells the literals that wait that the variable is bound, the first time that it is.
func (w *walk) bind(name string) {
	places, free := w.stands[name]
	if !free {
		return
	}
	delete(w.stands, name)
	w.plan.Vars = append(w.plan.Vars, strings.Clone(name))
	for _, place := range places {
		w.queue.bindTerm(place)
	}
}
