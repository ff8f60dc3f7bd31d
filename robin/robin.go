// Package robin is what flow and share have in common: flows that are visited in turn, and given by their weights, whatever it is that waits in them (see shared/doc/15-flow.md).
package robin

import (
	"billet/api"
)

// maxDeficit is the most that a flow may enter with: what may be left over of a visit, and what the next one gives.
const maxDeficit = api.MaxCost + api.MaxCost*api.MaxWeight

// Source is what waits in a flow, in an order of its own; no item costs more than api.MaxCost. Head may change a source that has visits of its own, so it is asked of the flow that is visited alone.
type Source interface {
	Head() (api.Item, bool)
	Pop() (api.Item, bool)
	Len() int
}

// Flow is a source in which something waits, and how much of that may be taken. Nobody but its ring changes its fields.
type Flow struct {
	Source
	No, Weight, Deficit int
	ahead, behind       *Flow
}

// Ring has flows, linked in a circle: ahead of the first one, which is visited, stands the one that is behind all others.
type Ring struct {
	quantum int
	first   *Flow
	given   bool          // whether the first one has its quantum of this visit
	at      map[int]*Flow // by numbers
}

// New tells a ring without flows.
func New(quantum int) *Ring {
	if quantum < 1 || quantum > api.MaxCost {
		return nil
	}
	return &Ring{quantum: quantum, at: map[int]*Flow{}}
}

// May tells whether the flow of that number may have that weight.
func (r *Ring) May(no, weight int) bool {
	f := r.Find(no)
	return no >= 0 && weight >= 1 && weight <= api.MaxWeight && (f == nil || f.Weight == weight)
}

// Enter lets a flow stand behind all others, and tells whether it may.
func (r *Ring) Enter(no, weight, deficit int, s Source) bool {
	if r.Find(no) != nil || !r.May(no, weight) || deficit < 0 || deficit > maxDeficit || s.Len() == 0 {
		return false
	}
	f := &Flow{Source: s, No: no, Weight: weight, Deficit: deficit}
	r.stand(f)
	r.at[no] = f
	return true
}

// stand links f behind all others: ahead of the first one, as they stand in a circle.
func (r *Ring) stand(f *Flow) {
	if r.first == nil {
		r.first, f.ahead, f.behind = f, f, f
		return
	}
	f.ahead, f.behind = r.first.ahead, r.first
	f.ahead.behind, f.behind.ahead = f, f
}

// Resume lets the visit go on as given, or not yet, and tells whether it may.
func (r *Ring) Resume(given bool) bool {
	if given && r.first == nil {
		return false
	}
	r.given = given
	return true
}

// Pick tells the flow whose first item is next, and that item; nil without flows. It comes to an end, as each visit gives something and no item's cost is without bound.
func (r *Ring) Pick() (*Flow, api.Item) {
	for r.first != nil {
		f := r.first
		if !r.given {
			f.Deficit += r.quantum * f.Weight
			r.given = true
		}
		if x, _ := f.Head(); x.Cost <= f.Deficit {
			return f, x
		}
		r.goOn()
	}
	return nil, api.Item{}
}

// Take tells what Pick tells, and takes the item out.
func (r *Ring) Take() (*Flow, api.Item) {
	f, x := r.Pick()
	if f != nil {
		f.Pop()
		f.Deficit -= x.Cost
		r.Prune(f)
	}
	return f, x
}

// Prune lets f go, if nothing waits in it any more.
func (r *Ring) Prune(f *Flow) {
	if f.Len() > 0 {
		return
	}
	delete(r.at, f.No)
	if f == r.first {
		r.goOn()
	}
	if f == r.first { // there is no other one
		r.first = nil
	}
	f.ahead.behind, f.behind.ahead = f.behind, f.ahead
}

// goOn lets the next flow be visited: the one that was stands behind all others by that.
func (r *Ring) goOn() {
	r.first, r.given = r.first.behind, false
}

// Find tells the flow of that number; nil, if there is none.
func (r *Ring) Find(no int) *Flow {
	return r.at[no]
}

// All tells the flows, the one that is visited first.
func (r *Ring) All() []*Flow {
	out := make([]*Flow, 0, len(r.at))
	f := r.first
	for range len(r.at) {
		out = append(out, f)
		f = f.behind
	}
	return out
}

// Given tells whether the first flow has its quantum of this visit.
func (r *Ring) Given() bool {
	return r.given
}
