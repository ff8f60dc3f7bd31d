package robin

import (
	"math"
	"slices"
	"testing"

	"billet/api"
)

// pile is a source of which the item that came last is first. It counts how often it was asked for that.
type pile struct {
	items []api.Item
	asked int
}

func (s *pile) Head() (api.Item, bool) {
	s.asked++
	if len(s.items) == 0 {
		return api.Item{}, false
	}
	return s.items[len(s.items)-1], true
}

func (s *pile) Pop() (api.Item, bool) {
	x, ok := s.Head()
	if ok {
		s.items = s.items[:len(s.items)-1]
	}
	return x, ok
}

func (s *pile) Len() int { return len(s.items) }

// within is a source that is a ring of its own.
type within struct{ *Ring }

func (s within) Head() (api.Item, bool) {
	f, x := s.Pick()
	return x, f != nil
}

func (s within) Pop() (api.Item, bool) {
	f, x := s.Take()
	return x, f != nil
}

func (s within) Len() int { return len(s.All()) }

// piled tells a pile of items of those costs, of the IDs 1, 2, and so on.
func piled(costs ...int) *pile {
	s := &pile{}
	for i, cost := range costs {
		s.items = append(s.items, api.Item{ID: i + 1, Cost: cost})
	}
	return s
}

// check holds r's flows, in order, and whether the first one was given, against those.
func check(t *testing.T, r *Ring, given bool, flows ...int) {
	t.Helper()
	var got []int
	for _, f := range r.All() {
		if r.Find(f.No) != f {
			t.Fatal("Find", f.No)
		}
		got = append(got, f.No)
	}
	if !slices.Equal(got, flows) || r.Given() != given {
		t.Fatalf("flows %v, given %v; not %v, %v", got, r.Given(), flows, given)
	}
}

// P15.1: which quanta, flows, weights and deficits there may be.
func TestMay(t *testing.T) {
	for _, quantum := range []int{math.MinInt, -1, 0, 65, math.MaxInt} {
		if New(quantum) != nil {
			t.Error("quantum", quantum)
		}
	}
	for _, quantum := range []int{1, 2, 64} {
		r := New(quantum)
		check(t, r, false)
		if f, x := r.Pick(); f != nil || x != (api.Item{}) || r.Resume(true) || !r.Resume(false) {
			t.Error("Pick", f, x)
		}
		r.Enter(3, 2, 0, piled(1))
		for _, x := range []struct {
			no, weight int
			want       bool
		}{{0, 1, true}, {math.MaxInt, 16, true}, {3, 2, true}, {3, 1, false}, {3, 3, false}, {3, 0, false}, {4, 0, false}, {4, -1, false}, {4, 17, false}, {-1, 1, false}, {math.MinInt, 1, false}} {
			if r.May(x.no, x.weight) != x.want {
				t.Error("May", x)
			}
			if ok := r.Enter(x.no, x.weight, 0, piled(1)); ok != (x.want && x.no != 3) {
				t.Error("Enter", x, ok)
			}
		}
		check(t, r, false, 3, 0, math.MaxInt)
		for i, deficit := range []int{0, 1, 1088, 1089, -1, math.MinInt, math.MaxInt} {
			if ok := r.Enter(10+i, 1, deficit, piled(1)); ok != (i < 3) {
				t.Error("deficit", deficit, ok)
			}
			if f := r.Find(10 + i); f != nil && f.Deficit != deficit {
				t.Error("deficit", deficit, "is", f.Deficit)
			}
		}
		if r.Enter(20, 1, 0, piled()) || r.Find(20) != nil {
			t.Error("a flow in which nothing waits")
		}
		check(t, r, false, 3, 0, math.MaxInt, 10, 11, 12)
	}
}

// P15.2: items come in the source's own order, and none but the flow that is visited is asked for its first one.
func TestSource(t *testing.T) {
	r, a, b := New(2), piled(1, 4, 2), piled(2, 3)
	r.Enter(7, 2, 0, a)
	r.Enter(5, 1, 0, b)
	take := func(flow, id, deficit int) {
		t.Helper()
		if f, x := r.Take(); f == nil || f.No != flow || x.ID != id || f.Deficit != deficit {
			t.Fatalf("%+v, %v", f, x)
		}
	}
	take(7, 3, 2)
	check(t, r, true, 7, 5)
	if b.asked != 0 {
		t.Error("asked of who is not visited")
	}
	take(7, 2, 2) // 2 does not do for 4, nor 2 for 3; then 2 + 4
	check(t, r, true, 7, 5)
	if b.asked != 1 {
		t.Error("asked", b.asked)
	}
	take(7, 1, 1)
	check(t, r, false, 5)
	take(5, 2, 1)
	take(5, 1, 1) // 1 does not do for 2: once around, 1 + 2
	check(t, r, false)
	if f, x := r.Take(); f != nil || x != (api.Item{}) {
		t.Fatalf("%+v, %v of none", f, x)
	}
	r.Enter(5, 3, 0, piled(6))
	check(t, r, false, 5)
	take(5, 1, 0) // with nothing of before
	check(t, r, false)
}

// P15.2: Prune lets none go but in which nothing waits; of who is visited, the next one is.
func TestPrune(t *testing.T) {
	for _, given := range []bool{false, true} {
		for i, want := range [][]int{{1, 2}, {0, 2}, {0, 1}} {
			r := New(1)
			for no := range 3 {
				r.Enter(no, 1, 0, piled(1))
			}
			r.Resume(given)
			f := r.Find(i)
			r.Prune(f)
			check(t, r, given, 0, 1, 2)
			f.Pop()
			r.Prune(f)
			check(t, r, given && i > 0, want...)
			r.Enter(i, 2, 3, piled(1))
			check(t, r, given && i > 0, append(want, i)...)
		}
	}
}

// P15.2: a ring may be what waits in a flow: of three flows, of which two are one's own, four items of six are that one's if its weight is twice the other one's.
func TestWithin(t *testing.T) {
	inner, outer := New(1), New(1)
	inner.Enter(1, 1, 0, piled(1, 1, 1, 1))
	inner.Enter(2, 1, 0, piled(1, 1, 1, 1))
	outer.Enter(8, 2, 0, within{inner})
	outer.Enter(9, 1, 0, piled(1, 1, 1, 1))
	for i, want := range []int{8, 8, 9, 8, 8, 9, 8, 8, 9, 8, 8, 9} {
		f, x := outer.Take()
		if f == nil || f.No != want || x.Cost != 1 {
			t.Fatal(i, f, x)
		}
		if i == 4 && (inner.Find(1).Len() != 2 || inner.Find(2).Len() != 2) {
			t.Fatal("not in turn within")
		}
	}
	check(t, outer, false)
	check(t, inner, false)
}
