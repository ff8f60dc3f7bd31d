package fifo

import (
	"math"
	"math/rand"
	"slices"
	"testing"

	"billet/api"
)

// plain is a queue without a chain or a map: its items in a row.
type plain []api.Item

func (p plain) place(id int) int {
	return slices.IndexFunc(p, func(x api.Item) bool { return x.ID == id })
}

func (p *plain) push(x api.Item) api.Errno {
	switch {
	case x.ID <= 0 || x.Cost <= 0 || x.Cost >= 65:
		return api.ErrArg
	case p.place(x.ID) >= 0:
		return api.ErrThere
	}
	*p = append(*p, x)
	return api.OK
}

func (p plain) head() (api.Item, bool) {
	if len(p) == 0 {
		return api.Item{}, false
	}
	return p[0], true
}

func (p *plain) pop() (api.Item, bool) {
	x, ok := p.head()
	if ok {
		*p = (*p)[1:]
	}
	return x, ok
}

func (p *plain) drop(id int) (api.Item, bool) {
	i := p.place(id)
	if i < 0 {
		return api.Item{}, false
	}
	x := (*p)[i]
	*p = slices.Delete(slices.Clone(*p), i, i+1)
	return x, true
}

func (p plain) cost() int {
	sum := 0
	for _, x := range p {
		sum += x.Cost
	}
	return sum
}

// strange are IDs that no item has, or just the greatest.
var strange = []int{0, -1, -5, math.MinInt, math.MaxInt - 1}

// check holds all that q tells of itself against p, of those IDs and of p's own.
func check(t *testing.T, q *Queue, p plain, ids ...int) {
	t.Helper()
	if l := q.All(); !slices.Equal(l, p) {
		t.Fatalf("All %v, not %v", l, p)
	}
	if q.Len() != len(p) || q.Cost() != p.cost() {
		t.Fatalf("Len %d, Cost %d; not %d, %d", q.Len(), q.Cost(), len(p), p.cost())
	}
	x, ok := q.Head()
	if want, there := p.head(); x != want || ok != there {
		t.Fatalf("Head %v %v, not %v %v", x, ok, want, there)
	}
	for _, x := range p {
		ids = append(ids, x.ID)
	}
	for _, id := range append(ids, strange...) {
		if has := q.Has(id); has != (p.place(id) >= 0) {
			t.Fatalf("Has %d: %v", id, has)
		}
	}
}

// made tells a queue and a plain one of those items.
func made(t *testing.T, l ...api.Item) (*Queue, plain) {
	t.Helper()
	q := New()
	for _, x := range l {
		if e := q.Push(x); e != api.OK {
			t.Fatalf("Push %v: %d", x, e)
		}
	}
	return q, slices.Clone(l)
}

// P14.1: a new queue has nothing, and each New is a queue of its own.
func TestNew(t *testing.T) {
	q, other := New(), New()
	check(t, q, nil, 1, 2)
	q.Push(api.Item{ID: 1, Cost: 5})
	check(t, q, plain{{ID: 1, Cost: 5}}, 2)
	check(t, other, nil, 1, 2)
}

// P14.1: what may be pushed, and what may not; what may not changes nothing.
func TestPush(t *testing.T) {
	rows := []struct {
		x    api.Item
		want api.Errno
	}{
		{api.Item{ID: 1, Cost: 1}, api.OK},
		{api.Item{ID: 1, Cost: 64}, api.OK},
		{api.Item{ID: 2, Cost: 63}, api.OK},
		{api.Item{ID: math.MaxInt, Cost: 2}, api.OK},
		{api.Item{ID: math.MaxInt32 + 1, Cost: 2}, api.OK},
		{api.Item{ID: 7, Cost: 8}, api.ErrThere},
		{api.Item{ID: 7, Cost: 9}, api.ErrThere},
		{api.Item{ID: 5, Cost: 64}, api.ErrThere},
		{api.Item{ID: 7, Cost: 0}, api.ErrArg},
		{api.Item{ID: 7, Cost: 65}, api.ErrArg},
		{api.Item{ID: 7, Cost: -1}, api.ErrArg},
		{api.Item{}, api.ErrArg},
		{api.Item{ID: 0, Cost: 1}, api.ErrArg},
		{api.Item{ID: -1, Cost: 1}, api.ErrArg},
		{api.Item{ID: -7, Cost: 8}, api.ErrArg},
		{api.Item{ID: math.MinInt, Cost: 1}, api.ErrArg},
		{api.Item{ID: 1, Cost: 0}, api.ErrArg},
		{api.Item{ID: 1, Cost: -1}, api.ErrArg},
		{api.Item{ID: 1, Cost: 65}, api.ErrArg},
		{api.Item{ID: 1, Cost: 128 + 1}, api.ErrArg},
		{api.Item{ID: 1, Cost: math.MinInt}, api.ErrArg},
		{api.Item{ID: 1, Cost: math.MaxInt}, api.ErrArg},
	}
	for _, r := range rows {
		q, p := made(t, api.Item{ID: 7, Cost: 8}, api.Item{ID: 5, Cost: 1})
		if e := q.Push(r.x); e != r.want {
			t.Errorf("Push %v: %d, not %d", r.x, e, r.want)
		}
		if r.want == api.OK {
			p = append(p, r.x)
		}
		check(t, q, p, r.x.ID)
	}
}

// P14.1: of nil, ErrState is ahead of all others.
func TestNil(t *testing.T) {
	var q *Queue
	for _, x := range []api.Item{{}, {ID: 1, Cost: 1}, {ID: -1, Cost: 1}, {ID: 1, Cost: 65}} {
		if e := q.Push(x); e != api.ErrState {
			t.Errorf("Push %v: %d", x, e)
		}
	}
	if x, ok := q.Pop(); x != (api.Item{}) || ok {
		t.Error("Pop", x, ok)
	}
	for _, id := range append([]int{1, 2}, strange...) {
		if x, ok := q.Drop(id); x != (api.Item{}) || ok {
			t.Error("Drop", id, x, ok)
		}
	}
	check(t, q, nil, 1, 2)
}

// P14.1: items come out in the order in which they came, and then there is none; what is gone may come again.
func TestPop(t *testing.T) {
	l := []api.Item{{ID: 4, Cost: 7}, {ID: 2, Cost: 64}, {ID: 9, Cost: 1}, {ID: 3, Cost: 7}}
	q, p := made(t, l...)
	for range 2 {
		for i, want := range l {
			if x, ok := q.Pop(); x != want || !ok {
				t.Fatalf("Pop %v %v, not %v", x, ok, want)
			}
			check(t, q, p[i+1:], want.ID)
		}
		for range 2 {
			if x, ok := q.Pop(); x != (api.Item{}) || ok {
				t.Fatal("Pop of none:", x, ok)
			}
			check(t, q, nil, 4, 2, 9, 3)
		}
		for _, x := range l {
			if e := q.Push(x); e != api.OK {
				t.Fatalf("Push %v again: %d", x, e)
			}
		}
		check(t, q, p)
	}
}

// P14.1: each item may be taken out, wherever it stands, and the others stay in order; one that is not there changes nothing.
func TestDrop(t *testing.T) {
	l := []api.Item{{ID: 4, Cost: 7}, {ID: 2, Cost: 64}, {ID: 9, Cost: 1}, {ID: 3, Cost: 5}}
	for i, want := range l {
		q, p := made(t, l...)
		if x, ok := q.Drop(want.ID); x != want || !ok {
			t.Fatalf("Drop %d: %v %v", want.ID, x, ok)
		}
		p = slices.Delete(p, i, i+1)
		check(t, q, p, want.ID)
		for _, id := range append([]int{want.ID, 1, 5}, strange...) {
			if x, ok := q.Drop(id); x != (api.Item{}) || ok {
				t.Fatalf("Drop %d, which is not there: %v %v", id, x, ok)
			}
		}
		check(t, q, p, want.ID)
		again := api.Item{ID: want.ID, Cost: 11}
		if e := q.Push(again); e != api.OK {
			t.Fatalf("Push %v: %d", again, e)
		}
		check(t, q, append(p, again))
	}
}

// P14.1: the first and the last one of two, and the only one, go by Drop as by Pop.
func TestDropAtEnds(t *testing.T) {
	a, b := api.Item{ID: 1, Cost: 5}, api.Item{ID: 2, Cost: 3}
	q, _ := made(t, a, b)
	q.Drop(1)
	check(t, q, plain{b}, 1)
	q.Push(a)
	check(t, q, plain{b, a})
	q.Drop(1)
	check(t, q, plain{b}, 1)
	q.Drop(2)
	check(t, q, nil, 1, 2)
	q.Push(a)
	check(t, q, plain{a}, 2)
	if x, ok := q.Pop(); x != a || !ok {
		t.Fatal("Pop", x, ok)
	}
	check(t, q, nil, 1, 2)
}

// P14.2: what All tells is the caller's own, and telling changes nothing.
func TestAll(t *testing.T) {
	q, p := made(t, api.Item{ID: 1, Cost: 5}, api.Item{ID: 2, Cost: 3})
	l := q.All()
	l[0], l[1] = api.Item{ID: 8, Cost: 8}, api.Item{}
	_ = append(l[:1], api.Item{ID: 9, Cost: 9})
	check(t, q, p, 8, 9)
	l = q.All()
	q.Drop(1)
	q.Push(api.Item{ID: 3, Cost: 4})
	if !slices.Equal(l, p) {
		t.Error("a list of before is", l)
	}
}

// drawn does one drawn call on both.
func drawn(t *testing.T, r *rand.Rand, q *Queue, p *plain) {
	t.Helper()
	id := r.Intn(14) - 1
	switch r.Intn(5) {
	case 0, 1:
		x := api.Item{ID: id, Cost: r.Intn(68) - 1}
		if e, want := q.Push(x), p.push(x); e != want {
			t.Fatalf("Push %v: %d, not %d", x, e, want)
		}
	case 2:
		x, ok := q.Pop()
		if want, there := p.pop(); x != want || ok != there {
			t.Fatalf("Pop %v %v, not %v %v", x, ok, want, there)
		}
	default:
		x, ok := q.Drop(id)
		if want, there := p.drop(id); x != want || ok != there {
			t.Fatalf("Drop %d: %v %v, not %v %v", id, x, ok, want, there)
		}
	}
}

// P14.1, P14.2: calls drawn at random tell what a plain row tells.
func TestDrawn(t *testing.T) {
	r := rand.New(rand.NewSource(14))
	for range 300 {
		q, p := New(), plain{}
		for range 100 {
			drawn(t, r, q, &p)
			check(t, q, p, r.Intn(20))
		}
	}
}

// P14.1, P14.2: many items, of which each is found, however far from the ends.
func TestMany(t *testing.T) {
	const n = 200000
	q, sum := New(), 0
	for i := range n {
		q.Push(api.Item{ID: n - i, Cost: i%64 + 1})
		sum += i%64 + 1
	}
	if q.Len() != n || q.Cost() != sum {
		t.Fatal("Len", q.Len(), "Cost", q.Cost())
	}
	for i := 1; i < n; i += 2 {
		want := api.Item{ID: n - i, Cost: i%64 + 1}
		if x, ok := q.Drop(n - i); x != want || !ok {
			t.Fatalf("Drop %d: %v %v", n-i, x, ok)
		}
		sum -= want.Cost
	}
	if l := q.All(); len(l) != n/2 || q.Len() != n/2 || q.Cost() != sum {
		t.Fatal("All", len(l), "Len", q.Len(), "Cost", q.Cost())
	}
	for i := 0; i < n; i += 2 {
		want := api.Item{ID: n - i, Cost: i%64 + 1}
		if x, ok := q.Pop(); x != want || !ok {
			t.Fatalf("Pop %v %v, not %v", x, ok, want)
		}
	}
	check(t, q, nil, 1, n)
}

// P14.1: the chapter's example.
func TestExample(t *testing.T) {
	q, _ := made(t, api.Item{ID: 1, Cost: 5}, api.Item{ID: 2, Cost: 3})
	q.Drop(1)
	if x, ok := q.Head(); x != (api.Item{ID: 2, Cost: 3}) || !ok {
		t.Error("Head", x, ok)
	}
}
