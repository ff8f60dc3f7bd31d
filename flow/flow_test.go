package flow

import (
	"math"
	"math/rand"
	"slices"
	"testing"

	"billet/api"
)

// plain is a ring without a circle or queues: its rows in a list, the one that is visited first.
type plain struct {
	quantum int
	rows    []Row
	given   bool
}

func (p *plain) place(flow int) int {
	return slices.IndexFunc(p.rows, func(x Row) bool { return x.Flow == flow })
}

func (p *plain) push(flow, weight int, x api.Item) api.Errno {
	i := p.place(flow)
	switch {
	case flow < 0 || weight <= 0 || weight >= 17 || i >= 0 && p.rows[i].Weight != weight:
		return api.ErrArg
	case x.ID <= 0 || x.Cost <= 0 || x.Cost >= 65:
		return api.ErrArg
	case i < 0:
		p.rows = append(p.rows, Row{Flow: flow, Weight: weight, Items: []api.Item{x}})
	case p.item(i, x.ID) >= 0:
		return api.ErrThere
	default:
		p.rows[i].Items = append(p.rows[i].Items, x)
	}
	return api.OK
}

func (p *plain) item(i, id int) int {
	return slices.IndexFunc(p.rows[i].Items, func(x api.Item) bool { return x.ID == id })
}

func (p *plain) pick() (int, api.Item, bool) {
	if len(p.rows) == 0 {
		return 0, api.Item{}, false
	}
	for {
		x := &p.rows[0]
		if !p.given {
			x.Deficit += p.quantum * x.Weight
			p.given = true
		}
		if x.Items[0].Cost <= x.Deficit {
			return x.Flow, x.Items[0], true
		}
		p.rows = append(p.rows[1:], *x)
		p.given = false
	}
}

func (p *plain) take() (int, api.Item, bool) {
	flow, x, ok := p.pick()
	if ok {
		p.rows[0].Deficit -= x.Cost
		p.out(0, 0)
	}
	return flow, x, ok
}

func (p *plain) drop(flow, id int) bool {
	i := p.place(flow)
	if i < 0 || p.item(i, id) < 0 {
		return false
	}
	p.out(i, p.item(i, id))
	return true
}

// out takes an item out of a row, and that one out of the list, if nothing waits in it any more.
func (p *plain) out(i, j int) {
	if p.rows[i].Items = slices.Delete(p.rows[i].Items, j, j+1); len(p.rows[i].Items) > 0 {
		return
	}
	p.rows = slices.Delete(p.rows, i, i+1)
	if i == 0 {
		p.given = false
	}
}

// own tells a list of rows that shares nothing with l.
func own(l []Row) []Row {
	out := slices.Clone(l)
	for i := range out {
		out[i].Items = slices.Clone(out[i].Items)
	}
	return out
}

func alike(a, b []Row) bool {
	return slices.EqualFunc(a, b, func(x, y Row) bool {
		return x.Flow == y.Flow && x.Weight == y.Weight && x.Deficit == y.Deficit && slices.Equal(x.Items, y.Items)
	})
}

// strange are flows that there are none of, or just the greatest.
var strange = []int{-1, -2, math.MinInt, math.MaxInt - 1}

// check holds all that r tells of itself against p, of those flows and of p's own, and that r is the same behind it.
func check(t *testing.T, r *Ring, p *plain, flows ...int) {
	t.Helper()
	for _, x := range p.rows {
		flows = append(flows, x.Flow)
	}
	for range 2 {
		if l := r.Rows(); !alike(l, p.rows) || r.Given() != p.given {
			t.Fatalf("Rows %v, Given %v; not %v, %v", l, r.Given(), p.rows, p.given)
		}
		for _, flow := range append(slices.Clone(flows), strange...) {
			n, deficit := 0, 0
			if i := p.place(flow); i >= 0 {
				n, deficit = len(p.rows[i].Items), p.rows[i].Deficit
			}
			if r.Len(flow) != n || r.Deficit(flow) != deficit {
				t.Fatalf("flow %d: Len %d, Deficit %d; not %d, %d", flow, r.Len(flow), r.Deficit(flow), n, deficit)
			}
		}
	}
}

// loaded tells the ring of those rows, and a plain one.
func loaded(t *testing.T, quantum int, given bool, l ...Row) (*Ring, *plain) {
	t.Helper()
	r, ok := Load(quantum, l, given)
	if r == nil || !ok {
		t.Fatalf("Load %d %v %v: %v", quantum, l, given, ok)
	}
	return r, &plain{quantum: quantum, rows: own(l), given: given}
}

// items tells items of those costs, of the IDs 1, 2, and so on.
func items(costs ...int) []api.Item {
	var out []api.Item
	for i, cost := range costs {
		out = append(out, api.Item{ID: i + 1, Cost: cost})
	}
	return out
}

// take holds what both Take against one another, and tells it.
func take(t *testing.T, r *Ring, p *plain) (int, api.Item, bool) {
	t.Helper()
	flow, x, ok := r.Take()
	if f, y, there := p.take(); flow != f || x != y || ok != there {
		t.Fatalf("Take %d %v %v, not %d %v %v", flow, x, ok, f, y, there)
	}
	return flow, x, ok
}

// pick holds what both Pick against one another.
func pick(t *testing.T, r *Ring, p *plain) {
	t.Helper()
	flow, x, ok := r.Pick()
	if f, y, there := p.pick(); flow != f || x != y || ok != there {
		t.Fatalf("Pick %d %v %v, not %d %v %v", flow, x, ok, f, y, there)
	}
}

// P15.1: a ring without flows, of its own; nil of a quantum that may not be.
func TestNew(t *testing.T) {
	for _, quantum := range []int{math.MinInt, -64, -1, 0, 65, 66, 128, 1<<32 + 1, math.MaxInt} {
		if New(quantum) != nil {
			t.Errorf("quantum %d", quantum)
		}
	}
	for quantum := 1; quantum <= 64; quantum++ {
		r, other, p := New(quantum), New(quantum), &plain{quantum: quantum}
		check(t, r, p, 0, 1)
		pick(t, r, p)
		take(t, r, p)
		if r.Drop(0, 1) {
			t.Fatal("Drop of nothing")
		}
		check(t, r, p, 0, 1)
		r.Push(1, 2, api.Item{ID: 1, Cost: 1})
		p.push(1, 2, api.Item{ID: 1, Cost: 1})
		pick(t, r, p)
		check(t, r, p, 0)
		check(t, other, &plain{quantum: quantum}, 0, 1)
	}
}

// P15.1: what may be pushed, and what may not; what may not changes nothing.
func TestPush(t *testing.T) {
	rows := []struct {
		flow, weight int
		x            api.Item
		want         api.Errno
	}{
		{0, 1, api.Item{ID: 1, Cost: 1}, api.OK},
		{0, 16, api.Item{ID: 1, Cost: 64}, api.OK},
		{math.MaxInt, 1, api.Item{ID: math.MaxInt, Cost: 1}, api.OK},
		{4, 3, api.Item{ID: 9, Cost: 5}, api.OK}, // each flow has IDs of its own
		{5, 3, api.Item{ID: 7, Cost: 5}, api.OK},
		{6, 16, api.Item{ID: 9, Cost: 64}, api.OK},
		{6, 16, api.Item{ID: 7, Cost: 5}, api.ErrThere},
		{6, 16, api.Item{ID: 8, Cost: 6}, api.ErrThere},
		{5, 3, api.Item{ID: 9, Cost: 5}, api.ErrThere},
		{-1, 1, api.Item{ID: 1, Cost: 1}, api.ErrArg},
		{math.MinInt, 1, api.Item{ID: 1, Cost: 1}, api.ErrArg},
		{-6, 16, api.Item{ID: 1, Cost: 1}, api.ErrArg},
		{0, 0, api.Item{ID: 1, Cost: 1}, api.ErrArg},
		{0, -1, api.Item{ID: 1, Cost: 1}, api.ErrArg},
		{0, 17, api.Item{ID: 1, Cost: 1}, api.ErrArg},
		{0, math.MinInt, api.Item{ID: 1, Cost: 1}, api.ErrArg},
		{0, math.MaxInt, api.Item{ID: 1, Cost: 1}, api.ErrArg},
		{6, 15, api.Item{ID: 1, Cost: 1}, api.ErrArg},
		{6, 3, api.Item{ID: 1, Cost: 1}, api.ErrArg},
		{6, 0, api.Item{ID: 1, Cost: 1}, api.ErrArg},
		{6, 17, api.Item{ID: 1, Cost: 1}, api.ErrArg},
		{5, 16, api.Item{ID: 1, Cost: 1}, api.ErrArg},
		{6, 15, api.Item{ID: 7, Cost: 5}, api.ErrArg}, // ahead of ErrThere
		{6, 16, api.Item{ID: 7, Cost: 65}, api.ErrArg},
		{6, 16, api.Item{ID: 7, Cost: 0}, api.ErrArg},
		{6, 16, api.Item{ID: 0, Cost: 1}, api.ErrArg},
		{0, 1, api.Item{ID: 0, Cost: 1}, api.ErrArg},
		{0, 1, api.Item{ID: -1, Cost: 1}, api.ErrArg},
		{0, 1, api.Item{ID: 1, Cost: 0}, api.ErrArg},
		{0, 1, api.Item{ID: 1, Cost: -1}, api.ErrArg},
		{0, 1, api.Item{ID: 1, Cost: 65}, api.ErrArg},
		{0, 1, api.Item{}, api.ErrArg},
	}
	for _, given := range []bool{false, true} {
		for _, x := range rows {
			r, p := loaded(t, 4, given, Row{Flow: 6, Weight: 16, Deficit: 3, Items: []api.Item{{ID: 7, Cost: 5}, {ID: 8, Cost: 64}}}, Row{Flow: 5, Weight: 3, Items: []api.Item{{ID: 9, Cost: 5}}})
			if e := r.Push(x.flow, x.weight, x.x); e != x.want || p.push(x.flow, x.weight, x.x) != x.want {
				t.Errorf("Push %v: %d", x, e)
			}
			check(t, r, p, 0, 4, x.flow)
		}
	}
}

// P15.1: a flow that is in the ring stays where it stands; one that is not stands behind all others, with a deficit of 0, whatever it had before, and may have another weight.
func TestStand(t *testing.T) {
	r, p := New(1), &plain{quantum: 1}
	push := func(flow, weight int, x api.Item) {
		t.Helper()
		if e := r.Push(flow, weight, x); e != api.OK || p.push(flow, weight, x) != api.OK {
			t.Fatalf("Push %d %d %v: %d", flow, weight, x, e)
		}
		check(t, r, p, 1, 2, 3)
	}
	push(2, 5, api.Item{ID: 1, Cost: 3})
	push(1, 1, api.Item{ID: 1, Cost: 1})
	push(2, 5, api.Item{ID: 3, Cost: 3})
	for i, want := range []int{2, 1, 2, 1} {
		if flow, _, ok := take(t, r, p); flow != want || !ok {
			t.Fatalf("take %d: %d %v", i, flow, ok)
		}
		check(t, r, p, 1, 2, 3)
		switch i {
		case 0: // in the midst of flow 2's visit
			push(3, 2, api.Item{ID: 1, Cost: 64})
			push(2, 5, api.Item{ID: 1, Cost: 7})
		case 1: // flow 1 was gone
			push(1, 4, api.Item{ID: 1, Cost: 2})
		}
	}
}

// P15.1 to P15.3: of nil, ErrState, whatever else is wrong; nothing, 0, false.
func TestNil(t *testing.T) {
	var r *Ring
	for _, flow := range append([]int{0, 1}, strange...) {
		for _, weight := range []int{0, 1, 16, 17} {
			for _, x := range []api.Item{{}, {ID: 1, Cost: 1}, {ID: 1, Cost: 65}} {
				if e := r.Push(flow, weight, x); e != api.ErrState {
					t.Errorf("Push %d %d %v: %d", flow, weight, x, e)
				}
			}
		}
		if r.Drop(flow, 1) || r.Drop(flow, 0) || r.Drop(flow, -1) {
			t.Errorf("Drop of %d", flow)
		}
	}
	pick(t, r, &plain{})
	take(t, r, &plain{})
	check(t, r, &plain{}, 0, 1)
}

// P15.2: what a Pick gives, to whom it goes on, and what a Take leaves.
func TestPick(t *testing.T) {
	a, b := Row{Flow: 7, Weight: 2, Items: items(4, 5)}, Row{Flow: 3, Weight: 1, Items: items(2)}
	with := func(x Row, deficit int) Row {
		x.Deficit = deficit
		return x
	}
	rows := []struct {
		name    string
		quantum int
		given   bool
		l, want []Row
	}{
		{"given enough", 2, false, []Row{a, b}, []Row{with(a, 4), b}},
		{"given more than enough", 64, false, []Row{a, b}, []Row{with(a, 128), b}},
		{"enough already, and given all the same", 2, false, []Row{with(a, 9), b}, []Row{with(a, 13), b}},
		{"given already, and enough", 2, true, []Row{with(a, 4), b}, []Row{with(a, 4), b}},
		{"given already, and one too few", 2, true, []Row{with(a, 3), b}, []Row{with(b, 2), with(a, 3)}},
		{"one too few, and then given again", 1, false, []Row{with(a, 1), b}, []Row{with(a, 5), with(b, 1)}},
		{"both twice", 1, false, []Row{a, b}, []Row{with(a, 4), with(b, 1)}},
		{"the other one, that had some", 1, false, []Row{with(a, 1), with(b, 1)}, []Row{with(b, 2), with(a, 3)}},
		{"alone, again and again", 1, false, []Row{{Flow: 0, Weight: 1, Items: items(64)}}, []Row{{Flow: 0, Weight: 1, Deficit: 64, Items: items(64)}}},
		{"alone, given already", 5, true, []Row{{Flow: 0, Weight: 3, Deficit: 63, Items: items(64)}}, []Row{{Flow: 0, Weight: 3, Deficit: 78, Items: items(64)}}},
		{"nobody", 5, false, nil, nil},
	}
	for _, x := range rows {
		r, p := loaded(t, x.quantum, x.given, x.l...)
		for range 3 {
			flow, y, ok := r.Pick()
			if ok != (len(x.want) > 0) || ok && (flow != x.want[0].Flow || y != x.want[0].Items[0]) || !ok && (flow != 0 || y != api.Item{}) {
				t.Fatalf("%s: Pick %d %v %v", x.name, flow, y, ok)
			}
			if l := r.Rows(); !alike(l, x.want) || r.Given() != ok {
				t.Fatalf("%s: %v %v, not %v", x.name, l, r.Given(), x.want)
			}
		}
		p.pick()
		for range 4 {
			take(t, r, p)
			check(t, r, p, 0, 3, 7)
		}
	}
}

// P15.2: a flow is visited as long as its deficit lasts, and is given its quantum once in that; it goes when nothing waits in it any more, with its deficit.
func TestTake(t *testing.T) {
	r, p := New(3), &plain{quantum: 3}
	for id, cost := range []int{1, 2, 3, 4, 2} {
		r.Push(5, 2, api.Item{ID: id + 1, Cost: cost})
		p.push(5, 2, api.Item{ID: id + 1, Cost: cost})
	}
	for id, cost := range []int{2, 2} {
		r.Push(0, 1, api.Item{ID: id + 1, Cost: cost})
		p.push(0, 1, api.Item{ID: id + 1, Cost: cost})
	}
	rows := []struct {
		flow, id, left int
		given          bool
	}{
		{5, 1, 5, true},
		{5, 2, 3, true},
		{5, 3, 0, true},
		{0, 1, 1, true},
		{5, 4, 2, true}, // 0 + 6 - 4
		{5, 5, 0, false},
		{0, 2, 0, false}, // 1 + 3 - 2, but it is gone
	}
	for _, x := range rows {
		flow, y, ok := take(t, r, p)
		if flow != x.flow || y.ID != x.id || !ok || r.Deficit(flow) != x.left || r.Given() != x.given {
			t.Fatalf("Take %d %v %v, Deficit %d, Given %v; not %v", flow, y, ok, r.Deficit(flow), r.Given(), x)
		}
		check(t, r, p, 0, 5)
	}
	take(t, r, p)
	check(t, r, p, 0, 5)
}

// P15.2: Drop of an item, wherever it stands, and what that does to who is visited.
func TestDrop(t *testing.T) {
	l := []Row{{Flow: 4, Weight: 2, Deficit: 5, Items: items(3)}, {Flow: 9, Weight: 1, Deficit: 2, Items: items(1, 64, 3)}, {Flow: 0, Weight: 16, Items: items(8)}}
	rows := []struct {
		flow, id int
		ok       bool
		want     []int // flows
		given    bool
	}{
		{4, 1, true, []int{9, 0}, false}, // who was visited
		{9, 1, true, []int{4, 9, 0}, true},
		{9, 2, true, []int{4, 9, 0}, true},
		{9, 3, true, []int{4, 9, 0}, true},
		{0, 1, true, []int{4, 9}, true}, // who was not visited
		{4, 2, false, []int{4, 9, 0}, true},
		{9, 4, false, []int{4, 9, 0}, true},
		{9, 0, false, []int{4, 9, 0}, true},
		{9, -1, false, []int{4, 9, 0}, true},
		{9, math.MinInt, false, []int{4, 9, 0}, true},
		{1, 1, false, []int{4, 9, 0}, true},
		{-1, 1, false, []int{4, 9, 0}, true},
		{math.MaxInt, 1, false, []int{4, 9, 0}, true},
	}
	for _, x := range rows {
		for _, given := range []bool{true, false} {
			r, p := loaded(t, 4, given, l...)
			for range 2 {
				if ok := r.Drop(x.flow, x.id); ok != x.ok || ok != p.drop(x.flow, x.id) {
					t.Fatalf("Drop %d %d: %v", x.flow, x.id, ok)
				}
				check(t, r, p, 0, 4, 9)
				var flows []int
				for _, y := range r.Rows() {
					flows = append(flows, y.Flow)
				}
				if !slices.Equal(flows, x.want) || r.Given() != (given && x.given) {
					t.Fatalf("Drop %d %d: %v, Given %v", x.flow, x.id, flows, r.Given())
				}
				x.ok = false // it is gone
			}
			x.ok = slices.ContainsFunc(l, func(y Row) bool { return y.Flow == x.flow && x.id >= 1 && x.id <= len(y.Items) })
			pick(t, r, p)
			check(t, r, p, 0, 4, 9)
		}
	}
}

// P15.2: Drop of what Pick told, of items one behind the other, and of the only flow.
func TestDropPicked(t *testing.T) {
	r, p := loaded(t, 2, false, Row{Flow: 1, Weight: 2, Items: items(4, 5, 4)}, Row{Flow: 2, Weight: 1, Items: items(2)})
	step := func(flow, id int) {
		t.Helper()
		if !r.Drop(flow, id) || !p.drop(flow, id) || r.Drop(flow, id) {
			t.Fatalf("Drop %d %d", flow, id)
		}
		check(t, r, p, 1, 2)
		pick(t, r, p)
		check(t, r, p, 1, 2)
	}
	pick(t, r, p)
	step(1, 1) // 4 does not do for 5: on to flow 2
	if flow, _, _ := r.Pick(); flow != 2 || r.Deficit(1) != 4 {
		t.Fatal("Pick", flow, r.Rows())
	}
	step(1, 2)
	step(2, 1)
	if flow, x, _ := r.Pick(); flow != 1 || x.ID != 3 || r.Deficit(1) != 8 {
		t.Fatal("Pick", flow, x, r.Rows())
	}
	step(1, 3)
	if len(r.Rows()) != 0 || r.Given() {
		t.Fatal("Rows", r.Rows(), r.Given())
	}
	r.Push(1, 3, api.Item{ID: 1, Cost: 7})
	p.push(1, 3, api.Item{ID: 1, Cost: 7})
	check(t, r, p, 2)
	pick(t, r, p)
	check(t, r, p, 2)
}

// P15.3: what Rows tells is the caller's own, and telling changes nothing.
func TestRows(t *testing.T) {
	r, p := loaded(t, 4, true, Row{Flow: 4, Weight: 2, Deficit: 5, Items: items(3, 2, 1)}, Row{Flow: 9, Weight: 1, Items: items(64)})
	l := r.Rows()
	l[0].Items[1] = api.Item{ID: 8, Cost: 8}
	_ = append(l[0].Items[:1], api.Item{ID: 9, Cost: 9})
	_ = append(l[0].Items, api.Item{ID: 9, Cost: 9})
	l[1] = Row{Flow: 1, Weight: 1}
	_ = append(l[:0], Row{})
	check(t, r, p, 1)
	l = r.Rows()
	before := own(l)
	take(t, r, p)
	r.Drop(9, 1)
	r.Push(1, 1, api.Item{ID: 1, Cost: 1})
	if !alike(l, before) {
		t.Error("rows of before are", l)
	}
}

// P15.3: what may be loaded, and what may not.
func TestLoad(t *testing.T) {
	fine, other := Row{Flow: 4, Weight: 2, Deficit: 5, Items: items(3, 2)}, Row{Flow: 9, Weight: 1, Items: items(64)}
	with := func(change func(x *Row)) []Row {
		x := Row{Flow: 0, Weight: 1, Items: items(1, 64, 1)}
		change(&x)
		return []Row{fine, x, other}
	}
	rows := []struct {
		name    string
		quantum int
		l       []Row
		want    bool
	}{
		{"fine", 1, []Row{fine, other}, true},
		{"fine, by another order", 64, []Row{other, fine}, true},
		{"no rows", 1, nil, true},
		{"quantum 0", 0, []Row{fine}, false},
		{"quantum -1", -1, []Row{fine}, false},
		{"quantum 65", 65, []Row{fine}, false},
		{"quantum 0 without rows", 0, nil, false},
		{"a flow twice", 1, []Row{fine, other, fine}, false},
		{"a flow twice, one behind the other", 1, []Row{fine, other, {Flow: 9, Weight: 1, Items: items(1)}}, false},
		{"the greatest flow", 1, with(func(x *Row) { x.Flow = math.MaxInt }), true},
		{"no flow", 1, with(func(x *Row) { x.Flow = -1 }), false},
		{"none by far", 1, with(func(x *Row) { x.Flow = math.MinInt }), false},
		{"weight 0", 1, with(func(x *Row) { x.Weight = 0 }), false},
		{"weight -1", 1, with(func(x *Row) { x.Weight = -1 }), false},
		{"weight 16", 1, with(func(x *Row) { x.Weight = 16 }), true},
		{"weight 17", 1, with(func(x *Row) { x.Weight = 17 }), false},
		{"deficit -1", 1, with(func(x *Row) { x.Deficit = -1 }), false},
		{"deficit far below 0", 1, with(func(x *Row) { x.Deficit = math.MinInt }), false},
		{"deficit 1088", 1, with(func(x *Row) { x.Deficit = 64 + 64*16 }), true},
		{"deficit 1089", 1, with(func(x *Row) { x.Deficit = 64 + 64*16 + 1 }), false},
		{"deficit far above", 1, with(func(x *Row) { x.Deficit = math.MaxInt }), false},
		{"nil items", 1, with(func(x *Row) { x.Items = nil }), false},
		{"no items", 1, with(func(x *Row) { x.Items = []api.Item{} }), false},
		{"an ID twice", 1, with(func(x *Row) { x.Items[2].ID = 1 }), false},
		{"an item twice", 1, with(func(x *Row) { x.Items[2] = x.Items[1] }), false},
		{"ID 0", 1, with(func(x *Row) { x.Items[2].ID = 0 }), false},
		{"ID -1", 1, with(func(x *Row) { x.Items[0].ID = -1 }), false},
		{"the greatest ID", 1, with(func(x *Row) { x.Items[0].ID = math.MaxInt }), true},
		{"cost 0", 1, with(func(x *Row) { x.Items[0].Cost = 0 }), false},
		{"cost -1", 1, with(func(x *Row) { x.Items[1].Cost = -1 }), false},
		{"cost 65", 1, with(func(x *Row) { x.Items[2].Cost = 65 }), false},
	}
	for _, x := range rows {
		for _, given := range []bool{false, true} {
			l := own(x.l)
			r, ok := Load(x.quantum, l, given)
			want := x.want && (!given || len(l) > 0)
			if ok != want || (r != nil) != want {
				t.Fatalf("%s, given %v: %v %v", x.name, given, r, ok)
			}
			if !alike(l, x.l) {
				t.Fatalf("%s: changed to %v", x.name, l)
			}
			if !ok {
				continue
			}
			p := &plain{quantum: x.quantum, rows: own(x.l), given: given}
			for _, y := range l { // what was handed in is the caller's own
				y.Items[0] = api.Item{}
			}
			clear(l)
			check(t, r, p, 0)
			for range 3 {
				take(t, r, p)
				check(t, r, p, 0, 4, 9)
			}
		}
	}
}

// draw is where drawn calls come from: few flows and IDs, so that they meet, and costs up to most.
type draw struct {
	*rand.Rand
	flows, most int
	weights     []int
}

// drawn tells where calls come from, and a new ring for them, and a plain one.
func drawn(seed int64) (*draw, *Ring, *plain) {
	d := &draw{Rand: rand.New(rand.NewSource(seed))}
	d.flows, d.most = d.Intn(5)+1, []int{1, 2, 5, 20, 64}[d.Intn(5)]
	for range d.flows {
		d.weights = append(d.weights, []int{1, 2, 3, d.Intn(16) + 1, 16}[d.Intn(5)])
	}
	quantum := []int{1, 2, 3, d.Intn(64) + 1, 64}[d.Intn(5)]
	return d, New(quantum), &plain{quantum: quantum}
}

// call does one drawn call on both, and tells what was taken, if that was it.
func (d *draw) call(t *testing.T, r *Ring, p *plain) (int, api.Item) {
	t.Helper()
	flow, x := d.Intn(d.flows), api.Item{ID: d.Intn(12) + 1, Cost: d.Intn(d.most) + 1}
	weight := d.weights[flow]
	switch d.Intn(10) {
	case 0:
		flow, weight, x = flow-d.Intn(2), d.Intn(19)-1, api.Item{ID: d.Intn(4) - 1, Cost: d.Intn(68) - 1}
		fallthrough
	case 1, 2, 3, 4:
		if e, want := r.Push(flow, weight, x), p.push(flow, weight, x); e != want {
			t.Fatalf("Push %d %d %v: %d, not %d", flow, weight, x, e, want)
		}
	case 5, 6:
		flow, x, _ = take(t, r, p)
		return flow, x
	case 7:
		pick(t, r, p)
	default:
		if ok, want := r.Drop(flow, x.ID), p.drop(flow, x.ID); ok != want {
			t.Fatalf("Drop %d %d: %v, not %v", flow, x.ID, ok, want)
		}
	}
	return 0, api.Item{}
}

// P15.1 to P15.3: calls drawn at random tell what plain rows tell.
func TestDrawn(t *testing.T) {
	for seed := range int64(400) {
		d, r, p := drawn(seed)
		for range 200 {
			d.call(t, r, p)
			if d.Intn(2) == 0 { // not always: what is asked must not be what makes it right
				check(t, r, p, 0, 1, 2, 3, 4)
			}
		}
		check(t, r, p, 0, 1, 2, 3, 4)
		for range p.rows {
			take(t, r, p)
		}
		check(t, r, p, 0, 1, 2, 3, 4)
	}
}

// P15.5: Pick, told again, tells the same, and changes nothing more; nor does it change what Take tells.
func TestPickAgain(t *testing.T) {
	for seed := range int64(200) {
		d, r, p := drawn(seed)
		for range 100 {
			d.call(t, r, p)
			flow, x, ok := r.Pick()
			l, given := r.Rows(), r.Given()
			if given != ok || ok != (len(l) > 0) || ok && (flow != l[0].Flow || x != l[0].Items[0] || x.Cost > l[0].Deficit) {
				t.Fatalf("Pick %d %v %v of %v, Given %v", flow, x, ok, l, given)
			}
			for range 3 {
				f, y, there := r.Pick()
				if f != flow || y != x || there != ok || !alike(r.Rows(), l) || r.Given() != given {
					t.Fatalf("Pick again: %d %v %v of %v, not %d %v %v of %v", f, y, there, r.Rows(), flow, x, ok, l)
				}
			}
			if d.Intn(3) == 0 {
				if f, y, there := take(t, r, p); f != flow || y != x || there != ok {
					t.Fatalf("Take %d %v %v, not %d %v %v", f, y, there, flow, x, ok)
				}
				continue
			}
			p.pick()
		}
	}
}

// P15.6: Load of Rows and Given, at any time, is a ring that does the same.
func TestLoadAgain(t *testing.T) {
	for seed := range int64(200) {
		d, r, p := drawn(seed)
		for range 150 {
			for range d.Intn(4) {
				d.call(t, r, p)
			}
			again, ok := Load(p.quantum, r.Rows(), r.Given())
			if !ok {
				t.Fatalf("Load %d %v %v", p.quantum, r.Rows(), r.Given())
			}
			check(t, again, p, 0, 1, 2, 3, 4)
			r = again
		}
	}
}

// pair is two flows, of which nothing is dropped, and what was taken of each since something waits in both.
type pair struct {
	flows, weights, most, taken [2]int
	low, high                   int // of what was taken of the first one, divided by its weight, less that of the other one; times both weights
	id                          int // that was pushed last
}

// fill lets some items wait in one of the two.
func (x *pair) fill(t *testing.T, d *draw, r *Ring, p *plain, i int) {
	t.Helper()
	for n := 2 + d.Intn(30); r.Len(x.flows[i]) < n; {
		x.id++
		y := api.Item{ID: x.id, Cost: 1 + d.Intn(x.most[i])}
		if r.Push(x.flows[i], x.weights[i], y) != api.OK || p.push(x.flows[i], x.weights[i], y) != api.OK {
			t.Fatal("Push", x.flows[i], y)
		}
	}
}

// see counts what was taken, unless in one of the two nothing waits, and tells whether that was fair so far.
func (x *pair) see(quantum int, r *Ring, flow, cost int) bool {
	if r.Len(x.flows[0]) == 0 || r.Len(x.flows[1]) == 0 {
		x.taken, x.low, x.high = [2]int{}, 0, 0
		return true
	}
	if i := slices.Index(x.flows[:], flow); i >= 0 {
		x.taken[i] += cost
	}
	apart := x.taken[0]*x.weights[1] - x.taken[1]*x.weights[0]
	x.low, x.high = min(x.low, apart), max(x.high, apart)
	w := x.weights
	return x.high-x.low <= quantum*w[0]*w[1]+max(x.most[0], x.most[1])*(w[0]+w[1])
}

// P15.4: of two flows in which something always waits, and of which nothing is dropped, what was taken differs by no more than it may, however long one looks; whatever the other flows do.
func TestFair(t *testing.T) {
	long := 0
	for seed := range int64(400) {
		d, r, p := drawn(seed)
		for range d.Intn(60) {
			d.call(t, r, p)
		}
		x := &pair{flows: [2]int{10, 11}, weights: [2]int{1 + d.Intn(16), 1 + d.Intn(16)}, most: [2]int{1 + d.Intn(64), 1 + d.Intn(64)}}
		for range 800 {
			x.fill(t, d, r, p, 0)
			if d.Intn(3) == 0 { // the other one may come later, and go
				x.fill(t, d, r, p, 1)
			}
			flow, y := 0, api.Item{}
			if d.Intn(3) == 0 {
				flow, y = d.call(t, r, p)
			} else {
				flow, y, _ = take(t, r, p)
			}
			if !x.see(p.quantum, r, flow, y.Cost) {
				t.Fatalf("seed %d: quantum %d, %+v", seed, p.quantum, x)
			}
			long = max(long, min(x.taken[0], x.taken[1]))
		}
	}
	if long < 5000 { // of each, while both waited
		t.Errorf("but %d were taken", long)
	}
}

// P15.4: in the long run each flow has its part, by its weight.
func TestParts(t *testing.T) {
	for _, quantum := range []int{1, 2, 7, 64} {
		r, taken := New(quantum), map[int]int{}
		for flow, weight := range []int{1, 2, 16, 5} {
			for id := range 6000 {
				r.Push(flow, weight, api.Item{ID: id + 1, Cost: 1 + (id*7+flow*13)%64})
			}
		}
		sum := 0
		for sum < 90000 {
			flow, x, _ := r.Take()
			taken[flow] += x.Cost
			sum += x.Cost
		}
		for flow, weight := range []int{1, 2, 16, 5} {
			if got, want := taken[flow], 90000*weight/24; got < want-weight*(quantum+128) || got > want+weight*(quantum+128) {
				t.Errorf("quantum %d: flow %d has %d, not about %d", quantum, flow, got, want)
			}
		}
	}
}

// P15.1 to P15.3: many flows, of which each is found, however far from the first one.
func TestMany(t *testing.T) {
	const n = 100000
	r := New(1)
	for flow := range n {
		r.Push(flow, 1, api.Item{ID: 1, Cost: 3})
		r.Push(flow, 1, api.Item{ID: 2, Cost: 64})
	}
	for flow := n - 1; flow > 0; flow -= 2 {
		if !r.Drop(flow, 2) || !r.Drop(flow, 1) || r.Len(flow) != 0 {
			t.Fatal("Drop", flow)
		}
	}
	for _, cost := range []int{3, 64} {
		for flow := 0; flow < n; flow += 2 {
			if f, x, ok := r.Take(); f != flow || x.Cost != cost || !ok {
				t.Fatalf("Take %d %v %v, not of %d", f, x, ok, flow)
			}
		}
	}
	check(t, r, &plain{}, 0, 1, n-1)
}

// P15.2: the chapter's example.
func TestExample(t *testing.T) {
	r := New(2)
	for id := range 9 {
		r.Push(0, 1, api.Item{ID: id + 1, Cost: 2})
		r.Push(1, 2, api.Item{ID: id + 1, Cost: 2})
	}
	for i, want := range []int{0, 1, 1, 0, 1, 1, 0, 1, 1} {
		if flow, x, ok := r.Take(); flow != want || x.Cost != 2 || !ok {
			t.Fatalf("take %d: %d %v %v", i, flow, x, ok)
		}
	}
}
