package due

import (
	"cmp"
	"math"
	"math/rand"
	"slices"
	"testing"

	"billet/api"
)

// end is the clock's end, top the greatest int, low the least one, most the greatest number of a kind.
const (
	end  = math.MaxUint64
	top  = math.MaxInt
	low  = math.MinInt
	most = 1 << 40
)

// plain is a Due without a wheel: all timers, in no order.
type plain struct {
	now uint64
	all []api.Timer
}

func (p *plain) place(kind, id int) int {
	return slices.IndexFunc(p.all, func(x api.Timer) bool { return x.Kind == kind && x.ID == id })
}

func (p *plain) set(kind, id int, at uint64) api.Errno {
	if kind != 1 && kind != 2 && kind != 3 && kind != 4 || id < 0 || id > most {
		return api.ErrArg
	}
	p.clear(kind, id)
	p.all = append(p.all, api.Timer{Kind: kind, ID: id, At: at})
	return api.OK
}

func (p *plain) clear(kind, id int) bool {
	i := p.place(kind, id)
	if i < 0 {
		return false
	}
	p.all = slices.Delete(p.all, i, i+1)
	return true
}

func (p *plain) at(kind, id int) (uint64, bool) {
	i := p.place(kind, id)
	if i < 0 {
		return 0, false
	}
	return p.all[i].At, true
}

// least is the first of all timers: by ticks, then kinds, then numbers.
func (p *plain) least() (api.Timer, bool) {
	if len(p.all) == 0 {
		return api.Timer{}, false
	}
	return slices.MinFunc(p.all, order), true
}

func (p *plain) first(to uint64) (api.Timer, bool) {
	x, ok := p.least()
	if !ok || x.At > to {
		return api.Timer{}, false
	}
	p.clear(x.Kind, x.ID)
	p.now = max(p.now, x.At)
	return x, true
}

func (p *plain) goOn(to uint64) bool {
	if x, ok := p.least(); ok && x.At <= to {
		return false
	}
	p.now = max(p.now, to)
	return true
}

func order(a, b api.Timer) int {
	return cmp.Or(cmp.Compare(a.At, b.At), cmp.Compare(a.Kind, b.Kind), cmp.Compare(a.ID, b.ID))
}

// check holds all that d tells of itself against p, of kinds about those that may be and of those numbers.
func check(t *testing.T, d *Due, p *plain, ids []int) {
	t.Helper()
	at, ok := d.Next()
	x, there := p.least()
	if d.Now() != p.now || d.Len() != len(p.all) || at != x.At || ok != there {
		t.Fatalf("Now %d, Len %d, Next %d %v; not %d, %d, %d %v", d.Now(), d.Len(), at, ok, p.now, len(p.all), x.At, there)
	}
	for kind := -1; kind <= 6; kind++ {
		for _, id := range ids {
			at, ok := d.At(kind, id)
			if want, there := p.at(kind, id); at != want || ok != there {
				t.Fatalf("At(%d, %d): %d %v, not %d %v", kind, id, at, ok, want, there)
			}
		}
	}
}

// filled is a Due, and a plain one, with those timers.
func filled(t *testing.T, now uint64, l []api.Timer) (*Due, *plain) {
	t.Helper()
	d, p := New(now), &plain{now: now}
	for _, x := range l {
		if e := d.Set(x.Kind, x.ID, x.At); e != p.set(x.Kind, x.ID, x.At) || e != api.OK {
			t.Fatalf("Set(%v): %d", x, e)
		}
	}
	return d, p
}

// all lets First tell all up to that tick.
func all(d *Due, to uint64) []api.Timer {
	var out []api.Timer
	for {
		x, ok := d.First(to)
		if !ok {
			return out
		}
		out = append(out, x)
	}
}

// P9.1: at that tick, and no timers.
func TestNew(t *testing.T) {
	ids := []int{low, -1, 0, 1, most, most + 1, top}
	for _, now := range []uint64{0, 1, 15, 16, 300, most, 1 << 63, end - 1, end} {
		d := New(now)
		check(t, d, &plain{now: now}, ids)
		for _, id := range ids {
			for kind := -1; kind <= 5; kind++ {
				if d.Clear(kind, id) {
					t.Errorf("Clear(%d, %d) of nothing", kind, id)
				}
			}
		}
		if x, ok := d.First(end); ok || x != (api.Timer{}) || d.Now() != now {
			t.Errorf("First of nothing: %v %v, now %d", x, ok, d.Now())
		}
	}
	a, b := New(1), New(1)
	if a.Set(1, 1, 5) != api.OK || b.Len() != 0 || b.Set(1, 1, 6) != api.OK || !a.Clear(1, 1) || b.Len() != 1 || !a.Go(9) || b.Now() != 1 {
		t.Error("two of them are not their own")
	}
}

// P9.1: which kinds and numbers may be; ErrArg changes nothing.
func TestSet(t *testing.T) {
	ids := []int{low, low + 1, -most - 1, -most, -1, 0, 1, 2, most - 1, most, most + 1, 2*most + 1, 2*most + 2, 1 << 41, 1 << 62, top - 1, top}
	d, p := New(9), &plain{now: 9}
	for _, kind := range []int{low, -1 << 40, -4, -1, 0, 1, 2, 3, 4, 5, 6, 8, 1 << 32, 1<<32 + 1, 1<<40 + 2, top} {
		for i, id := range ids {
			want := api.OK
			if kind < 1 || kind > 4 || i < 5 || i > 9 {
				want = api.ErrArg
			}
			if e := d.Set(kind, id, uint64(100+i)); e != want || p.set(kind, id, uint64(100+i)) != want {
				t.Fatalf("Set(%d, %d): %d, not %d", kind, id, e, want)
			}
			check(t, d, p, ids)
		}
	}
	for _, kind := range []int{low, 0, 5, top} {
		for _, id := range []int{0, 1, most, -1} {
			if at, ok := d.At(kind, id); at != 0 || ok || d.Clear(kind, id) {
				t.Errorf("there is %d %d", kind, id)
			}
		}
	}
	for kind := 1; kind <= 4; kind++ { // one beyond a kind is not the next kind's first
		for _, id := range []int{-1, most + 1, -most - 1, 2*most + 2} {
			if at, ok := d.At(kind, id); at != 0 || ok || d.Clear(kind, id) {
				t.Errorf("there is %d %d", kind, id)
			}
		}
	}
	if d.Len() != 20 {
		t.Errorf("%d", d.Len())
	}
}

// P9.1: what is set again is one timer, due at the tick that was told last, wherever that lies.
func TestSetAgain(t *testing.T) {
	d, p := filled(t, 50, []api.Timer{{Kind: 2, ID: 7, At: 60}})
	for i, at := range []uint64{60, 61, 59, 50, 49, 0, end, end - 1, 1 << 40, 51, 65, 64, 63, 0, 0, 70} {
		if i%3 == 0 { // also with a timer of the same number, and of the same kind
			d.Set(3, 7, at)
			p.set(3, 7, at)
			d.Set(2, 8, at)
			p.set(2, 8, at)
		}
		if e := d.Set(2, 7, at); e != api.OK || p.set(2, 7, at) != api.OK {
			t.Fatal(e)
		}
		check(t, d, p, []int{6, 7, 8})
		if d.Len() != 3 {
			t.Fatal(d.Len())
		}
	}
	if !d.Clear(2, 7) || d.Clear(2, 7) || d.Len() != 2 {
		t.Error("there were two of it")
	}
	if e := d.Set(2, 7, 5); e != api.OK || d.Set(2, -7, 4) != api.ErrArg || d.Set(0, 7, 4) != api.ErrArg {
		t.Error(e)
	}
	if at, ok := d.Next(); at != 5 || !ok || d.Len() != 3 {
		t.Errorf("%d %v", at, ok)
	}
}

// P9.1: what is cleared was there, and is gone: from At, Len, Next and First.
func TestClear(t *testing.T) {
	var l []api.Timer
	for kind := 1; kind <= 4; kind++ {
		for _, id := range []int{0, 1, 2, 9, most} {
			l = append(l, api.Timer{Kind: kind, ID: id, At: uint64(kind*id%7 + 3)})
		}
	}
	ids := []int{-1, 0, 1, 2, 9, most}
	r := rand.New(rand.NewSource(1))
	for range 30 {
		d, p := filled(t, 5, l)
		for i, j := range r.Perm(len(l)) {
			x := l[j]
			if i%4 == 3 {
				y, ok := d.First(end)
				if want, there := p.first(end); y != want || ok != there {
					t.Fatalf("First: %v %v, not %v", y, ok, want)
				}
			}
			if ok := d.Clear(x.Kind, x.ID); ok != p.clear(x.Kind, x.ID) || d.Clear(x.Kind, x.ID) {
				t.Fatalf("Clear(%v): %v", x, ok)
			}
			check(t, d, p, ids)
		}
		if d.Len() != 0 || len(all(d, end)) != 0 {
			t.Fatal(d.Len())
		}
	}
}

// P9.1 and P9.2: of nil, ErrState, whatever else is wrong; 0, false.
func TestNil(t *testing.T) {
	var d *Due
	for _, kind := range []int{low, 0, 1, 4, 5, top} {
		for _, id := range []int{low, -1, 0, 1, most, top} {
			at, ok := d.At(kind, id)
			if d.Set(kind, id, 0) != api.ErrState || d.Set(kind, id, end) != api.ErrState || d.Clear(kind, id) || at != 0 || ok {
				t.Errorf("%d %d", kind, id)
			}
		}
	}
	for _, to := range []uint64{0, 1, end} {
		if x, ok := d.First(to); ok || x != (api.Timer{}) || d.Go(to) {
			t.Errorf("%v %v", x, ok)
		}
	}
	if at, ok := d.Next(); at != 0 || ok || d.Now() != 0 || d.Len() != 0 {
		t.Error("nil has timers")
	}
}

// P9.2: the first one by ticks, then kinds, then numbers, is told with its kind, number and tick, is gone, and Now is its tick, if that is behind Now.
func TestFirst(t *testing.T) {
	type timers = []api.Timer
	many := timers{{Kind: 4, ID: 0, At: 9}, {Kind: 1, ID: most, At: 9}, {Kind: 2, ID: 0, At: 9}, {Kind: 1, ID: 3, At: 9}, {Kind: 3, ID: 5, At: 9}, {Kind: 3, ID: 4, At: 9}, {Kind: 2, ID: most, At: 9}, {Kind: 3, ID: 0, At: 10}, {Kind: 4, ID: most, At: 8}}
	rows := []struct {
		now  uint64
		l    timers
		to   uint64
		want timers
	}{
		{0, timers{{Kind: 4, ID: 7, At: 9}, {Kind: 1, ID: 8, At: 9}}, 9, timers{{Kind: 1, ID: 8, At: 9}, {Kind: 4, ID: 7, At: 9}}},
		{0, timers{{Kind: 4, ID: 7, At: 9}, {Kind: 1, ID: 8, At: 9}}, 8, nil},
		{0, timers{{Kind: 4, ID: 7, At: 9}, {Kind: 1, ID: 8, At: 10}}, 9, timers{{Kind: 4, ID: 7, At: 9}}},
		{0, nil, end, nil},
		{0, many, 9, timers{{Kind: 4, ID: most, At: 8}, {Kind: 1, ID: 3, At: 9}, {Kind: 1, ID: most, At: 9}, {Kind: 2, ID: 0, At: 9}, {Kind: 2, ID: most, At: 9}, {Kind: 3, ID: 4, At: 9}, {Kind: 3, ID: 5, At: 9}, {Kind: 4, ID: 0, At: 9}}},
		{9, many, 8, timers{{Kind: 4, ID: most, At: 8}}},
		{0, timers{{Kind: 3, ID: 2, At: 0}, {Kind: 3, ID: 1, At: 0}}, 0, timers{{Kind: 3, ID: 1, At: 0}, {Kind: 3, ID: 2, At: 0}}},
		// what is due at now, or ahead of it, comes by its ticks all the same, and Now stays
		{50, timers{{Kind: 1, ID: 1, At: 50}, {Kind: 2, ID: 1, At: 49}, {Kind: 3, ID: 1, At: 0}, {Kind: 4, ID: 1, At: 51}}, 50, timers{{Kind: 3, ID: 1, At: 0}, {Kind: 2, ID: 1, At: 49}, {Kind: 1, ID: 1, At: 50}}},
		{50, timers{{Kind: 1, ID: 1, At: 50}, {Kind: 2, ID: 1, At: 49}, {Kind: 3, ID: 1, At: 0}, {Kind: 4, ID: 1, At: 51}}, 48, timers{{Kind: 3, ID: 1, At: 0}}},
		{50, timers{{Kind: 1, ID: 1, At: 50}, {Kind: 2, ID: 1, At: 49}}, 48, nil},
		{end, timers{{Kind: 1, ID: 1, At: end}, {Kind: 2, ID: 1, At: 3}, {Kind: 1, ID: 2, At: 3}}, end, timers{{Kind: 1, ID: 2, At: 3}, {Kind: 2, ID: 1, At: 3}, {Kind: 1, ID: 1, At: end}}},
		{0, timers{{Kind: 1, ID: 1, At: end}, {Kind: 2, ID: 1, At: end - 1}}, end, timers{{Kind: 2, ID: 1, At: end - 1}, {Kind: 1, ID: 1, At: end}}},
		{0, timers{{Kind: 1, ID: 1, At: end}}, end - 1, nil},
	}
	for i, x := range rows {
		d, p := filled(t, x.now, x.l)
		for _, want := range x.want {
			if y, ok := d.First(x.to); !ok || y != want {
				t.Fatalf("row %d: %v %v, not %v", i, y, ok, want)
			}
			if p.first(x.to); d.Now() != max(x.now, want.At) {
				t.Fatalf("row %d: now %d", i, d.Now())
			}
			check(t, d, p, []int{0, 1, 2, 3, 4, 5, 7, 8, most})
		}
		for range 2 { // nothing changes then
			if y, ok := d.First(x.to); ok || y != (api.Timer{}) {
				t.Fatalf("row %d: %v %v", i, y, ok)
			}
			check(t, d, p, []int{0, 1, 2, 3, 4, 5, 7, 8, most})
		}
	}
}

// P9.2: what is set, or cleared, between two calls of First counts at once.
func TestFirstBetween(t *testing.T) {
	l := []api.Timer{{Kind: 1, ID: 5, At: 9}, {Kind: 2, ID: 5, At: 9}, {Kind: 3, ID: 5, At: 9}, {Kind: 4, ID: 5, At: 9}, {Kind: 1, ID: 6, At: 12}}
	rows := []struct {
		name string
		do   func(d *Due, p *plain)
		want []api.Timer
	}{
		{"nothing", func(d *Due, p *plain) {}, []api.Timer{l[1], l[2], l[3], l[4]}},
		{"the next one cleared", func(d *Due, p *plain) { d.Clear(2, 5); p.clear(2, 5) }, []api.Timer{l[2], l[3], l[4]}},
		{"one behind it cleared", func(d *Due, p *plain) { d.Clear(3, 5); p.clear(3, 5) }, []api.Timer{l[1], l[3], l[4]}},
		{"all at that tick cleared", func(d *Due, p *plain) {
			for kind := 2; kind <= 4; kind++ {
				d.Clear(kind, 5)
				p.clear(kind, 5)
			}
		}, []api.Timer{l[4]}},
		{"cleared and set", func(d *Due, p *plain) { d.Clear(2, 5); d.Set(2, 5, 9); p.set(2, 5, 9) }, []api.Timer{l[1], l[2], l[3], l[4]}},
		{"cleared and set later", func(d *Due, p *plain) { d.Clear(2, 5); d.Set(2, 5, 10); p.set(2, 5, 10) }, []api.Timer{l[2], l[3], {Kind: 2, ID: 5, At: 10}, l[4]}},
		{"set later", func(d *Due, p *plain) { d.Set(2, 5, 13); p.set(2, 5, 13) }, []api.Timer{l[2], l[3], l[4], {Kind: 2, ID: 5, At: 13}}},
		{"set later, and back", func(d *Due, p *plain) { d.Set(4, 5, 13); d.Set(4, 5, 9) }, []api.Timer{l[1], l[2], l[3], l[4]}},
		{"set ahead", func(d *Due, p *plain) { d.Set(4, 5, 8); p.set(4, 5, 8) }, []api.Timer{{Kind: 4, ID: 5, At: 8}, l[1], l[2], l[4]}},
		{"set at its own tick", func(d *Due, p *plain) { d.Set(2, 5, 9) }, []api.Timer{l[1], l[2], l[3], l[4]}},
		{"a new one at that tick", func(d *Due, p *plain) { d.Set(1, 4, 9); p.set(1, 4, 9) }, []api.Timer{{Kind: 1, ID: 4, At: 9}, l[1], l[2], l[3], l[4]}},
		{"a new one between", func(d *Due, p *plain) { d.Set(2, 6, 9); p.set(2, 6, 9) }, []api.Timer{l[1], {Kind: 2, ID: 6, At: 9}, l[2], l[3], l[4]}},
		{"the one that was told", func(d *Due, p *plain) { d.Set(1, 5, 9); p.set(1, 5, 9) }, l},
		{"a wrong one", func(d *Due, p *plain) { d.Set(1, -5, 9); d.Set(5, 5, 9); d.Clear(2, -5) }, []api.Timer{l[1], l[2], l[3], l[4]}},
		{"on, but nothing may", func(d *Due, p *plain) { d.Go(9); d.Go(20); d.Go(8); d.First(8) }, []api.Timer{l[1], l[2], l[3], l[4]}},
	}
	for _, x := range rows {
		d, p := filled(t, 0, l)
		d.First(9)
		p.first(9)
		x.do(d, p)
		check(t, d, p, []int{4, 5, 6})
		for i, want := range x.want {
			if y, ok := d.First(13); !ok || y != want {
				t.Fatalf("%s: %d: %v %v, not %v", x.name, i, y, ok, want)
			}
			p.first(13)
			check(t, d, p, []int{4, 5, 6})
		}
		if y, ok := d.First(end); ok {
			t.Errorf("%s: %v", x.name, y)
		}
	}
}

// P9.2: Go, if nothing is due at that tick, or ahead of it; Now never falls.
func TestGo(t *testing.T) {
	d, p := New(5), &plain{now: 5}
	step := func(to uint64, want bool) {
		t.Helper()
		if ok := d.Go(to); ok != want || p.goOn(to) != want {
			t.Fatalf("Go(%d): %v", to, ok)
		}
		check(t, d, p, []int{0, 1, 2})
	}
	for _, to := range []uint64{5, 4, 0, 6, 5, 16, 15, 300} {
		step(to, true)
	}
	d.Set(4, 0, 310)
	p.set(4, 0, 310)
	for _, to := range []uint64{300, 299, 0, 301, 309, 309, 20} {
		step(to, true)
	}
	for _, to := range []uint64{310, 311, 1 << 40, end} {
		step(to, false)
	}
	d.Set(2, 1, 100)
	p.set(2, 1, 100)
	for _, to := range []uint64{100, 309, 101, 310, end} { // one that is due ahead of now bars what is not ahead of itself
		step(to, false)
	}
	step(99, true)
	step(0, true)
	for range 2 {
		d.First(end)
		p.first(end)
	}
	step(310, true)
	d.Set(1, 2, end)
	p.set(1, 2, end)
	step(end-1, true)
	step(end, false)
	d.Clear(1, 2)
	p.clear(1, 2)
	step(end, true)
	step(0, true)
	d.Set(1, 2, 0)
	p.set(1, 2, 0)
	step(0, false)
	step(end, false)
}

// tick is a tick that may lie anywhere, and mostly about near.
func tick(r *rand.Rand, near uint64) uint64 {
	far := r.Uint64() >> r.Intn(65)
	switch r.Intn(8) {
	case 0:
		return far
	case 1:
		return near
	case 2:
		return near - min(near, uint64(r.Intn(20)))
	case 3:
		return near + min(end-near, far)
	}
	return near + min(end-near, uint64(r.Intn(12)))
}

// P9.1 and P9.2: of any calls, one behind the other, it tells what a plain list tells.
func TestAny(t *testing.T) {
	r := rand.New(rand.NewSource(2))
	told, on := 0, 0
	for range 600 {
		now := tick(r, []uint64{0, 20, 250, 1 << 20, 1 << 63, end - 30, end}[r.Intn(7)])
		d, p := New(now), &plain{now: now}
		ids := []int{-1, 0, 1, 2, most - 1, most, most + 1}[:r.Intn(6)+2]
		for range 150 {
			kind, id := r.Intn(6), ids[r.Intn(len(ids))]
			near := p.now
			if x, ok := p.least(); ok && r.Intn(2) == 0 {
				near = x.At
			}
			at := tick(r, near)
			switch r.Intn(10) {
			case 0, 1:
				for range r.Intn(6) {
					x, ok := d.First(at)
					if want, there := p.first(at); x != want || ok != there {
						t.Fatalf("First(%d): %v %v, not %v %v", at, x, ok, want, there)
					}
					if ok {
						told++
					}
				}
			case 2:
				ok := d.Go(at)
				if ok != p.goOn(at) {
					t.Fatalf("Go(%d): %v", at, ok)
				}
				if ok {
					on++
				}
			case 3:
				if ok := d.Clear(kind, id); ok != p.clear(kind, id) {
					t.Fatalf("Clear(%d, %d): %v", kind, id, ok)
				}
			default:
				if e := d.Set(kind, id, at); e != p.set(kind, id, at) {
					t.Fatalf("Set(%d, %d, %d): %d", kind, id, at, e)
				}
			}
			if r.Intn(2) == 0 { // not always: what is asked must not be what makes it right
				check(t, d, p, ids)
			}
		}
		check(t, d, p, ids)
	}
	if told < 10000 || on < 1000 {
		t.Errorf("but %d were told, and %d times on", told, on)
	}
}

// P9.3: again and again, up to a tick, First tells all by rising ticks, kinds and numbers, also when what is not due is cleared, or one goes on, between.
func TestRising(t *testing.T) {
	r := rand.New(rand.NewSource(3))
	for range 500 {
		now := tick(r, 1000)
		var l []api.Timer
		for range r.Intn(200) {
			l = append(l, api.Timer{Kind: r.Intn(4) + 1, ID: r.Intn(30), At: tick(r, now)})
		}
		d, p := filled(t, now, l)
		to := tick(r, now)
		want := slices.DeleteFunc(slices.Clone(p.all), func(x api.Timer) bool { return x.At > to })
		slices.SortFunc(want, order)
		if out := all(d, to); !slices.Equal(out, want) || d.Len() != len(p.all)-len(want) {
			t.Fatalf("%v, not %v", out, want)
		}
		if !d.Go(to) || d.Now() != max(now, to) {
			t.Fatalf("Go(%d): now %d", to, d.Now())
		}
		rest := slices.DeleteFunc(p.all, func(x api.Timer) bool { return x.At <= to })
		slices.SortFunc(rest, order)
		if out := all(d, end); !slices.Equal(out, rest) || d.Len() != 0 {
			t.Fatalf("%v, not %v", out, rest)
		}
	}
}

// P9.3: of very many, at one tick, at many, or behind now, too.
func TestMany(t *testing.T) {
	const n = 50000
	for _, spread := range []uint64{1, 7, n, 1 << 40} {
		for _, now := range []uint64{0, end} {
			d := New(now)
			var want []api.Timer
			for id := range n {
				want = append(want, api.Timer{Kind: id%4 + 1, ID: id, At: uint64(id) * 7919 % spread})
				d.Set(id%4+1, id, want[id].At)
			}
			slices.SortFunc(want, order)
			if out := all(d, end); !slices.Equal(out, want) || d.Len() != 0 {
				t.Errorf("spread %d, now %d: not by rising ticks, kinds and numbers", spread, now)
			}
		}
	}
}
