package wheel

import (
	"cmp"
	"math"
	"math/rand"
	"slices"
	"testing"

	"billet/api"
)

// end is the clock's end, top the greatest int, low the least one.
const (
	end = math.MaxUint64
	top = math.MaxInt
	low = math.MinInt
)

// ticks are ticks at which digits turn, and what lies about them.
func ticks() []uint64 {
	l := []uint64{0, 1, 2, 3, 5, 9, 14, 30, 300, 1000, 70000, end - 1, end}
	for b := 1; b < 64; b++ {
		l = append(l, 1<<b-1, 1<<b, 1<<b+1, end-1<<b, end-1<<b+1, end-1<<b+2)
	}
	slices.Sort(l)
	return slices.Compact(l)
}

// tick is a tick that may lie anywhere, of any count of bits alike, and often about near.
func tick(r *rand.Rand, near uint64) uint64 {
	far := r.Uint64() >> r.Intn(65)
	switch r.Intn(6) {
	case 0:
		return far
	case 1:
		return near
	case 2:
		return near - min(near, far)
	case 3:
		return near + min(end-near, far)
	case 4:
		return near ^ 1<<r.Intn(64)
	}
	return near + min(end-near, uint64(r.Intn(40)))
}

// plain is a wheel without slots: all that it has, in no order.
type plain struct {
	now uint64
	all []api.Timer
}

func (p *plain) put(id int, at uint64) api.Errno {
	if id < 0 {
		return api.ErrArg
	}
	if _, there := p.at(id); there {
		return api.ErrThere
	}
	p.all = append(p.all, api.Timer{ID: id, At: at})
	return api.OK
}

func (p *plain) at(id int) (uint64, bool) {
	for _, x := range p.all {
		if x.ID == id {
			return x.At, true
		}
	}
	return 0, false
}

func (p *plain) drop(id int) bool {
	n := len(p.all)
	p.all = slices.DeleteFunc(p.all, func(x api.Timer) bool { return x.ID == id })
	return len(p.all) < n
}

func (p *plain) next() (uint64, bool) {
	if len(p.all) == 0 {
		return 0, false
	}
	return slices.MinFunc(p.all, func(a, b api.Timer) int { return cmp.Compare(a.At, b.At) }).At, true
}

func (p *plain) turn(to uint64) []api.Timer {
	var out, left []api.Timer
	for _, x := range p.all {
		if x.At <= to {
			out = append(out, x)
		} else {
			left = append(left, x)
		}
	}
	p.all, p.now = left, max(p.now, to)
	slices.SortFunc(out, func(a, b api.Timer) int {
		if a.At != b.At {
			return cmp.Compare(a.At, b.At)
		}
		return a.ID - b.ID
	})
	return out
}

// same tells whether two lists of timers are the same, nil or empty.
func same(a, b []api.Timer) bool {
	return slices.Equal(a, b)
}

// check holds all that w tells of itself against p, of numbers below n.
func check(t *testing.T, w *Wheel, p *plain, n int) {
	t.Helper()
	at, ok := w.Next()
	want, there := p.next()
	if w.Now() != p.now || w.Len() != len(p.all) || at != want || ok != there {
		t.Fatalf("Now %d, Len %d, Next %d %v; not %d, %d, %d %v", w.Now(), w.Len(), at, ok, p.now, len(p.all), want, there)
	}
	for id := -1; id < n; id++ {
		at, ok := w.At(id)
		if want, there := p.at(id); at != want || ok != there {
			t.Fatalf("At(%d): %d %v, not %d %v", id, at, ok, want, there)
		}
	}
}

// P8.1: a wheel that is at a tick, and has nothing.
func TestNew(t *testing.T) {
	for _, now := range ticks() {
		w := New(now)
		check(t, w, &plain{now: now}, 5)
		if w.Drop(0) || w.Drop(-1) || w.Drop(top) || w.Drop(low) {
			t.Errorf("New(%d) has something to drop", now)
		}
		if out := w.Turn(end); len(out) != 0 || w.Now() != end {
			t.Errorf("New(%d) turned: %v, %d", now, out, w.Now())
		}
	}
	a, b := New(1), New(1)
	if a.Put(1, 5) != api.OK || b.Len() != 0 || b.Put(1, 6) != api.OK || !a.Drop(1) || b.Len() != 1 || b.Turn(3) != nil || a.Now() != 1 {
		t.Error("two wheels are not their own")
	}
}

// P8.1: what is put is there, due at that tick, wherever that lies.
func TestPut(t *testing.T) {
	for _, now := range []uint64{0, 1, 14, 15, 16, 255, 256, 1 << 20, 1<<32 - 1, 1 << 63, end - 1, end} {
		w, p := New(now), &plain{now: now}
		for id, at := range ticks() {
			if e := w.Put(id, at); e != api.OK || p.put(id, at) != api.OK {
				t.Fatalf("Put(%d, %d): %d", id, at, e)
			}
			one := New(now)
			if e := one.Put(top-id, at); e != api.OK || one.Len() != 1 {
				t.Fatalf("Put(%d, %d): %d", top-id, at, e)
			}
			if n, ok := one.Next(); n != at || !ok {
				t.Fatalf("Next: %d %v, not %d", n, ok, at)
			}
			if n, ok := one.At(top - id); n != at || !ok {
				t.Fatalf("At(%d): %d %v, not %d", top-id, n, ok, at)
			}
		}
		check(t, w, p, len(p.all)+2)
	}
}

// P8.1: what may not be put, ErrArg and ErrThere, changes nothing; what was dropped, or told, may be put again.
func TestPutWrong(t *testing.T) {
	w, p := New(14), &plain{now: 14}
	rows := []struct {
		id   int
		at   uint64
		want api.Errno
	}{
		{-1, 20, api.ErrArg}, {low, 20, api.ErrArg}, {low + 1, 0, api.ErrArg}, {-1 << 32, end, api.ErrArg},
		{0, 20, api.OK}, {0, 20, api.ErrThere}, {0, 5, api.ErrThere}, {0, 0, api.ErrThere}, {0, end, api.ErrThere}, {1, 20, api.OK}, {1, 21, api.ErrThere}, {2, 14, api.OK}, {2, 15, api.ErrThere}, {3, 13, api.OK}, {3, 12, api.ErrThere}, {4, 0, api.OK}, {4, end, api.ErrThere}, {5, end, api.OK}, {5, 0, api.ErrThere}, {-1, 0, api.ErrArg}, {-5, 9, api.ErrArg},
	}
	for _, x := range rows {
		if e, want := w.Put(x.id, x.at), p.put(x.id, x.at); e != x.want || want != x.want {
			t.Errorf("Put(%d, %d): %d, not %d", x.id, x.at, e, x.want)
		}
		check(t, w, p, 8)
	}
	if e := w.Put(top, 50); e != api.OK || w.Put(top, 50) != api.ErrThere || !w.Drop(top) {
		t.Errorf("Put(%d, 50): %d", top, e)
	}
	if !w.Drop(1) || w.Put(1, 90) != api.OK || w.Put(1, 90) != api.ErrThere {
		t.Error("what was dropped may not be put")
	}
	if at, ok := w.At(1); at != 90 || !ok {
		t.Errorf("At(1): %d %v", at, ok)
	}
	if out := w.Turn(20); len(out) != 4 || w.Put(0, 7) != api.OK || w.Put(0, 8) != api.ErrThere {
		t.Errorf("what was told may not be put: %v", out)
	}
	if at, ok := w.Next(); at != 7 || !ok {
		t.Errorf("Next: %d %v", at, ok)
	}
}

// P8.1: what is dropped was there, and is gone: from At, Len, Next and Turn.
func TestDrop(t *testing.T) {
	for _, now := range []uint64{0, 14, 1 << 20, end} {
		w, p := New(now), &plain{now: now}
		l := ticks()
		for i, at := range l {
			if w.Put(2*i, at) != api.OK || w.Put(2*i+1, at) != api.OK || p.put(2*i, at) != api.OK || p.put(2*i+1, at) != api.OK {
				t.Fatal(i)
			}
		}
		for i, id := range rand.New(rand.NewSource(1)).Perm(2 * len(l)) {
			if i%5 == 0 {
				continue
			}
			if !w.Drop(id) || !p.drop(id) || w.Drop(id) || w.Drop(-id-1) || w.Drop(id+top/2) {
				t.Fatalf("Drop(%d)", id)
			}
			check(t, w, p, 2*len(l))
		}
		if out, want := w.Turn(end), p.turn(end); !same(out, want) || len(out) < len(l)/3 {
			t.Fatalf("%v, not %v", out, want)
		}
		check(t, w, p, 2*len(l))
	}
}

// P8.1: the least tick at which something is due, as it comes and goes.
func TestNext(t *testing.T) {
	w := New(100)
	next := func(want uint64) {
		t.Helper()
		if at, ok := w.Next(); at != want || !ok {
			t.Fatalf("%d %v, not %d", at, ok, want)
		}
	}
	for id, at := range []uint64{end, 1 << 40, 5000, 4999, 300, 200, 113, 112, 111, 102, 101, 100, 99, 7, 0} {
		if e := w.Put(id, at); e != api.OK {
			t.Fatal(e)
		}
		next(at)
	}
	for id := 14; id > 0; id-- {
		if !w.Drop(id) {
			t.Fatal(id)
		}
		next([]uint64{end, 1 << 40, 5000, 4999, 300, 200, 113, 112, 111, 102, 101, 100, 99, 7}[id-1])
	}
	if !w.Drop(0) {
		t.Fatal("0")
	}
	if at, ok := w.Next(); at != 0 || ok {
		t.Errorf("%d %v of nothing", at, ok)
	}
	if w.Put(3, 0) != api.OK {
		t.Fatal("3")
	}
	next(0)
}

// P8.1 and P8.2: of nil, ErrState, whatever else is wrong; 0, false, none.
func TestNil(t *testing.T) {
	var w *Wheel
	for _, id := range []int{low, -1, 0, 1, top} {
		at, ok := w.At(id)
		if w.Put(id, 0) != api.ErrState || w.Put(id, end) != api.ErrState || w.Drop(id) || at != 0 || ok {
			t.Errorf("%d", id)
		}
	}
	at, ok := w.Next()
	if w.Now() != 0 || w.Len() != 0 || at != 0 || ok || w.Turn(0) != nil || w.Turn(end) != nil {
		t.Error("nil is no wheel")
	}
}

// P8.2: by rising ticks, then by rising numbers, each of Kind 0, and gone.
func TestTurn(t *testing.T) {
	type put struct {
		id int
		at uint64
	}
	rows := []struct {
		now  uint64
		puts []put
		to   uint64
		want []int
		left int
	}{
		{0, []put{{3, 20}, {1, 20}, {2, 5}}, 20, []int{2, 1, 3}, 0}, {0, []put{{3, 20}, {1, 20}, {2, 5}}, 19, []int{2}, 2}, {0, []put{{3, 20}, {1, 20}, {2, 5}}, 4, nil, 3}, {0, []put{{3, 20}, {1, 20}, {2, 5}}, 5, []int{2}, 2}, {0, []put{{3, 20}, {1, 20}, {2, 5}}, end, []int{2, 1, 3}, 0},
		{0, []put{{top, 16}, {0, 16}, {7, 16}, {20, 16}, {5, 15}}, 16, []int{5, 0, 7, 20, top}, 0}, {0, nil, 20, nil, 0},
		// what is due at now, or ahead of it, is told as soon as its tick is
		{10, []put{{1, 10}, {2, 11}}, 10, []int{1}, 1}, {10, []put{{1, 9}, {2, 10}, {3, 0}}, 10, []int{3, 1, 2}, 0}, {10, []put{{1, 9}, {2, 10}, {3, 0}, {4, 3}}, 3, []int{3, 4}, 2}, {10, []put{{1, 9}, {2, 10}, {3, 0}}, 0, []int{3}, 2}, {10, []put{{1, 9}, {2, 10}}, 8, nil, 2}, {10, []put{{1, 9}, {2, 10}}, 9, []int{1}, 1},
		{300, []put{{1, 299}, {2, 17}, {3, 301}, {4, 17}, {5, 1}}, 299, []int{5, 2, 4, 1}, 1}, {16, []put{{1, 15}, {2, 16}, {3, 1}, {4, 17}}, 15, []int{3, 1}, 2}, {end, []put{{1, end}, {2, 5}, {3, end - 1}}, end - 1, []int{2, 3}, 1}, {end, []put{{1, end}, {2, 5}, {3, end - 1}}, end, []int{2, 3, 1}, 0}, {end, []put{{1, end}, {2, 0}}, 0, []int{2}, 1},
		// where digits turn
		{14, []put{{1, 15}, {2, 16}, {3, 17}}, 16, []int{1, 2}, 1}, {15, []put{{1, 16}, {2, 31}, {3, 32}}, 31, []int{1, 2}, 1}, {15, []put{{1, 16}, {2, 31}, {3, 32}}, 32, []int{1, 2, 3}, 0}, {0, []put{{1, 255}, {2, 256}, {3, 257}}, 256, []int{1, 2}, 1}, {255, []put{{1, 4095}, {2, 4096}, {3, 4097}}, 4096, []int{1, 2}, 1}, {0xfff, []put{{1, 0x1000}, {2, 0x1fff}, {3, 0x2000}}, 0x1ffe, []int{1}, 2},
		{1<<63 - 1, []put{{1, 1 << 63}, {2, 1<<63 - 1}, {3, 1<<63 + 1}, {4, end}}, 1 << 63, []int{2, 1}, 2}, {0, []put{{1, end}, {2, end - 1}, {3, 1 << 63}}, end - 1, []int{3, 2}, 1}, {0, []put{{1, end}}, end, []int{1}, 0}, {end - 1, []put{{1, end}, {2, end - 1}}, end, []int{2, 1}, 0}, {0, []put{{1, 0}, {2, 1}}, 0, []int{1}, 1},
	}
	for i, x := range rows {
		w, p := New(x.now), &plain{now: x.now}
		for _, y := range x.puts {
			if w.Put(y.id, y.at) != api.OK || p.put(y.id, y.at) != api.OK {
				t.Fatal(i)
			}
		}
		out, ids := w.Turn(x.to), []int(nil)
		for _, y := range out {
			ids = append(ids, y.ID)
		}
		if !slices.Equal(ids, x.want) || !same(out, p.turn(x.to)) || w.Len() != x.left || w.Now() != max(x.now, x.to) {
			t.Errorf("row %d: %v, %d left, now %d", i, out, w.Len(), w.Now())
		}
		check(t, w, p, 25)
		for _, y := range out {
			if _, ok := w.At(y.ID); ok || w.Drop(y.ID) {
				t.Errorf("row %d: %d is not gone", i, y.ID)
			}
		}
		if again := w.Turn(x.to); len(again) != 0 {
			t.Errorf("row %d: %v again", i, again)
		}
	}
}

// P8.2: Now never falls, and goes on with nothing due, too.
func TestTurnNow(t *testing.T) {
	w := New(5)
	for _, x := range []struct{ to, want uint64 }{{5, 5}, {4, 5}, {0, 5}, {6, 6}, {5, 6}, {16, 16}, {15, 16}, {16, 16}, {1 << 40, 1 << 40}, {1, 1 << 40}, {end - 1, end - 1}, {end, end}, {end, end}, {0, end}, {end - 1, end}} {
		if out := w.Turn(x.to); len(out) != 0 || w.Now() != x.want {
			t.Errorf("Turn(%d): %v, now %d", x.to, out, w.Now())
		}
	}
}

// P8.2: what is told is the caller's own: w does not change it, and is not changed by it.
func TestTurnOwn(t *testing.T) {
	w := New(0)
	fill := func() {
		for id := range 20 {
			w.Put(id, uint64(id))
		}
	}
	fill()
	a := w.Turn(9)
	kept := slices.Clone(a)
	fill()
	b := w.Turn(9)
	if len(a) != 10 || !same(a, kept) || !same(a, b) {
		t.Errorf("%v, %v, not %v", a, b, kept)
	}
	for i := range b {
		b[i] = api.Timer{Kind: 5, ID: i + 10, At: end}
	}
	if at, ok := w.Next(); at != 10 || !ok || !same(a, kept) || len(w.Turn(end)) != 10 {
		t.Errorf("%d %v, %v", at, ok, a)
	}
}

// P8.1 and P8.2: of any calls, one behind the other, a wheel tells what a plain list tells.
func TestAny(t *testing.T) {
	l := ticks()
	r := rand.New(rand.NewSource(2))
	told := 0
	for range 400 {
		now := l[r.Intn(len(l))]
		w, p := New(now), &plain{now: now}
		n := r.Intn(60) + 1
		for range 200 {
			id := r.Intn(n+1) - 1
			switch r.Intn(8) {
			case 0:
				to := tick(r, p.now)
				if next, ok := p.next(); ok && r.Intn(2) == 0 { // what lies about the next one
					to = next + min(end-next, 1) - min(end-next+1, uint64(r.Intn(3)))
				}
				out, want := w.Turn(to), p.turn(to)
				if !same(out, want) {
					t.Fatalf("Turn(%d): %v, not %v", to, out, want)
				}
				told += len(out)
			case 1:
				if ok := w.Drop(id); ok != p.drop(id) {
					t.Fatalf("Drop(%d): %v", id, ok)
				}
			default:
				at := tick(r, p.now)
				if e := w.Put(id, at); e != p.put(id, at) {
					t.Fatalf("Put(%d, %d): %d", id, at, e)
				}
			}
			check(t, w, p, n)
		}
	}
	if told < 10000 {
		t.Errorf("but %d were told", told)
	}
}

// filled is a wheel, and a plain list, with the same numbers, most of them due soon behind now.
func filled(r *rand.Rand, now, span uint64) (*Wheel, *plain) {
	w, p := New(now), &plain{now: now}
	for id := range r.Intn(80) {
		at := now + min(end-now, r.Uint64()%span)
		if r.Intn(8) == 0 {
			at = tick(r, now)
		}
		w.Put(id, at)
		p.put(id, at)
	}
	return w, p
}

// P8.3: turned in two pieces, or in many, a wheel tells the same as turned at once.
func TestPieces(t *testing.T) {
	l := ticks()
	r := rand.New(rand.NewSource(3))
	for range 3000 {
		now, span := l[r.Intn(len(l))], uint64(1)<<r.Intn(64)
		w, p := filled(r, now, span)
		to := now + min(end-now, r.Uint64()%span)
		var out []api.Timer
		pieces := []uint64{to}
		for range r.Intn(5) {
			pieces = append(pieces, min(to, tick(r, now)), now+r.Uint64()%(to-now|1))
		}
		slices.Sort(pieces)
		for _, piece := range pieces {
			out = append(out, w.Turn(piece)...)
		}
		if want := p.turn(to); !same(out, want) {
			t.Fatalf("from %d to %d: %v, not %v", now, to, out, want)
		}
		check(t, w, p, 80)
	}
}

// P8.3: turned tick by tick, a wheel tells each number at its own tick, and the same as turned at once.
func TestTickByTick(t *testing.T) {
	r := rand.New(rand.NewSource(4))
	for _, now := range []uint64{0, 1, 14, 15, 16, 240, 250, 255, 256, 4000, 4090, 4095, 4096, 65530, 1<<20 - 7, 1<<32 - 300, 1<<63 - 256, end - 500, end - 299} {
		w, p := filled(r, now, 300)
		var out []api.Timer
		for n := range uint64(299) {
			for _, x := range w.Turn(now + n) {
				if max(x.At, now) != now+n {
					t.Fatalf("%v at %d", x, now+n)
				}
				out = append(out, x)
			}
			if w.Now() != now+n {
				t.Fatalf("now %d, not %d", w.Now(), now+n)
			}
		}
		if want := p.turn(now + 298); !same(out, want) {
			t.Fatalf("from %d on: %v, not %v", now, out, want)
		}
		check(t, w, p, 80)
	}
}

// P8.3: turned from each next tick to the next one, a wheel tells all that it has, and Next what comes.
func TestNextByNext(t *testing.T) {
	l := ticks()
	r := rand.New(rand.NewSource(5))
	for range 300 {
		now := l[r.Intn(len(l))]
		w, p := filled(r, now, 1<<r.Intn(64))
		for {
			at, ok := w.Next()
			if !ok {
				break
			}
			out := w.Turn(at)
			if want := p.turn(at); !same(out, want) || len(out) == 0 || out[0].At != at {
				t.Fatalf("Turn(%d): %v, not %v", at, out, want)
			}
		}
		if len(p.all) != 0 || w.Len() != 0 {
			t.Fatalf("%v left", p.all)
		}
	}
}
