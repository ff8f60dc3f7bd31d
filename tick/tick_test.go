package tick

import (
	"math"
	"math/big"
	"math/rand"
	"testing"
)

// top is the greatest int, low the least one.
const (
	top = math.MaxInt
	low = math.MinInt
)

// ticks are ticks at which words and halves of them turn, ints the same of ints.
var (
	ticks = []uint64{0, 1, 2, 3, 5, 1<<32 - 1, 1 << 32, 1<<63 - 2, 1<<63 - 1, 1 << 63, 1<<63 + 1, end - top - 1, end - top, end - top + 1, end - 5, end - 2, end - 1, end}
	ints  = []int{low, low + 1, -1 << 32, -2, -1, 0, 1, 2, 3, 4, 5, 7, 8, 9, 1<<20 - 1, 1 << 20, 1<<20 + 1, 1<<31 - 1, 1 << 31, 1 << 32, 1<<61 + 1, 1<<62 - 1, 1 << 62, 1<<62 + 1, top - 1, top}
)

// some is a random number from 0 on, of any count of bits alike.
func some(r *rand.Rand) uint64 {
	if r.Intn(4) == 0 {
		return ticks[r.Intn(len(ticks))]
	}
	return r.Uint64() >> r.Intn(65)
}

// number is a random int, mostly from 0 on.
func number(r *rand.Rand) int {
	if r.Intn(4) == 0 {
		return ints[r.Intn(len(ints))]
	}
	n := int(some(r) >> 1)
	if r.Intn(8) == 0 {
		return -n
	}
	return n
}

// P6.1: the tick that comes n ticks behind now.
func TestAdd(t *testing.T) {
	rows := []struct {
		now  uint64
		n    int
		want uint64
	}{
		{0, 0, 0}, {0, 1, 1}, {5, 0, 5}, {5, 3, 8}, {3, 5, 8}, {7, 1 << 20, 1<<20 + 7}, {1<<32 - 1, 1, 1 << 32}, {0, top, 1<<63 - 1}, {1, top, 1 << 63}, {1 << 63, 1, 1<<63 + 1},
		// at most the clock's end
		{end - 1, 5, end}, {end, 0, end}, {end, 1, end}, {end, top, end}, {end - 5, 4, end - 1}, {end - 5, 5, end}, {end - 5, 6, end}, {end - 1, 0, end - 1}, {end - 1, 1, end}, {end - 1, 2, end}, {end - 1, top, end},
		{1 << 63, top, end}, {1<<63 + 1, top, end}, {1<<63 - 1, top, end - 1}, {1 << 63, top - 1, end - 1},
		// now, if n is below 0
		{0, -1, 0}, {0, low, 0}, {5, -1, 5}, {5, -5, 5}, {5, low, 5}, {5, low + 1, 5}, {1 << 63, low, 1 << 63}, {1 << 63, -top, 1 << 63}, {end, -1, end}, {end, low, end}, {end - 1, -1, end - 1},
	}
	for _, x := range rows {
		if at := Add(x.now, x.n); at != x.want {
			t.Errorf("Add(%d, %d): %d", x.now, x.n, at)
		}
	}
}

// P6.1: of all edges, and of any numbers, Add tells the sum, and at most the clock's end.
func TestAddAny(t *testing.T) {
	last := new(big.Int).SetUint64(end)
	count := map[bool]int{}
	check := func(now uint64, n int) {
		want := new(big.Int).SetUint64(now)
		if n >= 0 {
			want.Add(want, big.NewInt(int64(n)))
			count[want.Cmp(last) > 0]++
		}
		if want.Cmp(last) > 0 {
			want = last
		}
		if at := Add(now, n); at != want.Uint64() {
			t.Fatalf("Add(%d, %d): %d, not %d", now, n, at, want)
		}
	}
	for _, now := range ticks {
		for _, n := range ints {
			check(now, n)
		}
	}
	r := rand.New(rand.NewSource(1))
	for range 20000 {
		now, n := some(r), number(r)
		check(now, n)
		check(end-now, n)
		if now <= top { // what lies about the clock's end
			check(end-now, int(now))
			check(end-now, max(int(now), 1)-1)
			check(end-now, min(int(now), top-1)+1)
		}
	}
	if count[true] < 3000 || count[false] < 3000 {
		t.Errorf("%v", count)
	}
}

// P6.1: how many ticks there are from now to at.
func TestLeft(t *testing.T) {
	rows := []struct{ now, at, want uint64 }{
		{3, 5, 2}, {0, 1, 1}, {0, 7, 7}, {6, 7, 1}, {0, end, end}, {1, end, end - 1}, {end - 1, end, 1}, {1 << 63, end, 1<<63 - 1}, {1<<63 - 1, 1 << 63, 1}, {0, 1 << 63, 1 << 63}, {0, end - 1, end - 1},
		// 0, if at is not behind now
		{0, 0, 0}, {5, 5, 0}, {end, end, 0}, {5, 3, 0}, {1, 0, 0}, {end, 0, 0}, {end, end - 1, 0}, {end, 1 << 63, 0}, {1 << 63, 1<<63 - 1, 0}, {1 << 63, 0, 0},
	}
	for _, x := range rows {
		if n := Left(x.now, x.at); n != x.want {
			t.Errorf("Left(%d, %d): %d", x.now, x.at, n)
		}
	}
}

// P6.1: of all edges, and of any ticks, what is left of one way is at behind now, and nothing is of the other; what Add adds is left.
func TestLeftAny(t *testing.T) {
	check := func(now, at uint64) {
		want := new(big.Int).SetUint64(at)
		want.Sub(want, new(big.Int).SetUint64(now))
		if want.Sign() < 0 {
			want = new(big.Int)
		}
		if n := Left(now, at); n != want.Uint64() {
			t.Fatalf("Left(%d, %d): %d, not %d", now, at, n, want)
		}
	}
	for _, now := range ticks {
		for _, at := range ticks {
			check(now, at)
		}
	}
	r := rand.New(rand.NewSource(2))
	for range 20000 {
		now, at := some(r), some(r)
		check(now, at)
		check(at, now)
		check(now, now)
		n := int(at >> 1)
		if left := Left(now, Add(now, n)); left != min(uint64(n), end-now) {
			t.Fatalf("Left of Add(%d, %d): %d", now, n, left)
		}
	}
}

// P6.2: base, doubled n - 1 times, but at most most.
func TestWait(t *testing.T) {
	rows := []struct {
		base, most int
		want       []int // of n from 1 on
	}{
		{3, 20, []int{3, 6, 12, 20, 20, 20}}, {3, 24, []int{3, 6, 12, 24, 24}}, {3, 25, []int{3, 6, 12, 24, 25, 25}}, {3, 23, []int{3, 6, 12, 23, 23}}, {1, 1, []int{1, 1, 1}}, {1, 2, []int{1, 2, 2}}, {1, 3, []int{1, 2, 3, 3}}, {1, 4, []int{1, 2, 4, 4}}, {1, 8, []int{1, 2, 4, 8, 8}}, {5, 1000, []int{5, 10, 20, 40, 80, 160, 320, 640, 1000, 1000}},
		// base is not below most
		{20, 20, []int{20, 20, 20}}, {21, 20, []int{20, 20, 20}}, {9, 4, []int{4, 4}}, {9, 1, []int{1, 1}}, {top, 1, []int{1, 1, 1}}, {top, top - 1, []int{top - 1, top - 1}},
		// the double does not fit
		{top, top, []int{top, top, top}}, {top - 1, top, []int{top - 1, top, top}}, {1 << 62, top, []int{1 << 62, top, top}}, {1<<62 - 1, top, []int{1<<62 - 1, top - 1, top, top}}, {1 << 61, top, []int{1 << 61, 1 << 62, top, top}}, {1<<62 + 1, 1<<62 + 2, []int{1<<62 + 1, 1<<62 + 2, 1<<62 + 2}}, {3 << 60, top, []int{3 << 60, 3 << 61, top}}, {3 << 60, 7 << 60, []int{3 << 60, 6 << 60, 7 << 60, 7 << 60}},
	}
	for _, x := range rows {
		for i, want := range x.want {
			if n := Wait(x.base, x.most, i+1); n != want {
				t.Errorf("Wait(%d, %d, %d): %d, not %d", x.base, x.most, i+1, n, want)
			}
		}
	}
}

// P6.2: what waits any number of times ends, and the greatest power of two is there.
func TestWaitLong(t *testing.T) {
	rows := []struct{ base, most, n, want int }{
		{3, 20, 1000, 20}, {3, 20, top, 20}, {1, 1, top, 1}, {1, 2, top, 2}, {9, 4, top, 4}, {1, top, top, top}, {top, top, top, top}, {1, top, 62, 1 << 61}, {1, top, 63, 1 << 62}, {1, top, 64, top}, {1, top, 65, top}, {1, top - 1, 64, top - 1}, {1, 1<<62 + 1, 63, 1 << 62}, {1, 1<<62 + 1, 64, 1<<62 + 1},
		{1, 1 << 62, 62, 1 << 61}, {1, 1 << 62, 63, 1 << 62}, {1, 1 << 62, 64, 1 << 62}, {1, 1<<62 - 1, 63, 1<<62 - 1}, {1, 1 << 20, 20, 1 << 19}, {1, 1 << 20, 21, 1 << 20}, {1, 1 << 20, 22, 1 << 20}, {3, top, 61, 3 << 60}, {3, top, 62, 3 << 61}, {3, top, 63, top}, {5, top, 61, 5 << 60}, {5, top, 62, top},
	}
	for _, x := range rows {
		if n := Wait(x.base, x.most, x.n); n != x.want {
			t.Errorf("Wait(%d, %d, %d): %d, not %d", x.base, x.most, x.n, n, x.want)
		}
	}
}

// P6.2: 0, if a number is below 1, whatever the others are.
func TestWaitNone(t *testing.T) {
	for _, bad := range []int{0, -1, -2, -1 << 32, low + 1, low} {
		for _, a := range ints {
			for _, b := range ints {
				if m, n, o := Wait(bad, a, b), Wait(a, bad, b), Wait(a, b, bad); m != 0 || n != 0 || o != 0 {
					t.Fatalf("%d, %d, %d: %d, %d, %d", bad, a, b, m, n, o)
				}
			}
			if m, n := Rounds(bad, a), Rounds(a, bad); m != 0 || n != 0 {
				t.Fatalf("%d, %d: %d, %d rounds", bad, a, m, n)
			}
		}
	}
}

// wait works Wait out by a number without bounds, that is shifted.
func wait(base, most, n int) int {
	if base < 1 || most < 1 || n < 1 {
		return 0
	}
	v := big.NewInt(int64(base))
	v.Lsh(v, uint(min(n-1, 100)))
	if m := big.NewInt(int64(most)); v.Cmp(m) > 0 {
		return most
	}
	return int(v.Int64())
}

// P6.2: of all small numbers, of all edges, and of any numbers, Wait tells what the shifted number tells.
func TestWaitAny(t *testing.T) {
	count := map[bool]int{}
	check := func(base, most, n int) {
		want := wait(base, most, n)
		if want > 0 {
			count[want == most]++
		}
		if v := Wait(base, most, n); v != want {
			t.Fatalf("Wait(%d, %d, %d): %d, not %d", base, most, n, v, want)
		}
	}
	for base := range 20 {
		for most := range 80 {
			for n := range 10 {
				check(base-1, most-1, n-1)
			}
		}
	}
	for _, base := range ints {
		for _, most := range ints {
			for _, n := range ints {
				check(base, most, n)
			}
			for n := range 70 {
				check(base, most, n)
			}
		}
	}
	r := rand.New(rand.NewSource(3))
	for range 20000 {
		base, most := number(r), number(r)
		check(base, most, number(r))
		check(base, most, r.Intn(66))
		base, n := max(base>>r.Intn(63), 1), r.Intn(8)+1 // and a most that lies about what was doubled
		if v := wait(base, top, n); v < top {
			check(base, v-1, n)
			check(base, v, n)
			check(base, v+1, n)
			check(base, v+1, n+1)
		}
	}
	if count[true] < 3000 || count[false] < 3000 {
		t.Errorf("%v", count)
	}
}

// P6.2: the least n of which Wait is most.
func TestRounds(t *testing.T) {
	rows := []struct{ base, most, want int }{
		{3, 20, 4}, {3, 24, 4}, {3, 25, 5}, {3, 12, 3}, {3, 13, 4}, {3, 6, 2}, {3, 7, 3}, {3, 4, 2}, {3, 3, 1}, {3, 2, 1}, {3, 1, 1}, {9, 4, 1},
		{1, 1, 1}, {1, 2, 2}, {1, 3, 3}, {1, 4, 3}, {1, 5, 4}, {1, 1 << 20, 21}, {1, 1<<20 + 1, 22}, {1, 1<<20 - 1, 21}, {2, 1 << 20, 20}, {1 << 20, 1 << 20, 1}, {1<<20 - 1, 1 << 20, 2},
		{1, 1 << 62, 63}, {1, 1<<62 - 1, 63}, {1, 1<<62 + 1, 64}, {1, top, 64}, {2, top, 63}, {3, top, 63}, {4, top, 62}, {1 << 62, top, 2}, {1<<62 - 1, top, 3}, {1<<62 + 1, top, 2}, {1 << 61, top, 3}, {top - 1, top, 2}, {top, top, 1}, {top, top - 1, 1}, {top, 1, 1},
		{0, 0, 0}, {0, 1, 0}, {1, 0, 0}, {0, top, 0}, {top, 0, 0}, {-1, 5, 0}, {5, -1, 0}, {-1, -1, 0}, {low, top, 0}, {top, low, 0}, {low, low, 0},
	}
	for _, x := range rows {
		if n := Rounds(x.base, x.most); n != x.want {
			t.Errorf("Rounds(%d, %d): %d, not %d", x.base, x.most, n, x.want)
		}
	}
}

// P6.2: of all small numbers, of all edges, and of any numbers, Rounds tells the first n at which the shifted number is most.
func TestRoundsAny(t *testing.T) {
	count := map[int]int{}
	check := func(base, most int) {
		want := 0
		if base > 0 && most > 0 {
			want = 1
			for wait(base, most, want) != most {
				want++
			}
		}
		count[want]++
		if n := Rounds(base, most); n != want {
			t.Fatalf("Rounds(%d, %d): %d, not %d", base, most, n, want)
		}
	}
	for base := range 70 {
		for most := range 300 {
			check(base-1, most-1)
		}
	}
	for _, base := range ints {
		for _, most := range ints {
			check(base, most)
		}
	}
	for i := range 63 {
		for j := range 63 {
			for n := range 3 {
				check(1<<i-1+n, 1<<j)
				check(1<<i, 1<<j-1+n)
			}
		}
	}
	r := rand.New(rand.NewSource(4))
	for range 20000 {
		check(number(r), number(r))
	}
	for n := range 65 {
		if count[n] < 1 {
			t.Errorf("nothing takes %d rounds", n)
		}
	}
}

// P6.3: Wait never falls with n, and is at most twice what it was ahead; it rises till Rounds, and not behind that.
func TestSteps(t *testing.T) {
	check := func(base, most int) {
		rounds, before := Rounds(base, most), Wait(base, most, 1)
		for n := 2; n < 70; n++ {
			v := Wait(base, most, n)
			if v < before || v-before > before || (v > before) != (n <= rounds) {
				t.Fatalf("Wait(%d, %d, %d): %d behind %d", base, most, n, v, before)
			}
			before = v
		}
		if before != Wait(base, most, top) || before < Wait(base, most, 0) {
			t.Fatalf("Wait(%d, %d): %d falls", base, most, before)
		}
	}
	for base := range 40 {
		for most := range 80 {
			check(base, most)
		}
	}
	for _, base := range ints {
		for _, most := range ints {
			check(base, most)
		}
	}
	r := rand.New(rand.NewSource(5))
	for range 5000 {
		check(number(r), number(r))
	}
}
