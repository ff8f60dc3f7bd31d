package frac

import (
	"math"
	"math/big"
	"math/rand"
	"testing"
)

// great is the greatest number of 64 bits, top the greatest one that Near takes.
const (
	great = math.MaxUint64
	top   = 1<<20 - 1
)

// edges are numbers at which words, halves of words and Near's bound turn.
var edges = []uint64{
	0, 1, 2, 3, 5, 7, top - 1, top, top + 1, 1<<31 - 1, 1 << 31, 1<<32 - 1, 1 << 32, 1<<32 + 1,
	1<<62 - 1, 1 << 62, 1<<63 - 1, 1 << 63, 1<<63 + 1, great - 2, great - 1, great,
}

// whole is v as a number without bounds.
func whole(v uint64) *big.Int { return new(big.Int).SetUint64(v) }

// times is a b.
func times(a, b uint64) *big.Int { return new(big.Int).Mul(whole(a), whole(b)) }

// some is a random number, of any count of bits alike.
func some(r *rand.Rand) uint64 {
	if r.Intn(4) == 0 {
		return edges[r.Intn(len(edges))]
	}
	return r.Uint64() >> r.Intn(65)
}

// P5.1: how fractions stand to each other.
func TestCompare(t *testing.T) {
	rows := []struct {
		a, b, c, d uint64
		want       int
	}{
		{1, 3, 2, 6, 0}, {1, 2, 1, 3, 1}, {1, 3, 1, 2, -1}, {7, 7, 9, 9, 0}, {0, 1, 0, 9, 0}, {0, 1, 1, great, -1}, {1, great, 0, 1, 1},
		{1, 1, great, great, 0}, {great, great, great, great, 0}, {great, 1, great, 1, 0}, {great, 1, great - 1, 1, 1}, {great - 1, 1, great, 1, -1},
		// the high words tell it, whatever the low ones say
		{1 << 63, 1 << 62, 1 << 62, 1 << 61, 0}, {1 << 32, 1, great, 1 << 32, 1}, {great, 1 << 32, 1 << 32, 1, -1}, {1 << 32, 1, 1, 1 << 32, 1}, {1, 1 << 32, 1 << 32, 1, -1},
		// the high words are the same, and the low ones tell it
		{great, great - 1, great - 1, great - 2, -1}, {great - 1, great - 2, great, great - 1, 1}, {1 << 63, 1<<63 - 1, 1<<63 + 1, 1 << 63, 1}, {1 << 63, 1<<63 + 1, 1<<63 - 1, 1 << 63, 1},
		// what has no fraction is told by the products too
		{0, 0, 0, 0, 0}, {1, 0, 1, 0, 0}, {1, 0, 1, 1, 1}, {0, 1, 1, 0, -1}, {0, 0, great, 0, 0}, {1, 1, 1, 0, -1}, {great, 0, 0, great, 1},
	}
	for _, x := range rows {
		if n := Compare(x.a, x.b, x.c, x.d); n != x.want {
			t.Errorf("Compare(%d, %d, %d, %d): %d", x.a, x.b, x.c, x.d, n)
		}
	}
}

// P5.1: of all edges, and of any numbers, Compare tells what the whole products tell.
func TestCompareAny(t *testing.T) {
	check := func(a, b, c, d uint64) {
		if n, want := Compare(a, b, c, d), times(a, d).Cmp(times(b, c)); n != want {
			t.Fatalf("Compare(%d, %d, %d, %d): %d, not %d", a, b, c, d, n, want)
		}
	}
	for _, a := range edges {
		for _, b := range edges {
			for _, c := range edges {
				for _, d := range edges {
					check(a, b, c, d)
				}
			}
		}
	}
	r := rand.New(rand.NewSource(1))
	for range 20000 {
		a, b := some(r), some(r)
		check(a, b, some(r), some(r))
		n := uint64(r.Intn(9)) + 1 // one fraction in two forms, and what lies close by
		a, b = a>>5, b>>5
		for _, m := range []uint64{0, 1, great} {
			check(a, b, a*n+m, b*n)
			check(a*n, b*n+m, a, b)
		}
	}
}

// P5.1: the least whole number that is not below a/b.
func TestCeil(t *testing.T) {
	rows := []struct{ a, b, want uint64 }{
		{7, 2, 4}, {6, 3, 2}, {7, 3, 3}, {8, 3, 3}, {9, 3, 3}, {10, 3, 4}, {0, 1, 0}, {0, 7, 0}, {1, 1, 1}, {1, 2, 1}, {1, great, 1},
		{great, 1, great}, {great, 2, 1 << 63}, {great - 1, 2, 1<<63 - 1}, {great, 3, great / 3}, {great, great, 1}, {great, great - 1, 2}, {great - 1, great, 1}, {great, 1 << 63, 2}, {1 << 63, 1 << 63, 1},
		{0, 0, 0}, {1, 0, 0}, {great, 0, 0},
	}
	for _, x := range rows {
		if n := Ceil(x.a, x.b); n != x.want {
			t.Errorf("Ceil(%d, %d): %d", x.a, x.b, n)
		}
	}
}

// P5.1: of all edges, and of any numbers, Ceil b is not below a, and one less is.
func TestCeilAny(t *testing.T) {
	check := func(a, b uint64) {
		n := Ceil(a, b)
		if b == 0 && n != 0 || b > 0 && times(n, b).Cmp(whole(a)) < 0 {
			t.Fatalf("Ceil(%d, %d): %d", a, b, n)
		}
		if n > 0 && times(n-1, b).Cmp(whole(a)) >= 0 {
			t.Fatalf("Ceil(%d, %d): %d, and one less would do", a, b, n)
		}
	}
	for _, a := range edges {
		for _, b := range edges {
			check(a, b)
		}
	}
	r := rand.New(rand.NewSource(2))
	for range 20000 {
		check(some(r), some(r))
	}
}

// P5.1: the greatest whole number that is not above a b / c.
func TestScale(t *testing.T) {
	rows := []struct{ a, b, c, want uint64 }{
		{6, 7, 2, 21}, {5, 5, 2, 12}, {5, 5, 3, 8}, {5, 5, 26, 0}, {5, 5, 25, 1}, {0, 9, 3, 0}, {9, 0, 3, 0}, {0, 0, 1, 0}, {1, 1, great, 0},
		{1 << 63, 4, 8, 1 << 62}, {great, great, great, great}, {great, 3, 3, great}, {great, 1, 1, great}, {great - 1, great, great, great - 1}, {great, great - 1, great, great - 1},
		{1 << 32, 1 << 32, 2, 1 << 63}, {1 << 32, 1 << 32, 1<<32 + 1, 1<<32 - 1},
		// from 2^64 on it is told as 2^64 - 1
		{1 << 63, 4, 1, great}, {1 << 63, 4, 2, great}, {1 << 63, 2, 1, great}, {1 << 32, 1 << 32, 1, great}, {great, great, 1, great}, {great, great, great - 1, great}, {great, great, great - 2, great}, {great, 2, 1, great}, {great, 4, 3, great},
		{great, 2, 3, 12297829382473034410}, {1 << 63, 6, 4, 3 << 62},
		{5, 5, 0, 0}, {0, 0, 0, 0}, {great, great, 0, 0},
	}
	for _, x := range rows {
		if n := Scale(x.a, x.b, x.c); n != x.want {
			t.Errorf("Scale(%d, %d, %d): %d", x.a, x.b, x.c, n)
		}
	}
}

// P5.1: of all edges, and of any numbers, Scale tells the whole quotient, and at most 2^64 - 1.
func TestScaleAny(t *testing.T) {
	count := map[bool]int{}
	check := func(a, b, c uint64) {
		want := uint64(0)
		if c > 0 {
			n := times(a, b)
			n.Quo(n, whole(c))
			count[n.IsUint64()]++
			want = great
			if n.IsUint64() {
				want = n.Uint64()
			}
		}
		if n := Scale(a, b, c); n != want {
			t.Fatalf("Scale(%d, %d, %d): %d, not %d", a, b, c, n, want)
		}
	}
	for _, a := range edges {
		for _, b := range edges {
			for _, c := range edges {
				check(a, b, c)
			}
			high := times(a, b)
			check(a, b, high.Rsh(high, 64).Uint64()) // the last one that does not fit
			check(a, b, high.Uint64()+1)             // the first one that does
		}
	}
	r := rand.New(rand.NewSource(3))
	for range 20000 {
		check(some(r), some(r), some(r))
	}
	if count[true] < 3000 || count[false] < 3000 {
		t.Errorf("%v", count)
	}
}

// P5.2: what is near, up to the bound itself, and what is not.
func TestNear(t *testing.T) {
	rows := []struct {
		x, v, y, w, q, c uint64
		want             bool
	}{
		{5, 1, 12, 2, 0, 0, false}, {5, 1, 12, 2, 1, 0, true}, {12, 2, 5, 1, 0, 0, false}, {12, 2, 5, 1, 1, 0, true},
		{10, 2, 9, 3, 2, 0, true}, {10, 2, 8, 3, 2, 0, false}, {10, 2, 8, 3, 2, 1, true}, {8, 3, 10, 2, 2, 0, false}, {8, 3, 10, 2, 2, 1, true},
		{0, 1, 0, 1, 0, 0, true}, {0, 9, 0, 2, 0, 0, true}, {1, 3, 2, 6, 0, 0, true}, {1, 3, 3, 6, 0, 0, false}, {1, 1, 0, 1, 0, 0, false}, {0, 1, 1, 1, 0, 0, false},
		// c/v and c/w are of their own weights
		{5, 1, 0, 4, 0, 4, true}, {21, 4, 0, 1, 0, 4, false}, {20, 4, 0, 1, 0, 4, true}, {0, 1, 20, 4, 0, 4, true}, {0, 1, 21, 4, 0, 4, false}, {2, 1, 0, 1, 0, 1, true}, {3, 1, 0, 1, 0, 1, false}, {5, 6, 0, 3, 0, 2, true}, {7, 6, 0, 3, 0, 2, false},
		// of numbers as great as may be
		{top, 1, 0, 1, top, 0, true}, {top, 1, 0, 1, top - 1, 0, false}, {0, 1, top, 1, top, 0, true}, {0, 1, top, 1, top - 1, 0, false}, {top, 1, 0, top, top, 0, true}, {top, 1, 0, top, top - 1, 0, false}, {top, 1, 0, top, top - 1, 1, true},
		{top, top, top, top, top, top, true}, {0, top, 0, top, top, top, true}, {top, top, top - 1, top - 1, 0, 0, true}, {top, top, top, top - 1, 0, 0, false}, {top, top, top, top - 1, 0, 1, true}, {top, top - 1, top - 1, top, 0, 0, false}, {top, 1, top, top, 0, top, true},
	}
	for _, x := range rows {
		if ok := Near(x.x, x.v, x.y, x.w, x.q, x.c); ok != x.want {
			t.Errorf("Near(%d, %d, %d, %d, %d, %d): %v", x.x, x.v, x.y, x.w, x.q, x.c, ok)
		}
	}
}

// P5.2: each of the numbers is below 2^20, or nothing is near.
func TestNearBound(t *testing.T) {
	for i := range 6 {
		for _, n := range []uint64{1, top - 1, top, top + 1, top + 2, 1 << 21, 1 << 32, 1<<32 + 1, 1 << 44, 1 << 60, 1 << 63, great - 1, great} {
			l := [6]uint64{1, 1, 1, 1, top, top} // near, be a number as great as it may
			l[i] = n
			if Near(l[0], l[1], l[2], l[3], l[4], l[5]) != (n <= top) {
				t.Errorf("%v: %v", l, n > top)
			}
		}
	}
	if Near(great, great, great, great, great, great) || Near(top+1, top+1, top+1, top+1, 0, 0) {
		t.Error("all above the bound, and near")
	}
}

// P5.2: nothing is near, if v or w is 0.
func TestNearZero(t *testing.T) {
	for _, x := range []uint64{0, 1, 5, top} {
		for _, y := range []uint64{0, 1, 5, top} {
			for _, c := range []uint64{0, 1, top} {
				if Near(x, 0, y, 1, c, c) || Near(x, 1, y, 0, c, c) || Near(x, 0, y, 0, c, c) {
					t.Errorf("%d, %d, %d: near", x, y, c)
				}
			}
		}
	}
}

// near works Near out by fractions of the library, of numbers that may be.
func near(x, v, y, w, q, c uint64) bool {
	part := func(a, b uint64) *big.Rat { return new(big.Rat).SetFrac(whole(a), whole(b)) }
	far := part(x, v)
	far.Sub(far, part(y, w)).Abs(far)
	most := part(q, 1)
	most.Add(most, part(c, v)).Add(most, part(c, w))
	return far.Cmp(most) <= 0
}

// P5.2: of all small numbers, and of any numbers below 2^20, Near tells what the fractions tell.
func TestNearAny(t *testing.T) {
	count := map[bool]int{}
	check := func(x, v, y, w, q, c uint64) {
		want := near(x, v, y, w, q, c)
		count[want]++
		if Near(x, v, y, w, q, c) != want || Near(y, w, x, v, q, c) != want {
			t.Fatalf("Near(%d, %d, %d, %d, %d, %d): not %v", x, v, y, w, q, c, want)
		}
	}
	for n := range uint64(6 * 3 * 6 * 3 * 3 * 3) {
		check(n%6, n/6%3+1, n/18%6, n/108%3+1, n/324%3, n/972)
	}
	r := rand.New(rand.NewSource(4))
	for range 20000 {
		l := [6]uint64{}
		for i := range l {
			l[i] = some(r) & top >> r.Intn(20)
		}
		v, w := l[1]|1, l[3]|1
		check(l[0], v, l[2], w, l[4], l[5])
		y, q, c := l[2]>>10, l[4]%4, l[5]>>15 // and what lies about the bound
		edge := (y*v + q*v*w + c*w + c*v) / w
		for x := max(edge, 1) - 1; x <= min(edge+2, top); x++ {
			check(x, v, y, w, q, c)
		}
	}
	if count[true] < 3000 || count[false] < 3000 {
		t.Errorf("%v", count)
	}
}
