package hist

import (
	"math"
	"math/big"
	"math/rand"
	"testing"

	"billet/api"
)

// end is the greatest number, top the greatest int, low the least one.
const (
	end = math.MaxUint64
	top = math.MaxInt
	low = math.MinInt
)

// bitsOf counts v's bits one by one.
func bitsOf(v uint64) int {
	n := 0
	for ; v > 0; v /= 2 {
		n++
	}
	return n
}

// drawn is a histogram with so many runtimes, thrown at its buckets.
func drawn(r *rand.Rand, n int) api.Hist {
	var h api.Hist
	for range n {
		h[r.Intn(1+r.Intn(16))]++
	}
	return h
}

// some is a number of any length.
func some(r *rand.Rand) uint64 {
	return r.Uint64() >> r.Intn(65)
}

// mightBe says whether h is right, without a sum of ints.
func mightBe(h api.Hist) bool {
	sum := new(big.Int)
	for _, n := range h {
		if n < 0 {
			return false
		}
		sum.Add(sum, big.NewInt(int64(n)))
	}
	return sum.Cmp(big.NewInt(64)) <= 0
}

// P10.1: the chapter's example, and where a bit more begins.
func TestBucket(t *testing.T) {
	for _, x := range []struct {
		v    uint64
		want int
	}{
		{0, 0}, {1, 1}, {2, 2}, {3, 2}, {4, 3}, {7, 3}, {8, 4}, {255, 8}, {256, 9},
		{1<<13 - 1, 13}, {1 << 13, 14}, {1<<14 - 1, 14}, {1 << 14, 15}, {1<<15 - 1, 15}, {1 << 15, 15},
		{1 << 16, 15}, {1 << 20, 15}, {1<<32 - 1, 15}, {1 << 32, 15}, {1<<63 - 1, 15}, {1 << 63, 15}, {end, 15},
	} {
		if b := Bucket(x.v); b != x.want {
			t.Errorf("Bucket(%d): %d, want %d", x.v, b, x.want)
		}
	}
}

// P10.1: all numbers up to 2^17, and drawn ones, against bits that are counted.
func TestBucketCounted(t *testing.T) {
	r := rand.New(rand.NewSource(1))
	for i := range uint64(1 << 17) {
		for _, v := range []uint64{i, some(r)} {
			if b := Bucket(v); b != min(bitsOf(v), 15) {
				t.Fatalf("Bucket(%d): %d", v, b)
			}
		}
	}
}

// P10.1: each bucket's end, and buckets that there are none of.
func TestHigh(t *testing.T) {
	for _, x := range []struct {
		b    int
		want uint64
	}{
		{0, 0}, {1, 1}, {2, 3}, {3, 7}, {4, 15}, {5, 31}, {6, 63}, {7, 127}, {8, 255}, {9, 511}, {10, 1023},
		{11, 2047}, {12, 4095}, {13, 8191}, {14, 16383}, {15, end},
		{-1, 0}, {-2, 0}, {-64, 0}, {low, 0}, {low + 1, 0},
		{16, 0}, {17, 0}, {63, 0}, {64, 0}, {65, 0}, {1 << 32, 0}, {1<<32 + 3, 0}, {top, 0},
	} {
		if v := High(x.b); v != x.want {
			t.Errorf("High(%d): %d, want %d", x.b, v, x.want)
		}
	}
}

// P10.1: what is counted at b ends with High(b), and the next number is counted behind it.
func TestHighOfBucket(t *testing.T) {
	for b := range 16 {
		v := High(b)
		if Bucket(v) != b {
			t.Errorf("Bucket(High(%d)): %d", b, Bucket(v))
		}
		if b < 15 && Bucket(v+1) != b+1 {
			t.Errorf("Bucket(High(%d) + 1): %d", b, Bucket(v+1))
		}
	}
}

// P10.1: sums, also of counts that may not be, and whether h is right.
func TestTotalAndRight(t *testing.T) {
	var ones, fours, fives, fulls api.Hist
	for b := range 16 {
		ones[b], fours[b], fives[b], fulls[b] = 1, 4, 5, 64
	}
	for _, x := range []struct {
		name  string
		h     api.Hist
		total int
		right bool
	}{
		{"none", api.Hist{}, 0, true},
		{"one", api.Hist{1}, 1, true},
		{"one, last", api.Hist{15: 1}, 1, true},
		{"ones", ones, 16, true},
		{"fours", fours, 64, true},
		{"fives", fives, 80, false},
		{"fulls", fulls, 1024, false},
		{"full, first", api.Hist{64}, 64, true},
		{"full, last", api.Hist{15: 64}, 64, true},
		{"full of two", api.Hist{2: 1, 9: 63}, 64, true},
		{"one too many, first", api.Hist{65}, 65, false},
		{"one too many, last", api.Hist{15: 65}, 65, false},
		{"one too many of two", api.Hist{0: 1, 15: 64}, 65, false},
		{"one too many of halves", api.Hist{7: 32, 8: 33}, 65, false},
		{"below none, first", api.Hist{-1}, -1, false},
		{"below none, last", api.Hist{15: -1}, -1, false},
		{"below none, sum right", api.Hist{0: -1, 3: 5}, 4, false},
		{"below none, sum none", api.Hist{4: 1, 5: -1}, 0, false},
		{"too many, sum right", api.Hist{0: 70, 15: -10}, 60, false},
		{"far below none", api.Hist{3: low}, low, false},
		{"far too many", api.Hist{3: top}, top, false},
		{"far both ways", api.Hist{3: top, 4: low}, -1, false},
		{"far both ways, sum right", api.Hist{3: top, 4: -top}, 0, false},
	} {
		if n := Total(x.h); n != x.total {
			t.Errorf("%s: Total %d, want %d", x.name, n, x.total)
		}
		if ok := Right(x.h); ok != x.right {
			t.Errorf("%s: Right %v, want %v", x.name, ok, x.right)
		}
	}
}

// P10.1: counts whose sum leaves the ints, and comes back to what may be, are none that may be.
func TestRightOfSumsThatDoNotFit(t *testing.T) {
	for _, h := range []api.Hist{
		{top, top, 2},
		{top, top, 2 + 64},
		{1 << 62, 1 << 62, 1 << 62, 1 << 62},
		{5: 1 << 62, 6: 1 << 62, 7: 1 << 62, 8: 1 << 62, 15: 1},
		{low, low},
		{14: low, 15: low},
	} {
		if Right(h) {
			t.Errorf("Right(%d)", h)
		}
		if g := Add(h, 1); g != (api.Hist{}) {
			t.Errorf("Add(%d, 1): %d", h, g)
		}
	}
}

// P10.1: drawn counts, against a sum without bounds.
func TestRightDrawn(t *testing.T) {
	r := rand.New(rand.NewSource(2))
	odd := []int{-1, 1, 64, 65, -64, low, top}
	rights := 0
	for range 20000 {
		h := drawn(r, 56+r.Intn(16))
		if r.Intn(3) == 0 {
			h[r.Intn(16)] += odd[r.Intn(len(odd))]
		}
		sum := 0
		for b := 15; b >= 0; b-- {
			sum += h[b]
		}
		if n := Total(h); n != sum {
			t.Fatalf("Total(%d): %d", h, n)
		}
		if Right(h) != mightBe(h) {
			t.Fatalf("Right(%d): %v", h, Right(h))
		}
		if Right(h) {
			rights++
		}
	}
	if rights < 2000 || rights > 18000 {
		t.Fatal("all alike:", rights)
	}
}

// P10.2: ordinary ones, full ones, and those that may not be.
func TestAdd(t *testing.T) {
	for _, x := range []struct {
		name string
		h    api.Hist
		v    uint64
		want api.Hist
	}{
		{"none, 0", api.Hist{}, 0, api.Hist{1}},
		{"none, 1", api.Hist{}, 1, api.Hist{1: 1}},
		{"none, 5", api.Hist{}, 5, api.Hist{3: 1}},
		{"none, the end", api.Hist{}, end, api.Hist{15: 1}},
		{"again", api.Hist{3: 1}, 4, api.Hist{3: 2}},
		{"beside", api.Hist{3: 2, 15: 1}, 1 << 13, api.Hist{3: 2, 14: 1, 15: 1}},
		{"one less than full", api.Hist{3: 62, 4: 1}, 0, api.Hist{0: 1, 3: 62, 4: 1}},
		{"one less than full, one bucket", api.Hist{15: 63}, 1 << 40, api.Hist{15: 64}},
		{"full, one bucket", api.Hist{3: 64}, 1, api.Hist{1: 1, 3: 32}},
		{"full, the same bucket", api.Hist{3: 64}, 7, api.Hist{3: 33}},
		{"full, the first bucket", api.Hist{64}, 0, api.Hist{33}},
		{"full, the last bucket", api.Hist{15: 64}, end, api.Hist{15: 33}},
		{"full, rounded down", api.Hist{0: 1, 1: 3, 2: 5, 3: 7, 15: 48}, 1, api.Hist{1: 2, 2: 2, 3: 3, 15: 24}},
		{"full, halved first", api.Hist{1: 1, 2: 63}, 1, api.Hist{1: 1, 2: 31}},
		{"full, of fours", api.Hist{4, 4, 4, 4, 4, 4, 4, 4, 4, 4, 4, 4, 4, 4, 4, 4}, 256, api.Hist{2, 2, 2, 2, 2, 2, 2, 2, 2, 3, 2, 2, 2, 2, 2, 2}},
		{"one too many", api.Hist{65}, 1, api.Hist{}},
		{"one too many of two", api.Hist{3: 64, 4: 1}, 1, api.Hist{}},
		{"below none", api.Hist{-1}, 0, api.Hist{}},
		{"below none, there", api.Hist{3: -1}, 5, api.Hist{}},
		{"below none, sum full", api.Hist{0: -1, 3: 65}, 5, api.Hist{}},
		{"far too many", api.Hist{3: top}, 5, api.Hist{}},
		{"far below none", api.Hist{3: low}, 5, api.Hist{}},
	} {
		h := x.h
		if g := Add(h, x.v); g != x.want {
			t.Errorf("%s: %d, want %d", x.name, g, x.want)
		}
		if h != x.h {
			t.Errorf("%s: changed what was handed in", x.name)
		}
	}
}

// P10.2: the 65th halves, and then the 33rd behind each.
func TestAddOftenTheSame(t *testing.T) {
	var h api.Hist
	want := 0
	for i := range 1000 {
		if want == 64 {
			want = 32
		}
		want++
		if h = Add(h, 9); h != (api.Hist{4: want}) {
			t.Fatalf("%d: %d, want %d", i, h, want)
		}
	}
}

// P10.2, P10.3: drawn ones, bucket by bucket; what is added stays right, and isn't none.
func TestAddDrawn(t *testing.T) {
	r := rand.New(rand.NewSource(3))
	for range 20000 {
		h := drawn(r, r.Intn(65))
		if r.Intn(4) == 0 {
			h = drawn(r, 64)
		}
		v := some(r)
		full := Total(h) == 64
		g := Add(h, v)
		for b := range 16 {
			want := h[b]
			if full {
				want = h[b] >> 1
			}
			if b == min(bitsOf(v), 15) {
				want++
			}
			if g[b] != want {
				t.Fatalf("Add(%d, %d): %d", h, v, g)
			}
		}
		if !Right(g) || !mightBe(g) || Total(g) < 1 {
			t.Fatalf("Add(%d, %d): %d, not right", h, v, g)
		}
	}
}

// P10.3: a long row of numbers stays right all the while.
func TestAddStaysRight(t *testing.T) {
	r := rand.New(rand.NewSource(4))
	for range 50 {
		var h api.Hist
		wide := 1 + r.Intn(64)
		for i := range 500 {
			h = Add(h, r.Uint64()>>r.Intn(wide))
			if n := Total(h); !mightBe(h) || !Right(h) || n < 1 || i < 64 && n != i+1 {
				t.Fatalf("%d: %d", i, h)
			}
		}
	}
}

// P10.3: up to Full, the order of numbers changes nothing, from none on and from some on.
func TestOrderChangesNothing(t *testing.T) {
	r := rand.New(rand.NewSource(5))
	for range 2000 {
		first := drawn(r, r.Intn(64))
		vs := make([]uint64, r.Intn(65-Total(first)))
		for i := range vs {
			vs[i] = some(r)
		}
		g, h := first, first
		for _, v := range vs {
			g = Add(g, v)
		}
		r.Shuffle(len(vs), func(i, j int) { vs[i], vs[j] = vs[j], vs[i] })
		for _, v := range vs {
			h = Add(h, v)
		}
		if g != h || Total(g) != Total(first)+len(vs) {
			t.Fatalf("%d and %d", g, h)
		}
	}
}
