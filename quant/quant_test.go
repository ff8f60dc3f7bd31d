package quant

import (
	"math"
	"math/big"
	"math/rand"
	"testing"

	"billet/api"
	"billet/hist"
)

// end is the greatest number, top the greatest int, low the least one.
const (
	end = math.MaxUint64
	top = math.MaxInt
	low = math.MinInt
)

// of is the histogram of vs.
func of(vs ...uint64) api.Hist {
	var h api.Hist
	for _, v := range vs {
		h = hist.Add(h, v)
	}
	return h
}

// drawn is a histogram with so many runtimes, thrown at some of its buckets.
func drawn(r *rand.Rand, n int) api.Hist {
	var h api.Hist
	first := r.Intn(16)
	wide := 1 + r.Intn(16-first)
	for range n {
		h[first+r.Intn(wide)]++
	}
	return h
}

// plain lays all counts in a row, and takes the one that is percent hundredths along it, rounded up.
func plain(h api.Hist, percent int) int {
	var row []int
	for b, n := range h {
		for range n {
			row = append(row, b)
		}
	}
	along := big.NewRat(int64(len(row)*percent), 100)
	for i, b := range row {
		if big.NewRat(int64(i+1), 1).Cmp(along) >= 0 {
			return b
		}
	}
	return -1
}

// asked asks both calls, and holds the one against the other.
func asked(t *testing.T, h api.Hist, percent int) (int, bool) {
	t.Helper()
	was := h
	b, ok := Place(h, percent)
	v, sure := Of(h, percent)
	switch {
	case ok != sure:
		t.Fatalf("%d of %d: Place %v, Of %v", percent, h, ok, sure)
	case ok && v != hist.High(b):
		t.Fatalf("%d of %d: Place %d, Of %d", percent, h, b, v)
	case !ok && (b != 0 || v != 0):
		t.Fatalf("%d of %d: %d and %d beside a false", percent, h, b, v)
	case h != was:
		t.Fatalf("%d of %d: changed what was handed in", percent, was)
	}
	return b, ok
}

// P11.1: the chapter's example, and where a hundredth more is reached.
func TestPlaces(t *testing.T) {
	var ones, fours api.Hist
	for b := range 16 {
		ones[b], fours[b] = 1, 4
	}
	for _, x := range []struct {
		name    string
		h       api.Hist
		percent int
		want    int
		high    uint64
	}{
		{"example", of(1, 1, 1, 9), 1, 1, 1},
		{"example", of(1, 1, 1, 9), 74, 1, 1},
		{"example", of(1, 1, 1, 9), 75, 1, 1},
		{"example", of(1, 1, 1, 9), 76, 4, 15},
		{"example", of(1, 1, 1, 9), 100, 4, 15},
		{"one, first", of(0), 1, 0, 0},
		{"one, first", of(0), 100, 0, 0},
		{"one, last", of(end), 1, 15, end},
		{"one, last", of(end), 100, 15, end},
		{"one behind none", of(700), 1, 10, 1023},
		{"both ends", of(0, end), 1, 0, 0},
		{"both ends", of(0, end), 50, 0, 0},
		{"both ends", of(0, end), 51, 15, end},
		{"thirds", of(1, 2, 4), 33, 1, 1},
		{"thirds", of(1, 2, 4), 34, 2, 3},
		{"thirds", of(1, 2, 4), 66, 2, 3},
		{"thirds", of(1, 2, 4), 67, 3, 7},
		{"ones", ones, 6, 0, 0},
		{"ones", ones, 7, 1, 1},
		{"ones", ones, 93, 14, 1<<14 - 1},
		{"ones", ones, 94, 15, end},
		{"full, fours", fours, 6, 0, 0},
		{"full, fours", fours, 7, 1, 1},
		{"full, fours", fours, 25, 3, 7},
		{"full, fours", fours, 26, 4, 15},
		{"full, one of 64 first", api.Hist{0: 1, 15: 63}, 1, 0, 0},
		{"full, one of 64 first", api.Hist{0: 1, 15: 63}, 2, 15, end},
		{"full, one of 64 last", api.Hist{0: 63, 15: 1}, 98, 0, 0},
		{"full, one of 64 last", api.Hist{0: 63, 15: 1}, 99, 15, end},
		{"full, one bucket", api.Hist{7: 64}, 1, 7, 127},
		{"full, one bucket", api.Hist{7: 64}, 100, 7, 127},
		{"fifty", api.Hist{3: 1, 5: 49}, 2, 3, 7},
		{"fifty", api.Hist{3: 1, 5: 49}, 3, 5, 31},
		{"fifty", api.Hist{3: 49, 5: 1}, 98, 3, 7},
		{"fifty", api.Hist{3: 49, 5: 1}, 99, 5, 31},
	} {
		if b, ok := asked(t, x.h, x.percent); !ok || b != x.want {
			t.Errorf("%s: Place of %d: %d, %v, want %d", x.name, x.percent, b, ok, x.want)
		}
		if v, ok := Of(x.h, x.percent); !ok || v != x.high {
			t.Errorf("%s: Of %d: %d, %v, want %d", x.name, x.percent, v, ok, x.high)
		}
	}
}

// P11.1: percents that there are none of, of histograms that are right.
func TestNoPercent(t *testing.T) {
	for _, h := range []api.Hist{of(1, 1, 1, 9), of(0), of(end), {7: 64}, {}} {
		for _, percent := range []int{0, -1, -50, -100, low, low + 1, 101, 102, 200, 1 << 32, 1<<32 + 50, 1 << 62, top - 1, top} {
			if _, ok := asked(t, h, percent); ok {
				t.Errorf("%d of %d", percent, h)
			}
		}
	}
}

// P11.1: histograms that tell nothing, of every percent.
func TestNoHistogram(t *testing.T) {
	var fives api.Hist
	for b := range 16 {
		fives[b] = 5
	}
	for _, h := range []api.Hist{
		{},
		fives,
		{65},
		{15: 65},
		{0: 1, 15: 64},
		{-1},
		{15: -1},
		{0: 5, 3: -1},
		{0: -1, 3: 5},
		{0: 70, 15: -10},
		{4: 1, 5: -1},
		{3: top},
		{3: low},
		{3: top, 4: -top},
		{top, top, 2 + 64},
		{1 << 62, 1 << 62, 1 << 62, 1 << 62},
		{14: low, 15: low},
	} {
		for percent := -1; percent <= 101; percent++ {
			if _, ok := asked(t, h, percent); ok {
				t.Errorf("%d of %d", percent, h)
			}
		}
	}
}

// P11.1: drawn ones, every percent, against a row of all counts.
func TestDrawn(t *testing.T) {
	r := rand.New(rand.NewSource(1))
	for i := range 2000 {
		h := drawn(r, 1+i%64)
		for percent := 1; percent <= 100; percent++ {
			if b, ok := asked(t, h, percent); !ok || b != plain(h, percent) {
				t.Fatalf("%d of %d: %d, %v, want %d", percent, h, b, ok, plain(h, percent))
			}
		}
	}
}

// P11.1: all ways of having n counts in two buckets, at the percents around the one where the first is left.
func TestTwoBuckets(t *testing.T) {
	for n := 1; n <= 64; n++ {
		for first := range n {
			h := api.Hist{2: first, 11: n - first}
			edge := first * 100 / n // the last percent at which the first has enough
			for percent := 1; percent <= 100; percent++ {
				want := 11
				if percent <= edge {
					want = 2
				}
				if b, ok := asked(t, h, percent); !ok || b != want {
					t.Fatalf("%d of %d: %d, %v, want %d", percent, h, b, ok, want)
				}
			}
		}
	}
}

// P11.2: a greater percent never tells less, and the greatest one tells the last bucket that has counts.
func TestGreaterNeverLess(t *testing.T) {
	r := rand.New(rand.NewSource(2))
	for i := range 2000 {
		h := drawn(r, 1+i%64)
		var was uint64
		at, first, last := 0, -1, -1
		for b, n := range h {
			if n > 0 && first < 0 {
				first = b
			}
			if n > 0 {
				last = b
			}
		}
		for percent := 1; percent <= 100; percent++ {
			b, ok := Place(h, percent)
			v, sure := Of(h, percent)
			if !ok || !sure || b < at || v < was || b < first || b > last {
				t.Fatalf("%d of %d: %d (behind %d), %d (behind %d)", percent, h, b, at, v, was)
			}
			at, was = b, v
		}
		if at != last {
			t.Fatalf("100 of %d: %d", h, at)
		}
	}
}

// P11.2: of one runtime alone, or of it again and again, its bucket's High is told.
func TestOneAlone(t *testing.T) {
	r := rand.New(rand.NewSource(3))
	vs := []uint64{0, 1, 2, 3, 4, 7, 8, 1<<14 - 1, 1 << 14, 1 << 15, 1 << 40, 1 << 63, end}
	for range 500 {
		vs = append(vs, r.Uint64()>>r.Intn(65))
	}
	for _, v := range vs {
		h := of(v)
		for n := range 3 {
			for percent := 1; percent <= 100; percent++ {
				b, ok := asked(t, h, percent)
				if x, sure := Of(h, percent); !ok || !sure || b != hist.Bucket(v) || x != hist.High(hist.Bucket(v)) || x < v {
					t.Fatalf("%d of %d, %d times: %d, %d", percent, v, n+1, b, x)
				}
			}
			h = hist.Add(h, v)
		}
	}
}

// P11.1, P11.2: what is asked of a histogram leaves no trace for the next one.
func TestAskedAgain(t *testing.T) {
	h, g := of(1, 1, 1, 9), of(end)
	for range 3 {
		if v, ok := Of(h, 75); !ok || v != 1 {
			t.Fatal(v, ok)
		}
		if v, ok := Of(g, 1); !ok || v != end {
			t.Fatal(v, ok)
		}
		if v, ok := Of(api.Hist{}, 1); ok || v != 0 {
			t.Fatal(v, ok)
		}
	}
}
