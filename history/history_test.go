package history

import (
	"math"
	"math/rand"
	"slices"
	"strconv"
	"strings"
	"testing"

	"billet/api"
)

const top = math.MaxUint64

// plain is a table without the layers below: its rows, the one that was used last behind all others.
type plain struct {
	room int
	all  []api.Row
}

func (p *plain) place(key string) int {
	return slices.IndexFunc(p.all, func(r api.Row) bool { return r.Key == key })
}

func (p *plain) hist(key string) api.Hist {
	if i := p.place(key); i >= 0 {
		return p.all[i].Hist
	}
	return api.Hist{}
}

func (p *plain) observe(key string, ticks uint64) {
	h := counted(p.hist(key), ticks)
	if i := p.place(key); i >= 0 {
		p.all = slices.Delete(p.all, i, i+1)
	}
	p.all = append(p.all, api.Row{Key: key, Hist: h})
	if len(p.all) > p.room {
		p.all = slices.Delete(p.all, 0, 1)
	}
}

// counted tells h with one runtime more; of 64, half goes ahead of that.
func counted(h api.Hist, ticks uint64) api.Hist {
	if len(buckets(h)) == 64 {
		for b := range h {
			h[b] >>= 1
		}
	}
	h[bucket(ticks)]++
	return h
}

// bucket counts ticks' bits one by one.
func bucket(ticks uint64) int {
	n := 0
	for ticks > 0 {
		ticks /= 2
		n++
	}
	if n > 15 {
		return 15
	}
	return n
}

// buckets tells the bucket of each runtime of h, the least first.
func buckets(h api.Hist) []int {
	var out []int
	for b, n := range h {
		out = append(out, slices.Repeat([]int{b}, n)...)
	}
	return out
}

// estimate tells the greatest number of the first runtime's bucket that has, with all ahead of it, so many hundredths.
func estimate(h api.Hist, percent int) (uint64, bool) {
	l := buckets(h)
	if percent < 1 || percent > 100 {
		return 0, false
	}
	for i, b := range l {
		if (i+1)*100 < len(l)*percent {
			continue
		}
		v := uint64(top)
		if b < 15 {
			v = uint64(math.Pow(2, float64(b))) - 1
		}
		return v, true
	}
	return 0, false
}

// class tells the first place whose limit the estimate doesn't go beyond.
func class(h api.Hist, limits []int, percent int) int {
	v, ok := estimate(h, percent)
	if !ok {
		return 0
	}
	i := slices.IndexFunc(limits, func(limit int) bool { return v == 0 || limit > 0 && uint64(limit) >= v })
	if i < 0 {
		return len(limits)
	}
	return i
}

// check holds all that x tells against p, of those keys, limits and percents, and that x is the same behind it.
func check(t *testing.T, x *Table, p *plain, keys []string, limits []int, percents ...int) {
	t.Helper()
	if l := x.Rows(); !slices.Equal(l, p.all) {
		t.Fatalf("Rows %v, not %v", l, p.all)
	}
	given := slices.Clone(limits)
	for _, key := range keys {
		h := p.hist(key)
		if got := x.Hist(key); got != h {
			t.Fatalf("Hist(%q): %v, not %v", key, got, h)
		}
		for _, percent := range percents {
			v, ok := x.Estimate(key, percent)
			if want, there := estimate(h, percent); v != want || ok != there {
				t.Fatalf("Estimate(%q, %d) of %v: %d %v, not %d %v", key, percent, h, v, ok, want, there)
			}
			if c, want := x.Class(key, limits, percent), class(h, limits, percent); c != want {
				t.Fatalf("Class(%q, %v, %d) of %v: %d, not %d", key, limits, percent, h, c, want)
			}
		}
	}
	if l := x.Rows(); !slices.Equal(l, p.all) {
		t.Fatalf("Rows %v behind questions, not %v", l, p.all)
	}
	if !slices.Equal(limits, given) {
		t.Fatalf("limits %v, not %v", limits, given)
	}
}

// table tells one with that room, of which each line is a key and its runtimes, and the same without the layers below.
func table(room int, lines ...string) (*Table, *plain) {
	x, p := New(room), &plain{room: room}
	for _, line := range lines {
		words := strings.Split(line, " ")
		for _, w := range words[1:] {
			ticks, err := strconv.ParseUint(w, 10, 64)
			if err != nil {
				panic(err)
			}
			x.Observe(words[0], ticks)
			p.observe(words[0], ticks)
		}
	}
	return x, p
}

// keys tells x's keys by commas.
func keys(x *Table) string {
	var out []string
	for _, r := range x.Rows() {
		out = append(out, r.Key)
	}
	return strings.Join(out, ",")
}

// P13.1: nothing in it, and as much room as was told; nil without room.
func TestNew(t *testing.T) {
	for _, room := range []int{math.MinInt, -1 << 32, -2, -1, 0} {
		if New(room) != nil {
			t.Errorf("room %d", room)
		}
	}
	for _, room := range []int{1, 2, 3, api.MaxKeys - 1, api.MaxKeys, api.MaxKeys + 1, 200} {
		x, p := New(room), &plain{room: room}
		check(t, x, p, []string{"", "a"}, []int{0, 5}, 0, 1, 50, 100)
		for i := range 2*room + 1 {
			key := strconv.Itoa(i)
			x.Observe(key, uint64(i))
			p.observe(key, uint64(i))
			if n := len(x.Rows()); n != min(i+1, room) {
				t.Fatalf("room %d: %d rows behind %d keys", room, n, i+1)
			}
		}
		check(t, x, p, []string{"0", strconv.Itoa(room), strconv.Itoa(room + 1), strconv.Itoa(2 * room)}, []int{0, 5}, 1, 50, 100)
	}
	for _, room := range []int{1 << 31, 1 << 40, math.MaxInt} { // room takes no room
		x, p := table(room, "a 1 2", "b 7")
		check(t, x, p, []string{"a", "b", "c"}, []int{1, 3}, 1, 50, 51, 100)
		y, ok := Load(room, x.Rows())
		if !ok {
			t.Fatalf("room %d", room)
		}
		check(t, y, p, []string{"a", "b", "c"}, []int{1, 3}, 1, 50, 51, 100)
	}
	a, b := New(1), New(1)
	a.Observe("a", 1)
	b.Observe("b", 2)
	if keys(a) != "a" || keys(b) != "b" {
		t.Error("two of them are not their own")
	}
}

// P13.1: a runtime is counted in its key's histogram alone; of a full one, half goes ahead of that.
func TestObserve(t *testing.T) {
	x := New(3)
	for i, row := range []struct {
		key   string
		ticks uint64
		b     int // the bucket
		n     int // its count behind it
	}{
		{"a", 3, 2, 1}, {"a", 2, 2, 2}, {"a", 4, 3, 1}, {"b", 3, 2, 1}, {"a", 3, 2, 3}, {"", 0, 0, 1}, {"", 0, 0, 2}, {"b", 1, 1, 1},
		{"b", 1<<14 - 1, 14, 1}, {"b", 1 << 14, 15, 1}, {"b", 1 << 62, 15, 2}, {"b", top, 15, 3}, {"a", 1 << 63, 15, 1}, {"a", 0, 0, 1},
	} {
		x.Observe(row.key, row.ticks)
		if h := x.Hist(row.key); h[row.b] != row.n {
			t.Errorf("%d: %q %d: %v", i, row.key, row.ticks, h)
		}
	}
	if h := x.Hist("a"); h != (api.Hist{0: 1, 2: 3, 3: 1, 15: 1}) {
		t.Errorf("a: %v", h)
	}
	if h := x.Hist("b"); h != (api.Hist{1: 1, 2: 1, 14: 1, 15: 3}) {
		t.Errorf("b: %v", h)
	}
	if h := x.Hist(""); h != (api.Hist{0: 2}) {
		t.Errorf("empty: %v", h)
	}

	x = New(1)
	for range 64 {
		x.Observe("a", 5)
	}
	if h := x.Hist("a"); h != (api.Hist{3: 64}) {
		t.Errorf("full: %v", h)
	}
	x.Observe("a", 1)
	if h := x.Hist("a"); h != (api.Hist{1: 1, 3: 32}) {
		t.Errorf("behind full: %v", h)
	}
}

// P13.1 and P13.3: which keys there are, and in which order, behind observations one behind the other.
func TestOrder(t *testing.T) {
	for _, row := range []struct {
		room int
		do   string // keys, by commas
		keys string
	}{
		{2, "a", "a"}, {2, "a,a", "a"}, {2, "a,b", "a,b"}, {2, "b,a", "b,a"},
		{2, "a,b,a", "b,a"}, {2, "a,b,a,c", "a,c"}, {2, "a,b,c", "b,c"}, {2, "a,b,c,a", "c,a"},
		{1, "a,b", "b"}, {1, "a,b,a", "a"}, {1, "a,a", "a"},
		{3, "a,b,c", "a,b,c"}, {3, "a,b,c,b", "a,c,b"}, {3, "a,b,c,b,d", "c,b,d"}, {3, "a,b,c,a,d", "c,a,d"}, {3, "a,b,c,c,d", "b,c,d"},
		{3, ",A,a", ",A,a"}, {3, "a,A,,a\x00", "A,,a\x00"}, {3, "\xff,\xfe,\ufffd", "\xff,\xfe,\ufffd"},
	} {
		x := New(row.room)
		for _, key := range strings.Split(row.do, ",") {
			x.Observe(key, 7)
		}
		if keys(x) != row.keys {
			t.Errorf("room %d, %q: %q, not %q", row.room, row.do, keys(x), row.keys)
		}
	}
}

// P13.1: of a key that was forgotten nothing stays: it comes again with one runtime alone.
func TestForgotten(t *testing.T) {
	x, _ := table(2, "a 3 3 3", "b 1", "c 1")
	if h := x.Hist("a"); h != (api.Hist{}) {
		t.Fatal(h)
	}
	if v, ok := x.Estimate("a", 50); v != 0 || ok || x.Class("a", []int{0}, 50) != 0 {
		t.Fatal(v, ok)
	}
	x.Observe("a", 100)
	if h := x.Hist("a"); h != (api.Hist{7: 1}) || keys(x) != "c,a" {
		t.Fatal(h, keys(x))
	}
}

// P13.1: Estimate is quant.Of of the key's histogram.
func TestEstimate(t *testing.T) {
	x, _ := table(5, "a 3 9", "b 1 1 1 9", "c 0", "d 16384")
	for _, row := range []struct {
		key     string
		percent int
		v       uint64
		ok      bool
	}{
		{"a", 1, 3, true}, {"a", 50, 3, true}, {"a", 51, 15, true}, {"a", 100, 15, true},
		{"a", 0, 0, false}, {"a", 101, 0, false}, {"a", -1, 0, false}, {"a", math.MinInt, 0, false}, {"a", math.MaxInt, 0, false},
		{"b", 75, 1, true}, {"b", 76, 15, true},
		{"c", 1, 0, true}, {"c", 100, 0, true}, {"c", 0, 0, false},
		{"d", 1, top, true}, {"d", 100, top, true},
		{"e", 50, 0, false}, {"", 50, 0, false},
	} {
		if v, ok := x.Estimate(row.key, row.percent); v != row.v || ok != row.ok {
			t.Errorf("%q %d: %d %v", row.key, row.percent, v, ok)
		}
	}
}

// P13.2: the least class that the estimate fits in.
func TestClass(t *testing.T) {
	x, _ := table(7, "a 3 9", "zero 0", "one 1", "long 16384", "longest 18446744073709551615", "mid 8192")
	for _, row := range []struct {
		key     string
		limits  []int
		percent int
		class   int
	}{
		{"a", []int{4, 20}, 50, 0}, {"a", []int{4, 20}, 51, 1},
		{"a", []int{3, 15}, 50, 0}, {"a", []int{2, 15}, 50, 1}, {"a", []int{3, 15}, 51, 1}, {"a", []int{3, 14}, 51, 2},
		{"a", []int{15}, 100, 0}, {"a", []int{14}, 100, 1}, {"a", []int{16}, 100, 0},
		{"a", nil, 50, 0}, {"a", []int{}, 100, 0},
		{"a", []int{1, 2, 3, 4}, 1, 2}, {"a", []int{1, 2, 3, 4}, 51, 4}, {"a", []int{1, 2, 2, 2}, 1, 4},
		{"a", []int{20, 4}, 50, 0}, {"a", []int{1, 20, 4, 3}, 50, 1}, {"a", []int{4, 1}, 51, 2}, // in no order: still the first of all that are not below
		{"a", []int{4, 4}, 50, 0}, {"a", []int{1, 4, 4, 4}, 50, 1},
		{"a", []int{-1, 3}, 50, 1}, {"a", []int{math.MinInt, -5, 15}, 51, 2}, {"a", []int{-15, -16}, 100, 2},
		{"a", []int{-1}, 50, 1}, {"a", []int{math.MinInt}, 50, 1}, {"a", []int{math.MaxInt}, 50, 0},
		{"zero", []int{0}, 50, 0}, {"zero", []int{-1}, 50, 0}, {"zero", []int{math.MinInt, 5}, 100, 0}, {"zero", nil, 50, 0},
		{"one", []int{0}, 50, 1}, {"one", []int{-1, 0, 1}, 50, 2}, {"one", []int{1}, 50, 0},
		{"long", []int{4, math.MaxInt}, 50, 2}, {"longest", []int{-1, math.MaxInt, 1 << 20}, 50, 3}, {"long", nil, 100, 0},
		{"mid", []int{16382, 16383, 16384}, 50, 1},
		{"a", []int{1}, 0, 0}, {"a", []int{1}, 101, 0}, {"a", []int{1, 2}, -50, 0}, {"a", []int{-1}, math.MaxInt, 0}, {"a", []int{1}, math.MinInt, 0},
		{"none", []int{1}, 50, 0}, {"none", []int{-1, 0}, 50, 0}, {"", []int{-1}, 100, 0},
	} {
		given := slices.Clone(row.limits)
		if c := x.Class(row.key, row.limits, row.percent); c != row.class {
			t.Errorf("%q, %v by %d: %d, not %d", row.key, row.limits, row.percent, c, row.class)
		}
		if !slices.Equal(given, row.limits) {
			t.Errorf("%v, not %v", row.limits, given)
		}
	}
}

// P13.2: what is asked is not used by that: the oldest goes, though it was asked for last.
func TestUse(t *testing.T) {
	for name, ask := range map[string]func(x *Table){
		"Hist":     func(x *Table) { x.Hist("a") },
		"Estimate": func(x *Table) { x.Estimate("a", 50) },
		"Class":    func(x *Table) { x.Class("a", []int{1, 5}, 50) },
		"Rows":     func(x *Table) { x.Rows() },
	} {
		x, _ := table(2, "a 3", "b 4")
		ask(x)
		if keys(x) != "a,b" {
			t.Errorf("%s: %q", name, keys(x))
		}
		x.Observe("c", 5)
		if keys(x) != "b,c" {
			t.Errorf("%s: %q behind one more", name, keys(x))
		}
	}
	x := New(2)
	x.Hist("a")
	x.Estimate("a", 50)
	x.Class("a", nil, 50)
	if len(x.Rows()) != 0 {
		t.Error("a question makes a row")
	}
}

// P13.3: what Rows tells is the caller's own.
func TestRows(t *testing.T) {
	x, p := table(3, "a 1", "b 2", "c 3")
	l := x.Rows()
	l[0].Key, l[1].Hist[2] = "x", 60
	l = append(l[:1], api.Row{Key: "y"})
	slices.Reverse(l)
	check(t, x, p, []string{"a", "b", "c", "x", "y"}, []int{1, 2}, 50)
	m := x.Rows()
	x.Observe("a", 9)
	x.Observe("d", 9)
	if !slices.Equal(m, p.all) {
		t.Errorf("%v", m)
	}
}

// P13.3: which rows are a table's, and which are none.
func TestLoad(t *testing.T) {
	one := api.Hist{1: 1}
	many := func(n int) []api.Row {
		var l []api.Row
		for i := range n {
			l = append(l, api.Row{Key: strconv.Itoa(i), Hist: one})
		}
		return l
	}
	full := api.Hist{}
	for b := range full {
		full[b] = 4
	}
	over := full
	over[7]++
	for _, row := range []struct {
		name string
		room int
		l    []api.Row
		ok   bool
	}{
		{"nothing", 1, nil, true},
		{"nothing, not nil", 5, []api.Row{}, true},
		{"one", 1, many(1), true},
		{"less than there is room for", 3, many(2), true},
		{"as many as there is room for", 2, many(2), true},
		{"more than there is room for", 2, many(3), false},
		{"more, by far", 1, many(40), false},
		{"as many as may be", api.MaxKeys, many(api.MaxKeys), true},
		{"more than may be", api.MaxKeys, many(api.MaxKeys + 1), false},
		{"no room", 0, many(1), false},
		{"no room for nothing", 0, nil, false},
		{"room below 0", -1, nil, false},
		{"room below 0 by far", math.MinInt, many(2), false},
		{"room without end", math.MaxInt, many(3), true},
		{"a key twice", 3, []api.Row{{Key: "a", Hist: one}, {Key: "b", Hist: one}, {Key: "a", Hist: one}}, false},
		{"a key twice, one behind the other", 3, []api.Row{{Key: "b", Hist: one}, {Key: "a", Hist: one}, {Key: "a", Hist: full}}, false},
		{"the empty key", 2, []api.Row{{Key: "", Hist: one}, {Key: "a", Hist: one}}, true},
		{"the empty key twice", 2, []api.Row{{Key: "", Hist: one}, {Key: "", Hist: one}}, false},
		{"keys that are like", 4, []api.Row{{Key: "a", Hist: one}, {Key: "A", Hist: one}, {Key: "a\x00", Hist: one}, {Key: "a ", Hist: one}}, true},
		{"bytes that are no runes", 3, []api.Row{{Key: "\xff", Hist: one}, {Key: "\xfe", Hist: one}, {Key: "\ufffd", Hist: one}}, true},
		{"zero", 2, []api.Row{{Key: "a"}}, false},
		{"zero behind", 2, []api.Row{{Key: "a", Hist: one}, {Key: "b"}}, false},
		{"zero ahead", 2, []api.Row{{Key: "a"}, {Key: "b", Hist: one}}, false},
		{"full", 2, []api.Row{{Key: "a", Hist: full}, {Key: "b", Hist: api.Hist{15: 64}}}, true},
		{"one over", 2, []api.Row{{Key: "a", Hist: over}}, false},
		{"one over, in one bucket", 2, []api.Row{{Key: "a", Hist: api.Hist{0: 65}}}, false},
		{"a count below 0", 2, []api.Row{{Key: "a", Hist: api.Hist{0: 5, 1: -1}}}, false},
		{"counts that are nothing in all", 2, []api.Row{{Key: "a", Hist: api.Hist{0: 1, 15: -1}}}, false},
		{"counts that wrap round", 2, []api.Row{{Key: "a", Hist: api.Hist{0: math.MaxInt, 1: math.MaxInt, 2: 3}}}, false},
		{"a wrong one behind", 3, []api.Row{{Key: "a", Hist: one}, {Key: "b", Hist: one}, {Key: "c", Hist: api.Hist{3: -1}}}, false},
		{"in buckets 0 alone", 1, []api.Row{{Key: "a", Hist: api.Hist{0: 1}}}, true},
	} {
		given := slices.Clone(row.l)
		x, ok := Load(row.room, row.l)
		if ok != row.ok || (x != nil) != row.ok {
			t.Errorf("%s: %v", row.name, ok)
			continue
		}
		if !slices.Equal(row.l, given) {
			t.Errorf("%s: the rows are changed", row.name)
		}
		if !ok {
			continue
		}
		if !slices.Equal(x.Rows(), row.l) {
			t.Errorf("%s: %v", row.name, x.Rows())
		}
		p := &plain{room: row.room, all: given}
		x.Observe("new", 9)
		p.observe("new", 9)
		check(t, x, p, []string{"new", "", "a", "0", "1"}, []int{1, 7, 20}, 1, 50, 100)
	}
}

// P13.3: rows that were handed in may be changed behind it.
func TestLoadKeeps(t *testing.T) {
	l := []api.Row{{Key: "a", Hist: api.Hist{2: 3}}, {Key: "b", Hist: api.Hist{4: 1}}}
	p := &plain{room: 2, all: slices.Clone(l)}
	x, ok := Load(2, l)
	y, too := Load(2, l)
	if !ok || !too {
		t.Fatal(ok, too)
	}
	l[0].Key, l[1].Hist[4] = "c", 9
	check(t, x, p, []string{"a", "b", "c"}, []int{3, 15}, 50)
	y.Observe("c", 1)
	check(t, x, p, []string{"a", "b", "c"}, []int{3, 15}, 50)
}

// P13.3: of nil, nothing, zeros, false.
func TestNil(t *testing.T) {
	for _, x := range []*Table{nil, New(0), New(-1)} {
		for _, key := range []string{"", "a", "\xff"} {
			x.Observe(key, 5)
			v, ok := x.Estimate(key, 50)
			if x.Hist(key) != (api.Hist{}) || v != 0 || ok || x.Class(key, []int{-1, 3}, 50) != 0 || len(x.Rows()) != 0 {
				t.Errorf("%q", key)
			}
		}
	}
}

// runtime draws one, of any length.
func runtime(r *rand.Rand) uint64 {
	if r.Intn(4) == 0 {
		return uint64(r.Intn(3))
	}
	return r.Uint64() >> r.Intn(64)
}

// limits draws some, a few below 0.
func limits(r *rand.Rand) []int {
	l := make([]int, r.Intn(5))
	for i := range l {
		l[i] = r.Intn(1<<r.Intn(18)+1) - r.Intn(4)
		if r.Intn(3) == 0 {
			l[i] = 1<<r.Intn(17) - r.Intn(2)
		}
	}
	return l
}

// P13.1 to P13.4: of any observations it tells what plain rows tell, and a Load of its rows goes on likewise.
func TestAny(t *testing.T) {
	r := rand.New(rand.NewSource(13))
	went, halved, loaded := 0, 0, 0
	for range 300 {
		room := r.Intn(9) + 1
		keys := []string{"", "a", "A", "b", "\xff", "\xfe", "c", "d", "e", "f", "g"}[:r.Intn(10)+1]
		x, p := New(room), &plain{room: room}
		for range 400 {
			key, ticks := keys[r.Intn(len(keys))], runtime(r)
			if p.place(key) < 0 && len(p.all) == room {
				went++
			}
			if len(buckets(p.hist(key))) == 64 {
				halved++
			}
			x.Observe(key, ticks)
			p.observe(key, ticks)
			if r.Intn(12) == 0 {
				check(t, x, p, keys, limits(r), r.Intn(110)-5, r.Intn(100)+1)
			}
			if r.Intn(40) == 0 {
				y, ok := Load(room, x.Rows())
				if !ok {
					t.Fatalf("Load of %v", x.Rows())
				}
				x = y
				loaded++
				check(t, x, p, keys, limits(r), r.Intn(110)-5, r.Intn(100)+1)
			}
		}
		check(t, x, p, keys, limits(r), 1, 50, 99, 100)
	}
	if went < 5000 || halved < 300 || loaded < 1000 {
		t.Errorf("but %d went, %d were halved, %d loaded", went, halved, loaded)
	}
}

// P13.4: of Rows, Load makes a table that goes on as the one it was of; with less room than rows it makes none.
func TestLoadOfRows(t *testing.T) {
	r := rand.New(rand.NewSource(4))
	for range 500 {
		room := r.Intn(6) + 1
		x := New(room)
		for range r.Intn(200) {
			x.Observe(strconv.Itoa(r.Intn(8)), runtime(r))
		}
		l := x.Rows()
		if _, ok := Load(len(l)-1, l); ok {
			t.Fatalf("%d rows, and room for one less", len(l))
		}
		y, ok := Load(room, l)
		if !ok {
			t.Fatalf("Load of %v", l)
		}
		for range 30 {
			key, ticks := strconv.Itoa(r.Intn(10)), runtime(r)
			ll, percent := limits(r), r.Intn(101)
			v, ok := x.Estimate(key, percent)
			w, too := y.Estimate(key, percent)
			if v != w || ok != too || x.Hist(key) != y.Hist(key) || x.Class(key, ll, percent) != y.Class(key, ll, percent) || !slices.Equal(x.Rows(), y.Rows()) {
				t.Fatalf("%q of %v and %v", key, x.Rows(), y.Rows())
			}
			x.Observe(key, ticks)
			y.Observe(key, ticks)
		}
	}
}

// P13.4: a greater percentage never tells a lower class, in whatever order the limits stand.
func TestPercent(t *testing.T) {
	r := rand.New(rand.NewSource(5))
	rose := 0
	for i := range 1000 {
		x := New(1)
		for range r.Intn(90) + 1 {
			x.Observe("a", runtime(r)>>r.Intn(64))
		}
		l := limits(r)
		if i%2 == 0 {
			slices.Sort(l)
		}
		at := 0
		for percent := 1; percent <= 100; percent++ {
			c := x.Class("a", l, percent)
			if c < at {
				t.Fatalf("%v, %v by %d: %d, not below %d", x.Hist("a"), l, percent, c, at)
			}
			if c > at {
				rose++
			}
			at = c
		}
	}
	if rose < 300 {
		t.Errorf("but %d rose", rose)
	}
}

// P13.1 and P13.3: of many keys too.
func TestMany(t *testing.T) {
	const room, n = 20000, 60000
	x := New(room)
	for i := range n {
		x.Observe(strconv.Itoa(i), uint64(i))
	}
	l := x.Rows()
	if len(l) != room || l[0].Key != strconv.Itoa(n-room) || l[room-1].Key != strconv.Itoa(n-1) {
		t.Fatal(len(l))
	}
	y, ok := Load(room, l)
	if !ok || !slices.Equal(y.Rows(), l) {
		t.Fatal(ok)
	}
	l[room-1].Key = l[0].Key
	if _, ok := Load(room, l); ok {
		t.Error("a key twice")
	}
}
