package lru

import (
	"errors"
	"math"
	"math/rand"
	"slices"
	"strconv"
	"strings"
	"testing"
)

// plain is a table without a list or a map: its things, the one that was used last first.
type plain struct {
	room int
	all  []pair
}

type pair struct {
	key string
	v   int
}

func (p *plain) place(key string) int {
	return slices.IndexFunc(p.all, func(x pair) bool { return x.key == key })
}

func (p *plain) put(key string, v int) (string, bool) {
	p.drop(key)
	p.all = slices.Insert(p.all, 0, pair{key, v})
	if len(p.all) <= p.room {
		return "", false
	}
	gone := p.all[p.room].key
	p.all = p.all[:p.room]
	return gone, true
}

func (p *plain) get(key string) (int, bool) {
	v, ok := p.peek(key)
	if ok {
		p.put(key, v)
	}
	return v, ok
}

func (p *plain) peek(key string) (int, bool) {
	i := p.place(key)
	if i < 0 {
		return 0, false
	}
	return p.all[i].v, true
}

func (p *plain) drop(key string) bool {
	i := p.place(key)
	if i < 0 {
		return false
	}
	p.all = slices.Delete(p.all, i, i+1)
	return true
}

func (p *plain) keys() []string {
	var out []string
	for _, x := range p.all {
		out = append(out, x.key)
	}
	return out
}

// check holds all that x tells of itself against p, of those keys.
func check(t *testing.T, x *Table[int], p *plain, keys []string) {
	t.Helper()
	if l := x.Keys(); !slices.Equal(l, p.keys()) || x.Len() != len(p.all) {
		t.Fatalf("Keys %q, Len %d; not %q", l, x.Len(), p.keys())
	}
	for _, key := range keys {
		v, ok := x.Peek(key)
		if want, there := p.peek(key); v != want || ok != there {
			t.Fatalf("Peek(%q): %d %v, not %d %v", key, v, ok, want, there)
		}
	}
}

// step is one call, and what it is to tell. do: p Put, g Get, k Peek, d Drop.
type step struct {
	do   byte
	key  string
	v    int
	gone string // of Put: the key that goes, if one does
	ok   bool
	keys string // the keys behind it, by commas
}

// P12.1 and P12.2: calls one behind the other; what each tells, and the keys behind it.
func TestSteps(t *testing.T) {
	rows := []struct {
		name string
		room int
		l    []step
	}{
		{"the chapter's own", 2, []step{
			{'p', "a", 1, "", false, "a"},
			{'p', "b", 2, "", false, "b,a"},
			{'g', "a", 1, "", true, "a,b"},
			{'p', "c", 3, "b", true, "c,a"},
		}},
		{"Peek uses nothing", 2, []step{
			{'p', "a", 1, "", false, "a"},
			{'p', "b", 2, "", false, "b,a"},
			{'k', "a", 1, "", true, "b,a"},
			{'p', "c", 3, "a", true, "c,b"},
			{'k', "a", 0, "", false, "c,b"},
		}},
		{"put again", 3, []step{
			{'p', "a", 1, "", false, "a"},
			{'p', "a", 2, "", false, "a"},
			{'p', "b", 3, "", false, "b,a"},
			{'p', "c", 4, "", false, "c,b,a"},
			{'p', "a", 5, "", false, "a,c,b"},
			{'k', "a", 5, "", true, "a,c,b"},
			{'p', "c", 6, "", false, "c,a,b"},
			{'p', "c", 7, "", false, "c,a,b"},
			{'p', "d", 8, "b", true, "d,c,a"},
			{'g', "c", 7, "", true, "c,d,a"},
			{'p', "b", 9, "a", true, "b,c,d"},
			{'k', "b", 9, "", true, "b,c,d"},
		}},
		{"what goes, and comes again", 1, []step{
			{'p', "a", 1, "", false, "a"},
			{'p', "b", 2, "a", true, "b"},
			{'g', "a", 0, "", false, "b"},
			{'p', "a", 3, "b", true, "a"},
			{'p', "a", 4, "", false, "a"},
			{'g', "a", 4, "", true, "a"},
			{'d', "b", 0, "", false, "a"},
			{'d', "a", 0, "", true, ""},
			{'p', "b", 5, "", false, "b"},
		}},
		{"dropped: first, last, between, one that isn't there", 5, []step{
			{'d', "a", 0, "", false, ""},
			{'p', "a", 1, "", false, "a"},
			{'p', "b", 2, "", false, "b,a"},
			{'p', "c", 3, "", false, "c,b,a"},
			{'p', "d", 4, "", false, "d,c,b,a"},
			{'p', "e", 5, "", false, "e,d,c,b,a"},
			{'d', "c", 0, "", true, "e,d,b,a"},
			{'d', "c", 0, "", false, "e,d,b,a"},
			{'g', "c", 0, "", false, "e,d,b,a"},
			{'p', "f", 6, "", false, "f,e,d,b,a"},
			{'d', "a", 0, "", true, "f,e,d,b"},
			{'d', "f", 0, "", true, "e,d,b"},
			{'p', "a", 7, "", false, "a,e,d,b"},
			{'p', "c", 8, "", false, "c,a,e,d,b"},
			{'p', "g", 9, "b", true, "g,c,a,e,d"},
			{'g', "d", 4, "", true, "d,g,c,a,e"},
			{'g', "c", 8, "", true, "c,d,g,a,e"},
			{'g', "c", 8, "", true, "c,d,g,a,e"},
			{'p', "h", 0, "e", true, "h,c,d,g,a"},
			{'k', "h", 0, "", true, "h,c,d,g,a"},
			{'g', "e", 0, "", false, "h,c,d,g,a"},
		}},
		{"keys are held against each other byte by byte, the empty one too", 3, []step{
			{'p', "", 1, "", false, ""},
			{'k', "", 1, "", true, ""},
			{'p', "A", 2, "", false, "A,"},
			{'p', "a", 3, "", false, "a,A,"},
			{'p', "a\x00", 4, "", true, "a\x00,a,A"},
			{'p', "\xff", 5, "A", true, "\xff,a\x00,a"},
			{'g', "\xfe", 0, "", false, "\xff,a\x00,a"},
			{'g', "\ufffd", 0, "", false, "\xff,a\x00,a"},
			{'p', "\xfe", 6, "a", true, "\xfe,\xff,a\x00"},
			{'g', "", 0, "", false, "\xfe,\xff,a\x00"},
			{'d', "", 0, "", false, "\xfe,\xff,a\x00"},
			{'d', "\xff", 0, "", true, "\xfe,a\x00"},
		}},
	}
	for _, row := range rows {
		x := New[int](row.room)
		for i, s := range row.l {
			gone, v, ok := "", s.v, false
			switch s.do {
			case 'p':
				gone, ok = x.Put(s.key, s.v)
			case 'g':
				v, ok = x.Get(s.key)
			case 'k':
				v, ok = x.Peek(s.key)
			case 'd':
				ok = x.Drop(s.key)
			}
			if gone != s.gone || v != s.v || ok != s.ok {
				t.Fatalf("%s: %d: %q %d %v, not %q %d %v", row.name, i, gone, v, ok, s.gone, s.v, s.ok)
			}
			keys := strings.Join(x.Keys(), ",")
			n := x.Len()
			if keys != s.keys || n != len(x.Keys()) || n == 0 && keys != "" || n > row.room {
				t.Fatalf("%s: %d: keys %q, Len %d; not %q", row.name, i, keys, n, s.keys)
			}
		}
	}
}

// P12.1: nothing in it, and as much room as was told; nil without room.
func TestNew(t *testing.T) {
	for _, room := range []int{math.MinInt, -1 << 32, -2, -1, 0} {
		if New[int](room) != nil || New[string](room) != nil || New[any](room) != nil {
			t.Errorf("room %d", room)
		}
	}
	for _, room := range []int{1, 2, 3, 31, 32, 33, 1000} {
		x := New[int](room)
		check(t, x, &plain{}, []string{"", "a"})
		if v, ok := x.Get(""); v != 0 || ok || x.Drop("") {
			t.Errorf("room %d: there is something", room)
		}
		for i := range room {
			if k, ok := x.Put(strconv.Itoa(i), i); k != "" || ok || x.Len() != i+1 {
				t.Fatalf("room %d: %d: %q %v", room, i, k, ok)
			}
		}
		for i := range room + 2 {
			want := strconv.Itoa(i)
			if i >= room {
				want = "new" + strconv.Itoa(i-room)
			}
			if k, ok := x.Put("new"+strconv.Itoa(i), i); k != want || !ok || x.Len() != room {
				t.Fatalf("room %d: %d: %q %v", room, i, k, ok)
			}
		}
	}
	for _, room := range []int{1 << 31, 1 << 40, math.MaxInt} { // room takes no room
		x := New[[1 << 10]byte](room)
		for i := range 300 {
			if k, ok := x.Put(strconv.Itoa(i), [1 << 10]byte{}); k != "" || ok {
				t.Fatalf("room %d: %q", room, k)
			}
		}
		if x.Len() != 300 || x.Keys()[0] != "299" || x.Keys()[299] != "0" {
			t.Errorf("room %d: %d", room, x.Len())
		}
	}
	a, b := New[int](1), New[int](1)
	a.Put("a", 1)
	b.Put("b", 2)
	if v, ok := a.Get("a"); v != 1 || !ok || a.Drop("b") || !b.Drop("b") || a.Len() != 1 || b.Len() != 0 {
		t.Error("two of them are not their own")
	}
}

// P12.1 and P12.2: of nil, nothing, false, 0.
func TestNil(t *testing.T) {
	var x *Table[int]
	y := New[error](-1)
	for _, key := range []string{"", "a", "\xff"} {
		for range 2 {
			k, ok := x.Put(key, 5)
			v, got := x.Get(key)
			w, seen := x.Peek(key)
			if k != "" || ok || v != 0 || got || w != 0 || seen || x.Drop(key) || len(x.Keys()) != 0 || x.Len() != 0 {
				t.Errorf("%q", key)
			}
			k, ok = y.Put(key, errors.New("e"))
			e, got := y.Get(key)
			f, seen := y.Peek(key)
			if k != "" || ok || e != nil || got || f != nil || seen || y.Drop(key) || len(y.Keys()) != 0 || y.Len() != 0 {
				t.Errorf("%q", key)
			}
		}
	}
}

// things lets a table have a, then zero, and holds what it tells against them.
func things[V any](t *testing.T, name string, a V, same func(x, y V) bool) {
	t.Helper()
	var zero V
	x := New[V](2)
	x.Put("a", a)
	x.Put("zero", zero)
	for _, ask := range []func(string) (V, bool){x.Get, x.Peek} {
		if v, ok := ask("a"); !ok || !same(v, a) {
			t.Errorf("%s: %v %v", name, v, ok)
		}
		if v, ok := ask("zero"); !ok || !same(v, zero) {
			t.Errorf("%s: zero: %v %v", name, v, ok)
		}
		if v, ok := ask("none"); ok || !same(v, zero) {
			t.Errorf("%s: none: %v %v", name, v, ok)
		}
	}
	x.Put("a", zero)
	x.Put("zero", a)
	v, ok := x.Peek("a")
	w, there := x.Peek("zero")
	if !ok || !there || !same(v, zero) || !same(w, a) || x.Len() != 2 {
		t.Errorf("%s: put again: %v %v", name, v, w)
	}
}

func equal[V comparable](x, y V) bool { return x == y }

// P12.1: things of any type, the zero value of it among them.
func TestThings(t *testing.T) {
	n, e := 7, errors.New("e")
	things(t, "int", 3, equal)
	things(t, "string", "b", equal)
	things(t, "bool", true, equal)
	things(t, "array", [3]int{1, 2, 3}, equal)
	things(t, "struct", pair{"k", 9}, equal)
	things(t, "empty", struct{}{}, equal)
	things(t, "pointer", &n, equal)
	things(t, "any", any(pair{"k", 9}), equal)
	things(t, "any, a pointer that is nil", any((*int)(nil)), equal)
	things(t, "any, an entry", any(entry[any]{"k", 9}), equal)
	things(t, "error", e, func(x, y error) bool { return (x == nil) == (y == nil) && (x == nil || x == y) })
	things(t, "slice", []int{1, 2}, slices.Equal)
	things(t, "map", map[string]int{"a": 1}, func(x, y map[string]int) bool { return (x == nil) == (y == nil) && x["a"] == y["a"] })
	things(t, "function", func() int { return 4 }, func(x, y func() int) bool { return (x == nil) == (y == nil) && (x == nil || x() == y()) })
	things(t, "table", New[int](1), equal)
	nan := New[float64](1)
	nan.Put("a", math.NaN())
	if v, ok := nan.Get("a"); !ok || v == v {
		t.Error(v, ok)
	}
}

// P12.2: what Keys tells is the caller's own.
func TestKeys(t *testing.T) {
	x := New[int](3)
	for i, key := range []string{"a", "b", "c"} {
		x.Put(key, i)
	}
	l := x.Keys()
	l[0], l[2] = "x", "y"
	l = append(l[:1], "z")
	if m := x.Keys(); !slices.Equal(m, []string{"c", "b", "a"}) || x.Drop("x") || x.Drop(l[1]) {
		t.Errorf("%q", m)
	}
	m := x.Keys()
	x.Put("d", 4)
	x.Get("b")
	if !slices.Equal(m, []string{"c", "b", "a"}) {
		t.Errorf("%q", m)
	}
}

// P12.1 to P12.3: of any calls, one behind the other, it tells what a plain list tells; never more than it has room for; what was used last is there.
func TestAny(t *testing.T) {
	r := rand.New(rand.NewSource(1))
	went, again := 0, 0
	for range 1000 {
		room := r.Intn(12) + 1
		keys := []string{"", "a", "A", "b", "c", "ab", "\xff", "\xfe", "d", "e", "f", "g", "h", "i", "j", "k"}[:r.Intn(15)+2]
		x, p := New[int](room), &plain{room: room}
		for range 120 {
			key, v := keys[r.Intn(len(keys))], r.Intn(1000)
			used := false
			switch r.Intn(9) {
			case 0:
				if ok := x.Drop(key); ok != p.drop(key) {
					t.Fatalf("Drop(%q): %v", key, ok)
				}
			case 1, 2, 3:
				v, ok := x.Get(key)
				if want, there := p.get(key); v != want || ok != there {
					t.Fatalf("Get(%q): %d %v, not %d %v", key, v, ok, want, there)
				}
				used = ok
			default:
				if p.place(key) >= 0 {
					again++
				}
				gone, ok := x.Put(key, v)
				if want, there := p.put(key, v); gone != want || ok != there {
					t.Fatalf("Put(%q): %q %v, not %q %v", key, gone, ok, want, there)
				}
				if ok {
					went++
				}
				used = true
			}
			if x.Len() > room || used && x.Keys()[0] != key {
				t.Fatalf("room %d, keys %q behind %q", room, x.Keys(), key)
			}
			if r.Intn(2) == 0 { // not always: what is asked must not be what makes it right
				check(t, x, p, keys)
			}
		}
		check(t, x, p, keys)
	}
	if went < 5000 || again < 5000 {
		t.Errorf("but %d went, and %d were put again", went, again)
	}
}

// P12.3: of very many too; what was used last is there, what was not is gone.
func TestMany(t *testing.T) {
	const room, n = 50000, 300000
	x := New[int](room)
	for i := range n {
		gone, ok := x.Put(strconv.Itoa(i), i)
		if i >= room != ok || ok && gone == "0" {
			t.Fatalf("%d: %q %v", i, gone, ok)
		}
		if v, ok := x.Get("0"); v != 0 || !ok { // it is used all the while
			t.Fatalf("%d: %d %v", i, v, ok)
		}
	}
	l := x.Keys()
	if len(l) != room || x.Len() != room || l[0] != "0" || l[1] != strconv.Itoa(n-1) || l[room-1] != strconv.Itoa(n-room+1) {
		t.Errorf("%d keys, %q %q to %q", len(l), l[0], l[1], l[len(l)-1])
	}
	for i, key := range l {
		if !x.Drop(key) || x.Len() != room-i-1 {
			t.Fatalf("%d: %q", i, key)
		}
	}
}
