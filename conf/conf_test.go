package conf

import (
	"math"
	"math/rand"
	"reflect"
	"slices"
	"strings"
	"testing"

	"billet/api"
)

// top is the greatest int, low the least one.
const (
	top = math.MaxInt
	low = math.MinInt
)

// rune16 is the longest name, of 16 runes and 32 bytes.
var rune16 = strings.Repeat("я", 16)

// good is a configuration that may be, with lists of its own.
func good() api.Config {
	return api.Config{
		Tenants: []api.Tenant{{Name: "a", Weight: 1, Quota: 9}, {Name: "b", Weight: 2, Quota: 1}}, Limits: []int{3, 8},
		Quantum: 1, Cost: 2, Cap: 3, Invs: 2, Weight: 2, Pools: 2, Retries: 1, Preempts: 2, Base: 5, Most: 9, Lease: 5,
		Dead: 2, Keep: 2, Keys: 2, Percent: 50, Workers: 2, Watch: 2,
	}
}

// least is a configuration of which all is as little as it may be.
func least() api.Config {
	return api.Config{
		Tenants: []api.Tenant{{Name: "a", Weight: 1, Quota: 1}},
		Quantum: 1, Cost: 1, Cap: 1, Invs: 1, Weight: 1, Pools: 1, Base: 1, Most: 1, Lease: 1, Dead: 1, Keep: 1, Keys: 1, Percent: 1, Workers: 1,
	}
}

// most is a configuration of which all is as much as it may be.
func most() api.Config {
	c := api.Config{
		Limits:  []int{1<<20 - 2, 1<<20 - 1, 1 << 20},
		Quantum: 64, Cost: 64, Cap: 32, Invs: 8, Weight: 16, Pools: 8, Retries: 5, Preempts: 5, Base: 1 << 20, Most: 1 << 20, Lease: 1 << 20,
		Dead: 32, Keep: 64, Keys: 32, Percent: 100, Workers: 16, Watch: 16,
	}
	for _, s := range []string{"f", "e", "d", "c", "b", rune16} {
		c.Tenants = append(c.Tenants, api.Tenant{Name: s, Weight: 16, Quota: 256})
	}
	return c
}

// field is a number of a configuration, and between which ones it may be, the others being good's.
type field struct {
	name      string
	of        func(c *api.Config) *int
	low, high int
}

// single is how many of fields stand in no list of a configuration.
const single = 17

// fields are all numbers of good.
var fields = []field{
	{"Quantum", func(c *api.Config) *int { return &c.Quantum }, 1, 64},
	{"Cost", func(c *api.Config) *int { return &c.Cost }, 1, 64},
	{"Cap", func(c *api.Config) *int { return &c.Cap }, 1, 32},
	{"Invs", func(c *api.Config) *int { return &c.Invs }, 1, 8},
	{"Weight", func(c *api.Config) *int { return &c.Weight }, 1, 16},
	{"Pools", func(c *api.Config) *int { return &c.Pools }, 1, 8},
	{"Retries", func(c *api.Config) *int { return &c.Retries }, 0, 5},
	{"Preempts", func(c *api.Config) *int { return &c.Preempts }, 0, 5},
	{"Base", func(c *api.Config) *int { return &c.Base }, 1, 9}, // Most is not below it
	{"Most", func(c *api.Config) *int { return &c.Most }, 5, 1 << 20},
	{"Lease", func(c *api.Config) *int { return &c.Lease }, 1, 1 << 20},
	{"Dead", func(c *api.Config) *int { return &c.Dead }, 1, 32},
	{"Keep", func(c *api.Config) *int { return &c.Keep }, 1, 64},
	{"Keys", func(c *api.Config) *int { return &c.Keys }, 1, 32},
	{"Percent", func(c *api.Config) *int { return &c.Percent }, 1, 100},
	{"Workers", func(c *api.Config) *int { return &c.Workers }, 1, 16},
	{"Watch", func(c *api.Config) *int { return &c.Watch }, 0, 16},
	{"Limits 0", func(c *api.Config) *int { return &c.Limits[0] }, 1, 7},
	{"Limits 1", func(c *api.Config) *int { return &c.Limits[1] }, 4, 1 << 20},
	{"a's Weight", func(c *api.Config) *int { return &c.Tenants[0].Weight }, 1, 16},
	{"a's Quota", func(c *api.Config) *int { return &c.Tenants[0].Quota }, 1, 256},
	{"b's Weight", func(c *api.Config) *int { return &c.Tenants[1].Weight }, 1, 16},
	{"b's Quota", func(c *api.Config) *int { return &c.Tenants[1].Quota }, 1, 256},
}

// copied is c with lists of its own.
func copied(c api.Config) api.Config {
	c.Tenants, c.Limits = slices.Clone(c.Tenants), slices.Clone(c.Limits)
	return c
}

// check holds all that is told of c against what Check has to tell of it.
func check(t *testing.T, c api.Config, want api.Errno) {
	t.Helper()
	kept := copied(c)
	e := Check(c)
	if e != want {
		t.Fatalf("Check(%#v): %d, not %d", c, e, want)
	}
	classes, attempts, limits := 0, 0, []int{}
	if want == api.OK {
		classes, attempts, limits = len(c.Limits)+1, 1+c.Retries+c.Preempts, c.Limits
	}
	if n, m := Classes(c), Attempts(c); n != classes || m != attempts {
		t.Fatalf("%#v: %d classes, %d attempts", c, n, m)
	}
	for _, class := range []int{low, low + 1, -4, -3, -2, -1, 0, 1, 2, 3, 4, 5, 6, 1 << 32, 1 << 62, top - 1, top} {
		limit := 0
		if class >= 0 && class < len(limits) {
			limit = limits[class]
		}
		if n := Limit(c, class); n != limit {
			t.Fatalf("Limit(%#v, %d): %d, not %d", c, class, n, limit)
		}
	}
	for i, x := range c.Tenants[:min(len(c.Tenants), 2*api.MaxTenants)] {
		if want != api.OK {
			i = 0
		}
		if n, ok := Tenant(c, x.Name); n != i || ok != (want == api.OK) {
			t.Fatalf("Tenant(%#v, %q): %d, %v", c, x.Name, n, ok)
		}
	}
	for _, name := range []string{"", "*", "A", "nobody", "a ", " a", "aa", "\x00", "a\x00", "\xff", rune16 + "я", rune16[2:]} {
		if slices.ContainsFunc(c.Tenants, func(x api.Tenant) bool { return x.Name == name }) {
			continue
		}
		if n, ok := Tenant(c, name); n != 0 || ok {
			t.Fatalf("Tenant(%#v, %q): %d, %v", c, name, n, ok)
		}
	}
	if !reflect.DeepEqual(c, kept) {
		t.Fatalf("%#v was changed to %#v", kept, c)
	}
}

// named are tenants of these names.
func named(l ...string) (tenants []api.Tenant) {
	for _, s := range l {
		tenants = append(tenants, api.Tenant{Name: s, Weight: 1, Quota: 1})
	}
	return tenants
}

// P7.1, P7.2: what may be, also of all that is as little, or as much, as it may be.
func TestGood(t *testing.T) {
	for _, c := range []api.Config{good(), least(), most()} {
		check(t, c, api.OK)
	}
}

// P7.1: each number of a configuration, at its bounds, and beyond them.
func TestCheckNumbers(t *testing.T) {
	for _, f := range fields {
		values := []int{low, low + 1, -1 << 32, -1, 0, 1, f.low - 1, f.low, f.low + 1, f.high - 1, f.high, f.high + 1, 1<<20 + 1, 1 << 32, 1<<32 + 1, 1<<32 + f.low, top - 1, top}
		for _, v := range values {
			c, want := good(), api.OK
			if *f.of(&c) = v; v < f.low || v > f.high {
				want = api.ErrArg
			}
			if e := Check(c); e != want {
				t.Errorf("%s %d: %d, not %d", f.name, v, e, want)
			}
			check(t, c, want)
		}
	}
}

// P7.1: Most is from Base on, wherever both are.
func TestCheckMost(t *testing.T) {
	rows := []struct {
		base, most int
		want       api.Errno
	}{
		{1, 1, api.OK}, {1, 1 << 20, api.OK}, {1 << 20, 1 << 20, api.OK}, {7, 7, api.OK}, {7, 8, api.OK}, {1<<20 - 1, 1 << 20, api.OK},
		{1 << 20, 1<<20 - 1, api.ErrArg}, {1 << 20, 1, api.ErrArg}, {2, 1, api.ErrArg}, {8, 7, api.ErrArg}, {0, 0, api.ErrArg}, {0, 1, api.ErrArg}, {0, -1, api.ErrArg}, {-1, -1, api.ErrArg}, {-5, 3, api.ErrArg}, {low, low, api.ErrArg}, {low, 1, api.ErrArg}, {low, top, api.ErrArg},
		{1, 0, api.ErrArg}, {1, -1, api.ErrArg}, {1, low, api.ErrArg}, {1, 1<<20 + 1, api.ErrArg}, {1, top, api.ErrArg}, {1<<20 + 1, 1<<20 + 1, api.ErrArg}, {1<<20 + 1, 1 << 20, api.ErrArg}, {1<<20 + 1, 1<<20 + 2, api.ErrArg}, {top, top, api.ErrArg}, {top, low, api.ErrArg}, {top, 1, api.ErrArg},
	}
	for _, x := range rows {
		c := good()
		c.Base, c.Most = x.base, x.most
		check(t, c, x.want)
	}
}

// P7.1: how many tenants, and what their names are.
func TestCheckTenants(t *testing.T) {
	rows := []struct {
		l    []api.Tenant
		want api.Errno
	}{
		{nil, api.ErrMany}, {[]api.Tenant{}, api.ErrMany}, {named("a", "b", "c", "d", "e", "f", "g"), api.ErrMany}, {make([]api.Tenant, 7), api.ErrMany}, {make([]api.Tenant, 1000), api.ErrMany},
		{named("a", "a", "a", "a", "a", "a", "a"), api.ErrMany}, {named("A", "b", "c", "d", "e", "f", "g"), api.ErrMany},
		{named("a"), api.OK}, {named("a", "b", "c", "d", "e", "f"), api.OK}, {named("f", "e", "d", "c", "b", "a"), api.OK}, {named("-", ".", "0", "ä", "я", "σ"), api.OK}, {named("a", "aa", "a-", "a.", "a0", "aä"), api.OK}, {named(rune16, rune16[2:], "a"), api.OK},
		{make([]api.Tenant, 6), api.ErrName}, {make([]api.Tenant, 1), api.ErrName}, {named(""), api.ErrName}, {named("A"), api.ErrName}, {named("a", "A"), api.ErrName}, {named("a", ""), api.ErrName}, {named("a b"), api.ErrName}, {named("*"), api.ErrName}, {named("a_b"), api.ErrName}, {named("Я"), api.ErrName}, {named("ς"), api.ErrName}, {named("÷"), api.ErrName},
		{named("\xff"), api.ErrName}, {named("\x00"), api.ErrName}, {named("a\x00"), api.ErrName}, {named(rune16 + "a"), api.ErrName}, {named("a", "b", "c", "d", "e", rune16+"я"), api.ErrName}, {named(strings.Repeat("a", 1000)), api.ErrName},
		{named("a", "a"), api.ErrThere}, {named("a", "b", "a"), api.ErrThere}, {named("a", "b", "b"), api.ErrThere}, {named("a", "b", "c", "d", "e", "a"), api.ErrThere}, {named("a", "b", "c", "d", "e", "e"), api.ErrThere}, {named(rune16, "a", rune16), api.ErrThere}, {named("a", "a", "a", "a", "a", "a"), api.ErrThere},
	}
	for _, x := range rows {
		c := good()
		c.Tenants = x.l
		check(t, c, x.want)
	}
}

// P7.1: the first tenant that has an error tells its first one, whatever stands behind.
func TestCheckFirst(t *testing.T) {
	a, noWeight, noQuota := api.Tenant{Name: "a", Weight: 1, Quota: 1}, api.Tenant{Name: "a", Quota: 1}, api.Tenant{Name: "a", Weight: 1}
	noName, none := api.Tenant{Name: "A", Weight: 1, Quota: 1}, api.Tenant{Name: "A", Weight: 17, Quota: 257}
	rows := []struct {
		l    []api.Tenant
		want api.Errno
	}{
		{[]api.Tenant{none}, api.ErrName}, {[]api.Tenant{noName, noWeight}, api.ErrName}, {[]api.Tenant{noWeight, noName}, api.ErrArg}, {[]api.Tenant{noQuota, noName}, api.ErrArg}, {[]api.Tenant{noName, a, a}, api.ErrName},
		{[]api.Tenant{a, noWeight}, api.ErrArg}, {[]api.Tenant{a, noQuota}, api.ErrArg}, {[]api.Tenant{noWeight, a}, api.ErrArg}, {[]api.Tenant{noQuota, a}, api.ErrArg}, {[]api.Tenant{noWeight, noQuota}, api.ErrArg},
		{[]api.Tenant{a, a, noName}, api.ErrThere}, {[]api.Tenant{a, a, noWeight}, api.ErrThere}, {[]api.Tenant{a, a, none}, api.ErrThere}, {[]api.Tenant{a, noName, a}, api.ErrName}, {[]api.Tenant{a, none, noName}, api.ErrName}, {[]api.Tenant{noName, noName}, api.ErrName}, {[]api.Tenant{none, none}, api.ErrName},
		{[]api.Tenant{a, {Name: "b", Weight: 1, Quota: 257}, a}, api.ErrArg}, {[]api.Tenant{a, {Name: "b", Weight: 17, Quota: 1}, noName}, api.ErrArg},
	}
	for _, x := range rows {
		c := good()
		c.Tenants = x.l
		check(t, c, x.want)
		c.Limits, c.Cost, c.Watch = []int{4, 3, 2, 1}, 0, -1 // and what is behind the tenants is told of none of these
		check(t, c, x.want)
	}
}

// P7.1: how many limits, and that they rise.
func TestCheckLimits(t *testing.T) {
	rows := []struct {
		l    []int
		want api.Errno
	}{
		{nil, api.OK}, {[]int{}, api.OK}, {[]int{1}, api.OK}, {[]int{1 << 20}, api.OK}, {[]int{1, 2}, api.OK}, {[]int{1, 1 << 20}, api.OK}, {[]int{1, 2, 3}, api.OK}, {[]int{1, 1<<20 - 1, 1 << 20}, api.OK}, {[]int{5, 9, 700}, api.OK},
		{[]int{1, 2, 3, 4}, api.ErrMany}, {[]int{0, 0, 0, 0}, api.ErrMany}, {[]int{4, 3, 2, 1, 0}, api.ErrMany}, {make([]int, 1000), api.ErrMany},
		{[]int{0}, api.ErrArg}, {[]int{-1}, api.ErrArg}, {[]int{low}, api.ErrArg}, {[]int{1<<20 + 1}, api.ErrArg}, {[]int{top}, api.ErrArg}, {[]int{0, 1}, api.ErrArg}, {[]int{0, 1, 2}, api.ErrArg}, {[]int{-1, 0, 1}, api.ErrArg},
		{[]int{1, 1}, api.ErrArg}, {[]int{3, 3}, api.ErrArg}, {[]int{2, 1}, api.ErrArg}, {[]int{1 << 20, 1 << 20}, api.ErrArg}, {[]int{1, 0}, api.ErrArg}, {[]int{1, -1}, api.ErrArg}, {[]int{1, low}, api.ErrArg}, {[]int{1, 1<<20 + 1}, api.ErrArg}, {[]int{1 << 20, 1<<20 + 1}, api.ErrArg},
		{[]int{1, 2, 2}, api.ErrArg}, {[]int{1, 1, 2}, api.ErrArg}, {[]int{1, 3, 2}, api.ErrArg}, {[]int{2, 1, 3}, api.ErrArg}, {[]int{2, 3, 1}, api.ErrArg}, {[]int{3, 5, 4}, api.ErrArg}, {[]int{3, 1, 2}, api.ErrArg}, {[]int{1, 2, 1<<20 + 1}, api.ErrArg}, {[]int{1, 2, top}, api.ErrArg}, {[]int{1, 2, 0}, api.ErrArg}, {[]int{1, 2, low}, api.ErrArg},
		{[]int{top, low}, api.ErrArg}, {[]int{top, low, 1}, api.ErrArg}, {[]int{low, 1}, api.ErrArg}, {[]int{1, top, 2}, api.ErrArg},
	}
	for _, x := range rows {
		c := good()
		c.Limits = x.l
		check(t, c, x.want)
		if c.Quantum = 0; x.want == api.OK { // ErrMany is told ahead of the numbers' error
			x.want = api.ErrArg
		}
		check(t, c, x.want)
	}
}

// P7.2: how many classes, what each one's limit is, and how often is tried.
func TestNumbers(t *testing.T) {
	rows := []struct {
		limits                     []int
		retries, preempts          int
		classes, attempts          int
		first, second, third, last int
	}{
		{nil, 0, 0, 1, 1, 0, 0, 0, 0}, {[]int{7}, 1, 0, 2, 2, 7, 0, 0, 0}, {[]int{3, 8}, 0, 1, 3, 2, 3, 8, 0, 0}, {[]int{3, 8, 1 << 20}, 1, 2, 4, 4, 3, 8, 1 << 20, 0}, {[]int{1}, 5, 5, 2, 11, 1, 0, 0, 0}, {nil, 5, 0, 1, 6, 0, 0, 0, 0}, {nil, 0, 5, 1, 6, 0, 0, 0, 0},
	}
	for _, x := range rows {
		c := good()
		c.Limits, c.Retries, c.Preempts = x.limits, x.retries, x.preempts
		if n, m := Classes(c), Attempts(c); n != x.classes || m != x.attempts {
			t.Errorf("%v: %d classes, %d attempts", x, n, m)
		}
		if a, b, d, e := Limit(c, 0), Limit(c, 1), Limit(c, 2), Limit(c, 3); a != x.first || b != x.second || d != x.third || e != x.last {
			t.Errorf("%v: limits %d, %d, %d, %d", x, a, b, d, e)
		}
		if Limit(c, -1) != 0 || Limit(c, x.classes-1) != 0 || Limit(c, x.classes) != 0 || Limit(c, low) != 0 || Limit(c, top) != 0 {
			t.Errorf("%v: a class that is none has a limit", x)
		}
	}
}

// P7.2: the tenant's number.
func TestTenant(t *testing.T) {
	c := good()
	c.Tenants = named("b", "a", "ba", rune16, "ä", ".")
	for i, s := range []string{"b", "a", "ba", rune16, "ä", "."} {
		if n, ok := Tenant(c, s); n != i || !ok {
			t.Errorf("Tenant(%q): %d, %v", s, n, ok)
		}
	}
	for _, s := range []string{"", "c", "ab", "B", "A", "Ä", "a ", "b.", rune16 + "я", rune16[:30], "\xc3", "\xa4", "a\x00"} {
		if n, ok := Tenant(c, s); n != 0 || ok {
			t.Errorf("Tenant(%q): %d, %v", s, n, ok)
		}
	}
	c.Percent = 0 // what may not be has no tenant
	for _, s := range []string{"b", "a", "ba", ""} {
		if n, ok := Tenant(c, s); n != 0 || ok {
			t.Errorf("Tenant(%q) of what may not be: %d, %v", s, n, ok)
		}
	}
}

// P7.1, P7.2: what is told hangs on what the lists hold now, not on an earlier call.
func TestAgain(t *testing.T) {
	c := good()
	check(t, c, api.OK)
	c.Tenants[1].Name = "a"
	check(t, c, api.ErrThere)
	c.Tenants[0].Name = "b"
	check(t, c, api.OK)
	c.Limits[1] = 3
	check(t, c, api.ErrArg)
	c.Limits[0] = 2
	check(t, c, api.OK)
}

// fault is what may be wrong with a configuration: how it is made, and which error it is.
type fault struct {
	do   func(c *api.Config, r *rand.Rand)
	want api.Errno
}

// faults are in the order in which they are told, of a configuration whose lists have at least two of each.
func faults() []fault {
	beyond := func(f field) func(c *api.Config, r *rand.Rand) {
		return func(c *api.Config, r *rand.Rand) {
			*f.of(c) = []int{f.low - 1, f.high + 1, -1, low, top, 1<<20 + 1, f.high + 1 + r.Intn(1<<30)}[r.Intn(7)]
		}
	}
	number := func(i int) fault { return fault{beyond(fields[i]), api.ErrArg} }
	name := func(i int) fault {
		return fault{func(c *api.Config, r *rand.Rand) {
			c.Tenants[i].Name = []string{"", "A", "*", " ", "\xff", "a=b", rune16 + "a"}[r.Intn(7)]
		}, api.ErrName}
	}
	l := []fault{
		{func(c *api.Config, r *rand.Rand) {
			if c.Tenants = append(c.Tenants, make([]api.Tenant, 7)...); r.Intn(2) == 0 {
				c.Tenants = nil
			}
		}, api.ErrMany},
		name(0), number(single + 2), number(single + 3),
		name(1), number(single + 4), number(single + 5), {func(c *api.Config, r *rand.Rand) { c.Tenants[1].Name = c.Tenants[0].Name }, api.ErrThere},
		{func(c *api.Config, r *rand.Rand) { c.Limits = append(c.Limits, make([]int, 2+r.Intn(3))...) }, api.ErrMany},
	}
	for i := range single + 2 {
		l = append(l, number(i))
	}
	return l
}

// P7.1: of several faults, the one that is named first is told.
func TestCheckOrder(t *testing.T) {
	r := rand.New(rand.NewSource(1))
	l := faults()
	for first, f := range l {
		for odd := range 40 {
			c := good()
			for i := len(l) - 1; i > first; i-- { // from behind on, so that the first one is undone by none
				if r.Intn(odd+1) == 0 {
					l[i].do(&c, r)
				}
			}
			f.do(&c, r)
			check(t, c, f.want)
		}
		for _, g := range l[first+1:] {
			c := good()
			g.do(&c, r)
			f.do(&c, r)
			check(t, c, f.want)
		}
	}
}

// told works out what Check tells: the first one of all errors, in the chapter's order.
func told(c api.Config) api.Errno {
	var l []api.Errno
	add := func(bad bool, e api.Errno) {
		if bad {
			l = append(l, e)
		}
	}
	out := func(n, from, to int) bool { return n < from || to < n }
	add(out(len(c.Tenants), 1, 6), api.ErrMany)
	for i, x := range c.Tenants {
		add(x.Name == "" || strings.Trim(x.Name, "ab.-09äя") != "" || len([]rune(x.Name)) > 16, api.ErrName)
		add(out(x.Weight, 1, 16) || out(x.Quota, 1, 256), api.ErrArg)
		for _, y := range c.Tenants[:i] {
			add(x.Name == y.Name, api.ErrThere)
		}
	}
	add(len(c.Limits) > 3, api.ErrMany)
	for i, n := range c.Limits {
		add(out(n, 1, 1<<20) || i > 0 && n <= c.Limits[i-1], api.ErrArg)
	}
	for _, f := range fields[:single] {
		if f.name != "Base" && f.name != "Most" {
			add(out(*f.of(&c), f.low, f.high), api.ErrArg)
		}
	}
	add(out(c.Base, 1, 1<<20) || out(c.Most, c.Base, 1<<20), api.ErrArg)
	return append(l, api.OK)[0]
}

// some is a random number, mostly from 1 to high, or at what is about it.
func some(r *rand.Rand, high, odd int) int {
	if r.Intn(odd) == 0 {
		return []int{low, -1, 0, high, high + 1, top}[r.Intn(6)]
	}
	return 1 + r.Intn(high)
}

// config is a random configuration, the more of which may not be the less odd is.
func config(r *rand.Rand, odd int) api.Config {
	c := api.Config{Base: some(r, 9, odd), Most: 8 + some(r, 9, odd)%(1<<30)}
	for range r.Intn(5) + r.Intn(5)*r.Intn(odd)/odd {
		name := []string{"a", "b", "ab", "ä", "я", ".-0", "99", rune16, "-" + rune16[2:], "aa", "ba", "bb"}[r.Intn(12)]
		if r.Intn(odd) == 0 {
			name = []string{"", "A", "a b", "\xff", "*", rune16 + "a"}[r.Intn(6)]
		}
		c.Tenants = append(c.Tenants, api.Tenant{Name: name, Weight: some(r, 16, odd), Quota: some(r, 256, odd)})
	}
	ahead := 0
	for range r.Intn(4) + r.Intn(odd+1)/odd {
		ahead += some(r, 1000, odd) % (1 << 40)
		c.Limits = append(c.Limits, ahead)
	}
	for _, f := range fields[:single] {
		if f.name != "Base" && f.name != "Most" {
			*f.of(&c) = some(r, f.high, odd)
		}
	}
	return c
}

// P7.1, P7.2: of any configurations, what is told is what the words tell, and no two calls part.
func TestAny(t *testing.T) {
	r := rand.New(rand.NewSource(2))
	count := map[api.Errno]int{}
	for n := range 20000 {
		c := config(r, []int{3, 20, 100, 1000}[n%4])
		want := told(c)
		count[want]++
		check(t, c, want)
	}
	for _, e := range []api.Errno{api.OK, api.ErrMany, api.ErrName, api.ErrArg, api.ErrThere} {
		if count[e] < 500 {
			t.Errorf("%v", count)
		}
	}
}

// P7.1, P7.2: what nobody filled in may not be.
func TestZero(t *testing.T) {
	check(t, api.Config{}, api.ErrMany)
	check(t, api.Config{Tenants: named("a")}, api.ErrArg)
}
