package prop

import (
	"math/rand"
	"slices"
	"sort"
	"strings"
	"testing"

	"billet/api"
)

// pairs are the pairs of keys and values that stand in turn.
func pairs(l ...string) (p []api.Pair) {
	for i := 0; i < len(l); i += 2 {
		p = append(p, api.Pair{Key: l[i], Value: l[i+1]})
	}
	return p
}

// rune16 is the longest name, of 16 runes and 32 bytes.
var rune16 = strings.Repeat("я", 16)

// platforms are texts that are platforms.
var platforms = []string{
	"", "a=b", "a=*", "os=a,arch=b", "b=1,a=*", "a=1,b=1,c=1,d=1,e=1,f=1", "f=1,e=*,d=1,c=*,b=1,a=*",
	"-=-", ".=.", "7=7", "ä=σ,я=*", "aa=1,a=2,ab=3", "a-=1,a=2,a.=3,a0=4", rune16 + "=" + rune16,
}

// wrongs are texts that are none, each with its error.
var wrongs = []struct {
	s    string
	want api.Errno
}{
	{"a=1,b=1,c=1,d=1,e=1,f=1,", api.ErrMany}, {"a=1,b=1,c=1,d=1,e=1,f=1,g=1", api.ErrMany}, {",,,,,,", api.ErrMany},
	{"x,A=1,a=1,a=1,=,b=,g=1", api.ErrMany}, {strings.Repeat(",", 1000), api.ErrMany},
	{",,,,,", api.ErrForm}, {",", api.ErrForm}, {"a", api.ErrForm}, {"*", api.ErrForm}, {" ", api.ErrForm}, {"\xff", api.ErrForm},
	{"a=1,", api.ErrForm}, {",a=1", api.ErrForm}, {"a=1,,b=1", api.ErrForm}, {"a=1,b", api.ErrForm},
	{"a=b=c", api.ErrForm}, {"==", api.ErrForm}, {"a==", api.ErrForm}, {"a==b", api.ErrForm}, {"A=B=C", api.ErrForm}, {"a=1,a=1=1", api.ErrForm}, {"a:1", api.ErrForm},
	{"=", api.ErrName}, {"a=", api.ErrName}, {"=a", api.ErrName}, {"=*", api.ErrName}, {"*=x", api.ErrName}, {"*=*", api.ErrName}, {"a=**", api.ErrName}, {"a=b*", api.ErrName}, {"a=*b", api.ErrName}, {"a*=b", api.ErrName},
	{"A=b", api.ErrName}, {"a=B", api.ErrName}, {"A=*", api.ErrName}, {"a =b", api.ErrName}, {"a= b", api.ErrName}, {"a= *", api.ErrName}, {" a=b", api.ErrName}, {"a=b, c=d", api.ErrName}, {"a=b;c", api.ErrName},
	{"a=\xff", api.ErrName}, {"\xff=a", api.ErrName}, {"a=\x00", api.ErrName}, {"a=*\x00", api.ErrName}, {"a_b=c", api.ErrName},
	{rune16 + "a=b", api.ErrName}, {"b=" + rune16 + "a", api.ErrName}, {"a=1,a=B", api.ErrName}, {"a=1,a=", api.ErrName},
	{"a=x,a=y", api.ErrThere}, {"a=x,a=x", api.ErrThere}, {"a=*,a=x", api.ErrThere}, {"a=x,a=*", api.ErrThere}, {"a=1,b=1,c=1,d=1,e=1,a=1", api.ErrThere}, {"a=1,b=1,b=2,c=1", api.ErrThere}, {rune16 + "=1," + rune16 + "=2", api.ErrThere},
	// the first piece that has an error tells it, whatever stands behind
	{"a=1,a=2,b", api.ErrThere}, {"a=1,a=2,B=1", api.ErrThere}, {"B=1,b", api.ErrName}, {"B=1,a=1,a=2", api.ErrName}, {"b,B=1", api.ErrForm}, {"b,a=1,a=2", api.ErrForm}, {"a=B,a=1=1", api.ErrName}, {"A=1,A=1", api.ErrName}, {"a,a", api.ErrForm},
}

// P4.1: the pairs, in order.
func TestParse(t *testing.T) {
	rows := []struct {
		s    string
		want []api.Pair
	}{
		{"", nil}, {"a=b", pairs("a", "b")}, {"a=*", pairs("a", "*")}, {"b=1,a=*", pairs("b", "1", "a", "*")},
		{"a=a", pairs("a", "a")}, {"b=a,a=a", pairs("b", "a", "a", "a")}, {"a=b,b=a", pairs("a", "b", "b", "a")},
		{"os=a,arch=b", pairs("os", "a", "arch", "b")}, {"a=*,b=*", pairs("a", "*", "b", "*")},
		{"f=1,e=2,d=3,c=4,b=5,a=6", pairs("f", "1", "e", "2", "d", "3", "c", "4", "b", "5", "a", "6")},
		{"ä=σ,.-=-.", pairs("ä", "σ", ".-", "-.")}, {"aa=1,a=2", pairs("aa", "1", "a", "2")},
		{rune16 + "=" + rune16, pairs(rune16, rune16)},
	}
	for _, x := range rows {
		if l, e := Parse(x.s); e != api.OK || !slices.Equal(l, x.want) {
			t.Errorf("Parse(%q): %v, %d", x.s, l, e)
		}
	}
}

// P4.1: each error, ahead of those behind it, with no pairs beside it.
func TestParseWrong(t *testing.T) {
	for _, x := range wrongs {
		if l, e := Parse(x.s); e != x.want || len(l) != 0 {
			t.Errorf("Parse(%q): %v, %d, not %d", x.s, l, e, x.want)
		}
	}
}

// P4.1: what is answered is the caller's own.
func TestParseOwn(t *testing.T) {
	l, _ := Parse("a=1,b=2")
	l[0] = api.Pair{Key: "x"}
	if m, _ := Parse("a=1,b=2"); !slices.Equal(m, pairs("a", "1", "b", "2")) {
		t.Errorf("%v", m)
	}
}

// P4.1: the pieces of any pairs, with commas between.
func TestShow(t *testing.T) {
	rows := []struct {
		l    []api.Pair
		want string
	}{
		{nil, ""}, {[]api.Pair{}, ""}, {pairs("a", "b"), "a=b"}, {pairs("b", "1", "a", "*"), "b=1,a=*"},
		{pairs("", ""), "="}, {pairs("", "", "", ""), "=,="}, {pairs("a", "x", "a", "y"), "a=x,a=y"}, {pairs("A=", ",", "\xff", ""), "A==,,\xff="},
		{pairs("g", "1", "f", "1", "e", "1", "d", "1", "c", "1", "b", "1", "a", "1"), "g=1,f=1,e=1,d=1,c=1,b=1,a=1"},
	}
	for _, x := range rows {
		l := slices.Clone(x.l)
		if s := Show(l); s != x.want {
			t.Errorf("Show(%v): %q", x.l, s)
		}
		if !slices.Equal(l, x.l) {
			t.Errorf("Show changed %v to %v", x.l, l)
		}
	}
}

// P4.1: Show of what Parse tells is what was parsed.
func TestShowParsed(t *testing.T) {
	for _, s := range platforms {
		if l, e := Parse(s); e != api.OK || Show(l) != s {
			t.Errorf("Show of Parse(%q): %q, %d", s, Show(l), e)
		}
	}
}

// P4.2: the pieces by rising keys, byte by byte.
func TestCanon(t *testing.T) {
	rows := []struct{ s, want string }{
		{"", ""}, {"a=b", "a=b"}, {"os=a,arch=b", "arch=b,os=a"}, {"b=1,a=*", "a=*,b=1"}, {"a=*,b=1", "a=*,b=1"},
		{"aa=1,a=2,ab=3", "a=2,aa=1,ab=3"}, {"b=1,a=2,c=0", "a=2,b=1,c=0"}, {"c=*,b=*,a=*", "a=*,b=*,c=*"},
		// a sign or a digit lies below = or above it, but keys are held against each other without it
		{"a0=4,a.=3,a-=1,a=2", "a=2,a-=1,a.=3,a0=4"}, {"a-=1,a=2", "a=2,a-=1"},
		{"я=1,z=2,ä=3,σ=4,7=5,-=6", "-=6,7=5,z=2,ä=3,σ=4,я=1"}, {"10=a,9=b,1=c", "1=c,10=a,9=b"},
		{"f=1,e=*,d=1,c=*,b=1,a=*", "a=*,b=1,c=*,d=1,e=*,f=1"},
	}
	for _, x := range rows {
		if s, e := Canon(x.s); e != api.OK || s != x.want {
			t.Errorf("Canon(%q): %q, %d", x.s, s, e)
		}
	}
	for _, x := range wrongs {
		if s, e := Canon(x.s); e != x.want || s != "" {
			t.Errorf("Canon(%q): %q, %d, not %d", x.s, s, e, x.want)
		}
	}
}

// P4.2: what matches, and what does not.
func TestMatch(t *testing.T) {
	rows := []struct {
		platform, need string
		want           bool
	}{
		{"", "", true}, {"a=1", "", true}, {"", "a=1", false}, {"", "a=*", false},
		{"a=1", "a=1", true}, {"a=1", "a=2", false}, {"a=1", "b=1", false}, {"a=1", "b=*", false}, {"a=1", "aa=1", false}, {"aa=1", "a=1", false},
		{"a=1", "a=*", true}, {"a=*", "a=1", true}, {"a=*", "a=*", true}, {"a=*", "b=*", false}, {"a=*", "b=1", false}, {"a=b", "b=a", false},
		{"a=1,b=2", "b=2", true}, {"a=1,b=2", "a=1", true}, {"a=1,b=2", "a=1,b=2", true}, {"a=1,b=2", "b=2,a=1", true}, {"a=1,b=2", "a=2,b=1", false},
		{"a=1", "a=1,b=2", false}, {"a=1", "b=2,a=1", false}, {"a=1,b=2", "a=1,b=3", false}, {"a=1,b=2", "b=3,a=1", false}, {"a=1,b=2", "a=1,c=2", false},
		{"a=1,b=*", "a=*,b=2", true}, {"a=1,b=*", "a=2,b=2", false}, {"os=a,gpu=*", "gpu=x", true}, {"os=a,gpu=x", "gpu=y", false},
		{"a=1,b=1,c=1,d=1,e=1,f=1", "f=1,e=1,d=1,c=1,b=1,a=1", true}, {"a=1,b=1,c=1,d=1,e=1,f=1", "f=1,e=1,d=1,c=1,b=1,a=2", false},
		{"a=1", "a=11", false}, {"a=11", "a=1", false}, {"ä=σ", "ä=σ", true}, {"ä=σ", "ä=я", false},
		{"a", "", false}, {"", "a", false}, {"a", "a", false}, {"a=*", "a=", false}, {"a=", "a=*", false}, {"a=A", "a=A", false}, {"a=A", "a=*", false}, {"a=*", "a=A", false},
		{"a=1,a=1", "a=1", false}, {"a=1", "a=1,a=1", false}, {"a=1,A=1", "a=1", false}, {"a=1,", "a=1", false}, {"a=1", "a=1,", false},
		{"a=1,b=1,c=1,d=1,e=1,f=1,g=1", "a=1", false}, {"a=1", "a=1,b=1,c=1,d=1,e=1,f=1,g=1", false},
	}
	for _, x := range rows {
		if v := Match(x.platform, x.need); v != x.want {
			t.Errorf("Match(%q, %q): %v", x.platform, x.need, v)
		}
	}
}

// P4.2: what is no platform matches nothing, on either side.
func TestMatchWrong(t *testing.T) {
	for _, x := range wrongs {
		for _, s := range append([]string{x.s}, platforms...) {
			if Match(x.s, s) || Match(s, x.s) {
				t.Errorf("%q and %q match", x.s, s)
			}
		}
	}
}

// some is a random platform, as the pieces and as the values by keys.
func some(r *rand.Rand) ([]string, map[string]string) {
	var l []string
	m := map[string]string{}
	keys := []string{"a", "b", "c", "aa", "a-", "a.", "ä", "я", "0"}
	r.Shuffle(len(keys), func(i, j int) { keys[i], keys[j] = keys[j], keys[i] })
	for _, k := range keys[:r.Intn(api.MaxProps+1)] {
		m[k] = []string{"x", "y", "*", "*"}[r.Intn(4)]
		l = append(l, k+"="+m[k])
	}
	return l, m
}

// canonical tells the platform of the values by keys.
func canonical(m map[string]string) string {
	var keys, l []string
	for k := range m {
		keys = append(keys, k)
	}
	sort.Strings(keys)
	for _, k := range keys {
		l = append(l, k+"="+m[k])
	}
	return strings.Join(l, ",")
}

// matches tells whether each value that is asked for is had.
func matches(has, asked map[string]string) bool {
	for k, v := range asked {
		w, ok := has[k]
		if !ok || v != w && v != "*" && w != "*" {
			return false
		}
	}
	return true
}

// P4.2, P4.3: of any platforms, in whatever order their pieces stand, Canon and Match tell the same; and Canon of what is canonical is the same.
func TestOrder(t *testing.T) {
	r := rand.New(rand.NewSource(1))
	count := map[bool]int{}
	for range 3000 {
		l, has := some(r)
		k, asked := some(r)
		if r.Intn(2) == 0 { // ask for a part of what is had, so that both answers are common
			k, asked = nil, map[string]string{}
			for _, s := range l[:r.Intn(len(l)+1)] {
				key, _, _ := strings.Cut(s, "=")
				asked[key] = []string{"x", "*"}[r.Intn(2)]
				k = append(k, key+"="+asked[key])
			}
		}
		want := matches(has, asked)
		count[want]++
		for range 4 {
			r.Shuffle(len(l), func(i, j int) { l[i], l[j] = l[j], l[i] })
			r.Shuffle(len(k), func(i, j int) { k[i], k[j] = k[j], k[i] })
			p, n := strings.Join(l, ","), strings.Join(k, ",")
			c, e := Canon(p)
			if e != api.OK || c != canonical(has) {
				t.Fatalf("Canon(%q): %q, %d", p, c, e)
			}
			if d, e := Canon(c); e != api.OK || d != c {
				t.Fatalf("Canon(%q): %q, %d", c, d, e)
			}
			if Match(p, n) != want || Match(c, n) != want || Match(p, canonical(asked)) != want {
				t.Fatalf("Match(%q, %q): %v", p, n, !want)
			}
		}
	}
	if count[true] < 300 || count[false] < 300 {
		t.Errorf("%v", count)
	}
}

// P4.1, P4.2: of any bytes nothing panics; what is told as a platform is its pairs, and what is none is refused by all calls with one error.
func TestAny(t *testing.T) {
	r := rand.New(rand.NewSource(2))
	good := 0
	for n := range 20000 {
		var b strings.Builder
		for range n % 12 {
			b.WriteString([]string{"a", "b", "=", "=", ",", "*", "A", "ä", "\xff"}[r.Intn(9)])
		}
		s := b.String()
		l, e := Parse(s)
		c, f := Canon(s)
		if e != f || Match(s, s) != (e == api.OK) || Match(s, "") != (e == api.OK) || Match("", s) != (e == api.OK && s == "") {
			t.Fatalf("%q: %d, %d", s, e, f)
		}
		if e == api.OK {
			good++
			if Show(l) != s || len(c) != len(s) {
				t.Fatalf("%q: %q, %q", s, Show(l), c)
			}
		} else if len(l) != 0 || c != "" || !slices.Contains([]api.Errno{api.ErrMany, api.ErrForm, api.ErrName, api.ErrThere}, e) {
			t.Fatalf("%q: %v, %d", s, l, e)
		}
	}
	if good < 300 {
		t.Errorf("only %d platforms", good)
	}
}
