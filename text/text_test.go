package text

import (
	"math"
	"math/rand"
	"strings"
	"testing"
	"unicode/utf8"

	"billet/api"
)

// The letters, written out.
const (
	smalls = "abcdefghijklmnopqrstuvwxyz" +
		"àáâãäåæçèéêëìíîïðñòóôõöøùúûüýþ" +
		"αβγδεζηθικλμνξοπρστυφχψω" +
		"абвгдежзийклмнопрстуфхцчшщъыьэюя"
	greats = "ABCDEFGHIJKLMNOPQRSTUVWXYZ" +
		"ÀÁÂÃÄÅÆÇÈÉÊËÌÍÎÏÐÑÒÓÔÕÖØÙÚÛÜÝÞ" +
		"ΑΒΓΔΕΖΗΘΙΚΛΜΝΞΟΠΡΣΤΥΦΧΨΩ" +
		"АБВГДЕЖЗИЙКЛМНОПРСТУФХЦЧШЩЪЫЬЭЮЯ"
)

// kinds are the kinds of all runes that have one.
func kinds() map[rune]int {
	m := map[rune]int{}
	for k, s := range map[int]string{1: smalls, 2: "0123456789", 3: "-.", 4: greats} {
		for _, r := range s {
			m[r] = k
		}
	}
	return m
}

// texts are of all kinds of runes, and of bytes that belong to none.
func texts() []string {
	l := []string{
		"", "a", "A", "ä", "Ä", "7", "-", ".", " ", "a b", "ÄB-1", "ß", "÷×ςϋ", "İı", "K", "ſ",
		"\xff", "\xff\xff", "\xc3", "\xe2\x82", "a\xe2\x82b", "\xed\xa0\x80", "\xf4\x90\x80\x80", "\xc0\x80", "\ufffd", "\x00", "\U0010ffff",
		smalls, greats, strings.Repeat("Ж", 1000),
	}
	pieces := []string{"a", "Z", "é", "É", "Σ", "ς", "σ", "Я", "я", "0", "-", ".", " ", "€", "😀", "\xff", "\xc3", "\xa4", "\xf0\x9f", "\ufffd"}
	r := rand.New(rand.NewSource(1))
	for n := range 2000 {
		var b strings.Builder
		for range n % 20 {
			b.WriteString(pieces[r.Intn(len(pieces))])
		}
		l = append(l, b.String())
	}
	for n := range 2000 {
		b := make([]byte, n%20)
		r.Read(b)
		l = append(l, string(b))
	}
	return l
}

// runes are the runes of s, told one by one, each with its bytes.
func runes(s string) (l []rune, bytes []string) {
	for s != "" {
		r, n := utf8.DecodeRuneInString(s)
		l, bytes = append(l, r), append(bytes, s[:n])
		s = s[n:]
	}
	return l, bytes
}

// P3.1: each rune has its kind, those beside the letters and those that are none have 0.
func TestKind(t *testing.T) {
	m := kinds()
	for r := rune(-1000); r < utf8.MaxRune+1000; r++ {
		if k := Kind(r); k != m[r] {
			t.Errorf("Kind(%U): %d, not %d", r, k, m[r])
		}
	}
	for _, r := range []rune{math.MinInt32, math.MinInt32 + 1, -'a', math.MaxInt32, math.MaxInt32 - 31, math.MaxInt32 - 32, 1<<16 + 'a', 1<<24 + 'A', 1<<30 + '0'} {
		if k := Kind(r); k != 0 {
			t.Errorf("Kind(%d): %d", r, k)
		}
	}
}

// P3.1: the edges that the chapter names.
func TestKindEdges(t *testing.T) {
	rows := []struct {
		r    rune
		want int
	}{
		{'`', 0}, {'a', 1}, {'z', 1}, {'{', 0},
		{0xdf, 0}, {0xe0, 1}, {0xf6, 1}, {0xf7, 0}, {0xf8, 1}, {0xfe, 1}, {0xff, 0},
		{0x3b0, 0}, {0x3b1, 1}, {0x3c1, 1}, {0x3c2, 0}, {0x3c3, 1}, {0x3c9, 1}, {0x3ca, 0},
		{0x42f, 4}, {0x430, 1}, {0x44f, 1}, {0x450, 0},
		{'/', 0}, {'0', 2}, {'9', 2}, {':', 0},
		{',', 0}, {'-', 3}, {'.', 3}, {'_', 0}, {'+', 0},
		{'@', 0}, {'A', 4}, {'Z', 4}, {'[', 0},
		{0xbf, 0}, {0xc0, 4}, {0xd6, 4}, {0xd7, 0}, {0xd8, 4}, {0xde, 4},
		{0x390, 0}, {0x391, 4}, {0x3a1, 4}, {0x3a2, 0}, {0x3a3, 4}, {0x3a9, 4}, {0x3aa, 0},
		{0x40f, 0}, {0x410, 4},
		{0x660, 0}, {0xff11, 0}, {0x2010, 0}, {0x212a, 0}, {utf8.RuneError, 0}, {0, 0}, {-1, 0},
	}
	for _, x := range rows {
		if k := Kind(x.r); k != x.want {
			t.Errorf("Kind(%U): %d, not %d", x.r, k, x.want)
		}
	}
}

// P3.1: each great letter lies 32 below its small one, and each small one has its great one.
func TestKindPairs(t *testing.T) {
	for r := rune(0); r < utf8.MaxRune; r++ {
		if (Kind(r) == 4) != (Kind(r+32) == 1) {
			t.Errorf("%U: %d, and 32 above it %d", r, Kind(r), Kind(r+32))
		}
	}
}

// P3.2: what is a name, and what is none.
func TestName(t *testing.T) {
	rows := []struct {
		s    string
		want bool
	}{
		{"a", true}, {"ä", true}, {"7", true}, {"-", true}, {".", true}, {"äσя-7.", true},
		{"", false}, {"A", false}, {"Ä", false}, {"aB", false}, {" ", false}, {"a b", false}, {"a ", false}, {" a", false},
		{"ß", false}, {"÷", false}, {"ς", false}, {"a_b", false}, {"a\x00", false}, {"\x00", false}, {"a\n", false},
		{"\xff", false}, {"a\xff", false}, {"\xc3", false}, {"\ufffd", false},
		{strings.Repeat("a", 15), true}, {strings.Repeat("a", 16), true}, {strings.Repeat("a", 17), false},
		{strings.Repeat("я", 16), true}, {strings.Repeat("я", 17), false}, {strings.Repeat(".", 16), true},
		{strings.Repeat("a", 15) + "A", false}, {strings.Repeat("a", 15) + "\xc3", false}, {strings.Repeat("a", 16) + "\xc3", false},
		{strings.Repeat("a", 1000), false},
	}
	for _, x := range rows {
		if v := Name(x.s); v != x.want {
			t.Errorf("Name(%q): %v", x.s, v)
		}
	}
	m := kinds()
	for r := range rune(0x3000) {
		if s := string(r); Name(s) != (m[r] > 0 && m[r] < 4) {
			t.Errorf("Name(%q): %v", s, Name(s))
		}
	}
}

// P3.2: a name has from 1 to MaxRunes runes, of the kinds 1 to 3, whatever the text.
func TestNameAll(t *testing.T) {
	m := kinds()
	for _, s := range texts() {
		l, _ := runes(s)
		want := len(l) >= 1 && len(l) <= api.MaxRunes
		for _, r := range l {
			want = want && m[r] >= 1 && m[r] <= 3
		}
		if v := Name(s); v != want {
			t.Errorf("Name(%q): %v", s, v)
		}
	}
}

// P3.2: great letters are told as small ones, all others as they are, and bytes that belong to no rune as U+FFFD.
func TestFold(t *testing.T) {
	rows := []struct{ s, want string }{
		{"", ""}, {"ÄB-1", "äb-1"}, {greats, smalls}, {smalls, smalls},
		{"0123456789-.", "0123456789-."}, {"×÷ςΪßĀ Й", "×÷ςΪßĀ й"}, {"Σς", "σς"}, {"\u03a2", "\u03a2"},
		{"\u212a\u0130\u01c4\u1e9e", "\u212a\u0130\u01c4\u1e9e"}, {"@[`{", "@[`{"},
		{"\xff", "\ufffd"}, {"A\xff\xfeB", "a\ufffd\ufffdb"}, {"\xe2\x82", "\ufffd\ufffd"}, {"\xc3A", "\ufffda"}, {"\xed\xa0\x80", "\ufffd\ufffd\ufffd"}, {"\ufffd", "\ufffd"},
		{"\x00A\x00", "\x00a\x00"}, {"😀Ж", "😀ж"},
		{strings.Repeat("ÄB", 5000), strings.Repeat("äb", 5000)},
	}
	for _, x := range rows {
		if v := Fold(x.s); v != x.want {
			t.Errorf("Fold(%q): %q, not %q", x.s, v, x.want)
		}
	}
	m := kinds()
	for _, s := range texts() {
		l, _ := runes(s)
		for i, r := range l {
			if m[r] == 4 {
				l[i] = r + 32
			}
		}
		if v := Fold(s); v != string(l) {
			t.Errorf("Fold(%q): %q, not %q", s, v, string(l))
		}
	}
}

// P3.2: how many runes, each byte that belongs to none as one.
func TestCount(t *testing.T) {
	rows := []struct {
		s    string
		want int
	}{
		{"", 0}, {"a", 1}, {"ä", 1}, {"€", 1}, {"😀", 1}, {"äσ\xff\xff", 4}, {"\xe2\x82", 2}, {"\xc3a", 2}, {"\xed\xa0\x80", 3}, {"\x00\x00", 2}, {"e\u0301", 2},
		{strings.Repeat("я", 100000), 100000},
	}
	for _, x := range rows {
		if n := Count(x.s); n != x.want {
			t.Errorf("Count(%q): %d, not %d", x.s, n, x.want)
		}
	}
	for _, s := range texts() {
		if l, _ := runes(s); Count(s) != len(l) {
			t.Errorf("Count(%q): %d, not %d", s, Count(s), len(l))
		}
	}
}

// P3.2: the first runes as their bytes stand in the text, also those that belong to no rune.
func TestHead(t *testing.T) {
	rows := []struct {
		s    string
		n    int
		want string
	}{
		{"äσя", 0, ""}, {"äσя", -1, ""}, {"äσя", math.MinInt, ""},
		{"äσя", 1, "ä"}, {"äσя", 2, "äσ"}, {"äσя", 3, "äσя"}, {"äσя", 4, "äσя"}, {"äσя", math.MaxInt, "äσя"},
		{"", 0, ""}, {"", 1, ""}, {"", -1, ""}, {"a", 0, ""}, {"a", 1, "a"},
		{"ÄB", 1, "Ä"}, {"\xff\xfea", 1, "\xff"}, {"\xff\xfea", 2, "\xff\xfe"}, {"\xff\xfea", 3, "\xff\xfea"},
		{"\xe2\x82a", 1, "\xe2"}, {"a\xc3", 2, "a\xc3"}, {"\ufffda", 1, "\ufffd"}, {"\x00\x00", 1, "\x00"},
	}
	for _, x := range rows {
		if v := Head(x.s, x.n); v != x.want {
			t.Errorf("Head(%q, %d): %q, not %q", x.s, x.n, v, x.want)
		}
	}
	for _, s := range texts() {
		_, l := runes(s)
		for n := -1; n < min(len(l)+2, 40); n++ {
			want := strings.Join(l[:max(0, min(n, len(l)))], "")
			if v := Head(s, n); v != want {
				t.Errorf("Head(%q, %d): %q, not %q", s, n, v, want)
			}
		}
	}
}

// P3.3: a name is as it is folded; what is folded stays so, and has as many runes.
func TestFolded(t *testing.T) {
	names := 0
	for _, s := range append(texts(), "äb-1", strings.Repeat("ω", 16), "0.-") {
		f := Fold(s)
		if Name(s) {
			names++
			if f != s {
				t.Errorf("the name %q is folded to %q", s, f)
			}
		}
		if g := Fold(f); g != f {
			t.Errorf("%q is folded to %q, and that to %q", s, f, g)
		}
		if Count(f) != Count(s) {
			t.Errorf("%q has %d runes, folded %d", s, Count(s), Count(f))
		}
	}
	if names < 10 {
		t.Errorf("of the texts only %d are names", names)
	}
	for r := rune(0); r <= utf8.MaxRune; r++ {
		f := Fold(string(r))
		if Fold(f) != f || Count(f) != 1 || Name(string(r)) && f != string(r) {
			t.Errorf("%U is folded to %q", r, f)
		}
	}
}
