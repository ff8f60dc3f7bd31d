package octet

import (
	"encoding/binary"
	"math"
	"strings"
	"testing"

	"billet/api"
)

// numbers are those at which a count of bits or of bytes turns, and their neighbours.
func numbers() []uint64 {
	l := []uint64{0, 1, 2, 258, 300, 0x0102030405060708, math.MaxUint64}
	for i := range 64 {
		l = append(l, 1<<i-1, 1<<i, 1<<i+1)
	}
	return l
}

// shorts are all texts of at most n bytes out of those at which a chain turns.
func shorts(n int) []string {
	l := []string{""}
	from := 0
	for range n {
		to := len(l)
		for _, s := range l[from:to] {
			for _, c := range []byte{0x00, 0x01, 0x02, 0x7f, 0x80, 0x81, 0xff} {
				l = append(l, s+string([]byte{c}))
			}
		}
		from = to
	}
	return l
}

// P1.1: v as n bytes, the highest one first.
func TestFixed(t *testing.T) {
	rows := []struct {
		v    uint64
		n    int
		want string
	}{
		{0, 1, "\x00"},
		{255, 1, "\xff"},
		{256, 2, "\x01\x00"},
		{258, 3, "\x00\x01\x02"},
		{0, 8, "\x00\x00\x00\x00\x00\x00\x00\x00"},
		{0x0102030405060708, 8, "\x01\x02\x03\x04\x05\x06\x07\x08"},
		{1 << 63, 8, "\x80\x00\x00\x00\x00\x00\x00\x00"},
	}
	for _, x := range rows {
		if s, e := Fixed(x.v, x.n); s != x.want || e != api.OK {
			t.Errorf("Fixed(%d, %d): %x, %d", x.v, x.n, s, e)
		}
	}
}

// P1.1: each n takes just what is below 2^(8 n).
func TestFixedEdge(t *testing.T) {
	for n := 1; n <= 8; n++ {
		great := uint64(math.MaxUint64) >> (64 - 8*n)
		if s, e := Fixed(great, n); s != strings.Repeat("\xff", n) || e != api.OK {
			t.Errorf("Fixed(%d, %d): %x, %d", great, n, s, e)
		}
		if n == 8 {
			break
		}
		for _, v := range []uint64{great + 1, great + 2, 1 << 63, math.MaxUint64} {
			if s, e := Fixed(v, n); s != "" || e != api.ErrArg {
				t.Errorf("Fixed(%d, %d): %x, %d", v, n, s, e)
			}
		}
	}
}

// P1.1: n is from 1 to 8.
func TestFixedWrongCount(t *testing.T) {
	for _, n := range []int{0, -1, -8, 9, 10, 16, math.MinInt, math.MaxInt} {
		for _, v := range []uint64{0, 1, math.MaxUint64} {
			if s, e := Fixed(v, n); s != "" || e != api.ErrArg {
				t.Errorf("Fixed(%d, %d): %x, %d", v, n, s, e)
			}
		}
	}
}

// P1.1: what Fixed tells is the number, in as many bytes.
func TestFixedNumber(t *testing.T) {
	for _, v := range numbers() {
		for n := 1; n <= 8; n++ {
			s, e := Fixed(v, n)
			if n < 8 && v>>(8*n) > 0 {
				if s != "" || e != api.ErrArg {
					t.Fatalf("Fixed(%d, %d): %x, %d", v, n, s, e)
				}
				continue
			}
			var b [8]byte
			binary.BigEndian.PutUint64(b[:], v)
			if s != string(b[8-n:]) || e != api.OK {
				t.Fatalf("Fixed(%d, %d): %x, %d", v, n, s, e)
			}
			if back, e := Number(s); back != v || e != api.OK {
				t.Fatalf("Number(%x): %d, %d", s, back, e)
			}
		}
	}
}

// P1.1: the number of 1 to 8 bytes, and no other ones.
func TestNumber(t *testing.T) {
	rows := []struct {
		s    string
		want uint64
		e    api.Errno
	}{
		{"", 0, api.ErrArg},
		{"\x00", 0, api.OK},
		{"\xff", 255, api.OK},
		{"\x01\x02", 258, api.OK},
		{"\x00\x01\x02", 258, api.OK},
		{"\x00\x00\x00\x00\x00\x00\x00\x09", 9, api.OK},
		{"\xff\xff\xff\xff\xff\xff\xff\xff", math.MaxUint64, api.OK},
		{"\x00\x00\x00\x00\x00\x00\x00\x00\x09", 0, api.ErrArg},
		{strings.Repeat("\xff", 9), 0, api.ErrArg},
		{strings.Repeat("\x00", 1000), 0, api.ErrArg},
	}
	for _, x := range rows {
		if v, e := Number(x.s); v != x.want || e != x.e {
			t.Errorf("Number(%x): %d, %d", x.s, v, e)
		}
	}
}

// P1.2: seven bits at a time from the lowest on, in as few bytes as can be.
func TestChain(t *testing.T) {
	rows := []struct {
		v    uint64
		want string
	}{
		{0, "\x00"},
		{1, "\x01"},
		{127, "\x7f"},
		{128, "\x80\x01"},
		{300, "\xac\x02"},
		{16383, "\xff\x7f"},
		{16384, "\x80\x80\x01"},
		{1 << 63, "\x80\x80\x80\x80\x80\x80\x80\x80\x80\x01"},
		{math.MaxUint64, "\xff\xff\xff\xff\xff\xff\xff\xff\xff\x01"},
	}
	for _, x := range rows {
		if s := Chain(x.v); s != x.want {
			t.Errorf("Chain(%d): %x", x.v, s)
		}
	}
	for _, v := range numbers() {
		if s, want := Chain(v), string(binary.AppendUvarint(nil, v)); s != want {
			t.Errorf("Chain(%d): %x, not %x", v, s, want)
		}
	}
}

// P1.2: the chain with which a text begins, or which error it has.
func TestUnchain(t *testing.T) {
	nine, zeros := strings.Repeat("\xff", 9), strings.Repeat("\x80", 9)
	rows := []struct {
		s    string
		want uint64
		n    int
		e    api.Errno
	}{
		{"\x00", 0, 1, api.OK},
		{"\x00\x00", 0, 1, api.OK},
		{"\x00\x80", 0, 1, api.OK},
		{"\x7f", 127, 1, api.OK},
		{"\x7f\xff", 127, 1, api.OK},
		{"\xac\x02", 300, 2, api.OK},
		{"\xac\x02\x00", 300, 2, api.OK},
		{"\x80\x80\x01", 16384, 3, api.OK},
		{nine + "\x01", math.MaxUint64, 10, api.OK},
		{nine + "\x01\xff", math.MaxUint64, 10, api.OK},
		{zeros + "\x01", 1 << 63, 10, api.OK},
		{zeros[:8] + "\x7f", 127 << 56, 9, api.OK},
		{"", 0, 0, api.ErrShort},
		{"\x80", 0, 0, api.ErrShort},
		{"\xff", 0, 0, api.ErrShort},
		{nine[:8], 0, 0, api.ErrShort},
		{nine, 0, 0, api.ErrShort},
		{zeros, 0, 0, api.ErrShort},
		{nine + "\xff", 0, 0, api.ErrForm},
		{zeros + "\x80", 0, 0, api.ErrForm},
		{zeros + "\x80\x01", 0, 0, api.ErrForm},
		{nine + "\x81\x00", 0, 0, api.ErrForm},
		{nine + nine + nine, 0, 0, api.ErrForm},
		{nine + "\x02", 0, 0, api.ErrForm},
		{zeros + "\x03", 0, 0, api.ErrForm},
		{nine + "\x7f", 0, 0, api.ErrForm},
		{zeros + "\x00", 0, 0, api.ErrForm},
		{nine + "\x00", 0, 0, api.ErrForm},
		{"\x80\x00", 0, 0, api.ErrForm},
		{"\x80\x00\x01", 0, 0, api.ErrForm},
		{"\xff\x00", 0, 0, api.ErrForm},
		{"\x80\x80\x00", 0, 0, api.ErrForm},
		{zeros[:8] + "\x00", 0, 0, api.ErrForm},
	}
	for _, x := range rows {
		if v, n, e := Unchain(x.s); v != x.want || n != x.n || e != x.e {
			t.Errorf("Unchain(%x): %d, %d, %d", x.s, v, n, e)
		}
	}
}

// P1.2: a text that ends within a chain is short, wherever it ends.
func TestUnchainCut(t *testing.T) {
	for _, v := range numbers() {
		s := Chain(v)
		for i := range len(s) {
			if got, n, e := Unchain(s[:i]); got != 0 || n != 0 || e != api.ErrShort {
				t.Fatalf("Unchain(%x): %d, %d, %d", s[:i], got, n, e)
			}
		}
	}
}

// P1.2: no two chains have one number.
func TestUnchainOneForm(t *testing.T) {
	for _, s := range shorts(5) {
		v, n, e := Unchain(s)
		if e == api.OK && Chain(v) != s[:n] || e != api.OK && (v != 0 || n != 0) {
			t.Fatalf("Unchain(%x): %d, %d, %d", s, v, n, e)
		}
	}
}

// P1.3: how many bytes a text has, and these.
func TestText(t *testing.T) {
	long := strings.Repeat("x", 300)
	rows := []struct{ s, want string }{
		{"", "\x00"},
		{"ab", "\x02ab"},
		{"\x00", "\x01\x00"},
		{"ä", "\x02\xc3\xa4"},
		{"\xff\x80", "\x02\xff\x80"},
		{long[:127], "\x7f" + long[:127]},
		{long[:128], "\x80\x01" + long[:128]},
		{long, "\xac\x02" + long},
	}
	for _, x := range rows {
		if s := Text(x.s); s != x.want {
			t.Errorf("Text(%x): %x", x.s, s)
		}
	}
}

// P1.3: the text with which bytes begin, or which error they have: the first one that applies.
func TestUntext(t *testing.T) {
	long := strings.Repeat("x", 128)
	rows := []struct {
		s    string
		most int
		want string
		n    int
		e    api.Errno
	}{
		{"\x02abc", 9, "ab", 3, api.OK},
		{"\x02abc", 2, "ab", 3, api.OK},
		{"\x02ab", math.MaxInt, "ab", 3, api.OK},
		{"\x00", 0, "", 1, api.OK},
		{"\x00abc", 5, "", 1, api.OK},
		{"\x80\x01" + long, 128, long, 130, api.OK},
		{"\x80\x01" + long + "y", 200, long, 130, api.OK},
		{"", 9, "", 0, api.ErrShort},
		{"\x80", 9, "", 0, api.ErrShort},
		{"\x80\x00abc", 9, "", 0, api.ErrForm},
		{strings.Repeat("\xff", 10), 9, "", 0, api.ErrForm},
		{"\x02abc", 1, "", 0, api.ErrLong},
		{"\x01a", 0, "", 0, api.ErrLong},
		{"\x00", -1, "", 0, api.ErrLong},
		{"\x02abc", -1, "", 0, api.ErrLong},
		{"\x02abc", math.MinInt, "", 0, api.ErrLong},
		{"\x80\x01" + long, 127, "", 0, api.ErrLong},
		{"\x02a", 2, "", 0, api.ErrShort},
		{"\x01", 1, "", 0, api.ErrShort},
		{"\x80\x01" + long[:127], 128, "", 0, api.ErrShort},
		{Chain(math.MaxInt), math.MaxInt, "", 0, api.ErrShort},
		{Chain(math.MaxInt) + "ab", math.MaxInt, "", 0, api.ErrShort},
		// Of two errors the one that is named first.
		{"\x05ab", 3, "", 0, api.ErrLong},
		{"\x80", -1, "", 0, api.ErrShort},
		{"\x80\x00", -1, "", 0, api.ErrForm},
		{Chain(math.MaxInt + 1), math.MaxInt, "", 0, api.ErrLong},
		{Chain(math.MaxUint64) + "ab", math.MaxInt, "", 0, api.ErrLong},
		{Chain(math.MaxUint64), -1, "", 0, api.ErrLong},
	}
	for _, x := range rows {
		if s, n, e := Untext(x.s, x.most); s != x.want || n != x.n || e != x.e {
			t.Errorf("Untext(%x, %d): %x, %d, %d", x.s, x.most, s, n, e)
		}
	}
}

// P1.5: Unchain of Chain is the number, whatever stands behind.
func TestUnchainOfChain(t *testing.T) {
	tails := append(shorts(2), strings.Repeat("\xff", 20), strings.Repeat("\x00", 20))
	for _, v := range numbers() {
		s := Chain(v)
		for _, tail := range tails {
			if got, n, e := Unchain(s + tail); got != v || n != len(s) || e != api.OK {
				t.Fatalf("Unchain(%x): %d, %d, %d", s+tail, got, n, e)
			}
		}
	}
}

// P1.5: Untext of Text is the text, whatever stands behind.
func TestUntextOfText(t *testing.T) {
	texts := append(shorts(2), "a text", "äöü", strings.Repeat("\x80", 127), strings.Repeat("\x00", 128), strings.Repeat("ab", 10000))
	tails := append(shorts(2), strings.Repeat("\xff", 20))
	for _, text := range texts {
		s := Text(text)
		for _, tail := range tails {
			if got, n, e := Untext(s+tail, len(text)); got != text || n != len(s) || e != api.OK {
				t.Fatalf("Untext of a text of %d bytes: %d bytes, %d, %d", len(text), len(got), n, e)
			}
		}
	}
}
