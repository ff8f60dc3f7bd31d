package sum

import (
	"hash/crc32"
	"math/bits"
	"math/rand"
	"slices"
	"strings"
	"testing"
)

// begins are beginnings at which bits turn.
func begins() []uint32 {
	l := []uint32{0, 1, 0x04c11db7, 0x7fffffff, 0x80000000, 0xffffffff}
	for i := range 32 {
		l = append(l, 1<<i)
	}
	return l
}

// random tells n bytes, the same ones for the same seed.
func random(seed int64, n int) string {
	b := make([]byte, n)
	r := rand.New(rand.NewSource(seed))
	for i := range b {
		b[i] = byte(r.Intn(256))
	}
	return string(b)
}

// texts are of all kinds of bytes: none, zeros, all ones, runes, what is no rune, and many.
func texts() []string {
	l := []string{
		"", "\x00", "\x00\x00", "\x01", "\x7f", "\x80", "\xff", "a", "ab", "ba", "123456789",
		"ä€", "\xc3", "\xa4\xc3", "\xff\xfe\xfd", "\x00a", "a\x00",
		strings.Repeat("\x00", 64), strings.Repeat("\xff", 64), strings.Repeat("ab", 500),
	}
	for n := range 20 {
		l = append(l, random(int64(n), n), random(int64(n), 50*n))
	}
	return l
}

// other works the register out by the library's sum, whose bits run the other way round.
func other(begin uint32, s string) uint32 {
	b := []byte(s)
	for i := range b {
		b[i] = bits.Reverse8(b[i])
	}
	return bits.Reverse32(^crc32.Update(^bits.Reverse32(begin), crc32.IEEETable, b))
}

// turn tells s with the bits of a word turned, the word's highest bit at place at of s.
func turn(s string, at int, word uint32) string {
	b := []byte(s)
	for i := range 32 {
		if word<<i>>31 == 1 {
			b[(at+i)/8] ^= 0x80 >> ((at + i) % 8)
		}
	}
	return string(b)
}

// P2.1: the register behind all bytes, as worked out by hand.
func TestCrc(t *testing.T) {
	rows := []struct {
		begin uint32
		s     string
		want  uint32
	}{
		{0, "", 0},
		{1, "", 1},
		{0xffffffff, "", 0xffffffff},
		{0, "\x00", 0},
		{0, "\x00\x00\x00", 0},
		{1, "\x00", 0x100},
		{0, "\x01", 0x04c11db7},
		{0, "\x02", 0x09823b6e},
		{0, "\x03", 0x09823b6e ^ 0x04c11db7},
		{0x01000000, "\x00", 0x04c11db7},
		{0x01000000, "\x01", 0},
		{0x01000001, "\x01", 0x100},
		{0x04c11db7, "\x04", 0xc11db700},
		{0xffffffff, "123456789", 0x0376e6e7},
	}
	for _, x := range rows {
		if v := Crc(x.begin, x.s); v != x.want {
			t.Errorf("Crc(%08x, %x): %08x, not %08x", x.begin, x.s, v, x.want)
		}
	}
}

// P2.1: whatever the beginning and the bytes, also those that are no runes.
func TestCrcAll(t *testing.T) {
	for _, begin := range begins() {
		for c := range 256 {
			s := string([]byte{byte(c)})
			if v, want := Crc(begin, s), other(begin, s); v != want {
				t.Fatalf("Crc(%08x, %x): %08x, not %08x", begin, s, v, want)
			}
		}
		for _, s := range texts() {
			if v, want := Crc(begin, s), other(begin, s); v != want {
				t.Fatalf("Crc(%08x, %x): %08x, not %08x", begin, s, v, want)
			}
		}
	}
	if s := random(1, 200000); Crc(7, s) != other(7, s) {
		t.Error("many bytes")
	}
}

// P2.1: Of is that of all texts, one behind the other, from ffffffff on.
func TestOf(t *testing.T) {
	rows := []struct {
		l    []string
		want uint32
	}{
		{nil, 0xffffffff},
		{[]string{}, 0xffffffff},
		{[]string{""}, 0xffffffff},
		{[]string{"", "", ""}, 0xffffffff},
		{[]string{"123456789"}, 0x0376e6e7},
		{[]string{"1234", "56789"}, 0x0376e6e7},
		{[]string{"", "1", "", "2345678", "9", ""}, 0x0376e6e7},
		{[]string{"1", "2", "3", "4", "5", "6", "7", "8", "9"}, 0x0376e6e7},
		{[]string{"\x00"}, 0x4e08bfb4},
	}
	for _, x := range rows {
		kept := slices.Clone(x.l)
		if v := Of(x.l...); v != x.want {
			t.Errorf("Of(%q): %08x, not %08x", x.l, v, x.want)
		}
		if !slices.Equal(kept, x.l) {
			t.Errorf("Of changed %q to %q", kept, x.l)
		}
	}
	if v := Of(); v != 0xffffffff {
		t.Errorf("Of(): %08x", v)
	}
	if v, want := Of(texts()...), other(0xffffffff, strings.Join(texts(), "")); v != want {
		t.Errorf("Of all texts: %08x, not %08x", v, want)
	}
}

// P2.1: texts are known by their order, and by the zeros in front and behind.
func TestOfOrder(t *testing.T) {
	seen := map[uint32][]string{}
	for _, l := range [][]string{
		{}, {"\x00"}, {"\x00", "\x00"}, {"a", "b"}, {"b", "a"}, {"\x00", "a"}, {"a", "\x00"}, {"a"}, {"a", "a"},
	} {
		v := Of(l...)
		if m, ok := seen[v]; ok {
			t.Errorf("Of(%q) and Of(%q): %08x", m, l, v)
		}
		seen[v] = l
	}
}

// P2.2: the sum of two texts is that of the second one from that of the first one on, wherever they part.
func TestBehind(t *testing.T) {
	for _, begin := range begins() {
		for _, s := range texts() {
			if len(s) > 64 {
				continue
			}
			all := Crc(begin, s)
			for i := range len(s) + 1 {
				if v := Crc(Crc(begin, s[:i]), s[i:]); v != all {
					t.Fatalf("Crc(%08x, %x) parted at %d: %08x, not %08x", begin, s, i, v, all)
				}
			}
		}
	}
	for _, a := range texts() {
		for _, b := range texts() {
			if v, w := Of(a+b), Of(a, b); v != w || v != Crc(Of(a), b) {
				t.Fatalf("%x and %x: %08x, %08x, %08x", a, b, v, w, Crc(Of(a), b))
			}
		}
	}
}

// P2.3: whichever bits within 16 in a row differ, the sums are unlike.
func TestUnlikeShort(t *testing.T) {
	s := random(3, 12)
	for _, at := range []int{0, 5, 8, 31, 48, 64} {
		sum := Of(s)
		for word := uint32(1); word < 1<<16; word++ {
			if u := turn(s, at, word<<16); u == s || Of(u) == sum {
				t.Fatalf("%x and %x: %08x", s, u, sum)
			}
		}
	}
}

// P2.3: some of those that differ within 32 bits in a row, at each place, in each length, from each beginning.
func TestUnlike(t *testing.T) {
	words := []uint32{0xffffffff, 0x80000001, 0x04c11db7, 0x82608edb, 0xedb88320, 0xdb710641, 0xaaaaaaaa, 0x55555555}
	for i := range 32 {
		words = append(words, 1<<i, 0xffffffff>>i, 0xffffffff<<i)
	}
	r := rand.New(rand.NewSource(4))
	for range 20 {
		words = append(words, r.Uint32()|1)
	}
	for _, n := range []int{4, 5, 8, 48, 64} {
		s := random(int64(n), n)
		for _, begin := range []uint32{0, 1, 0x80000000, 0xffffffff} {
			sum := Crc(begin, s)
			for at := range 8*n - 31 {
				for _, word := range words {
					if u := turn(s, at, word); u == s || Crc(begin, u) == sum {
						t.Fatalf("from %08x on, %x and %x: %08x", begin, s, u, sum)
					}
				}
			}
		}
	}
}

// P2.3: all of those. Bits that differ add up in the sum, by xor; so none that differ are lost, if no one of 32 in a row is what others of them add up to.
func TestUnlikeAll(t *testing.T) {
	s := random(5, 64)
	sum := Of(s)
	for at := range 8*len(s) - 31 {
		var base [32]uint32 // by their highest bits
		for i := range 32 {
			d := sum ^ Of(turn(s, at, 1<<i))
			for d != 0 && base[bits.Len32(d)-1] != 0 {
				d ^= base[bits.Len32(d)-1]
			}
			if d == 0 {
				t.Fatalf("bits from %d on: some that differ are lost", at)
			}
			base[bits.Len32(d)-1] = d
		}
	}
	r := rand.New(rand.NewSource(6))
	for range 1000 {
		a, b := random(r.Int63(), 64), random(r.Int63(), 64)
		both := []byte(a)
		for i := range both {
			both[i] ^= b[i] ^ s[i]
		}
		if Of(string(both)) != Of(a)^Of(b)^sum {
			t.Fatalf("bits of %x and %x do not add up", a, b)
		}
	}
}
