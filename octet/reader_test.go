package octet

import (
	"math"
	"strings"
	"testing"

	"billet/api"
)

// read is a way to read, told as one kind of answer; zero is what it tells beside an error.
type read struct {
	name string
	do   func(r *Reader) any
	zero any
}

func reads() []read {
	return []read{
		{"Int", func(r *Reader) any { return r.Int(300) }, 0},
		{"Int below 0", func(r *Reader) any { return r.Int(-1) }, 0},
		{"Num", func(r *Reader) any { return r.Num() }, uint64(0)},
		{"Str", func(r *Reader) any { return r.Str(300) }, ""},
		{"Str below 0", func(r *Reader) any { return r.Str(-1) }, ""},
		{"Flag", func(r *Reader) any { return r.Flag() }, false},
	}
}

// P1.4: what was written one behind the other is read so, to its end.
func TestReader(t *testing.T) {
	r := New(Chain(300) + Chain(math.MaxUint64) + Text("äb") + "\x01\x00" + Text("") + Chain(0) + "rest")
	if e := r.Err(); e != api.OK {
		t.Fatal(e)
	}
	if v := r.Int(300); v != 300 {
		t.Error(v)
	}
	if v := r.Num(); v != math.MaxUint64 {
		t.Error(v)
	}
	if s := r.Str(3); s != "äb" {
		t.Errorf("%x", s)
	}
	if !r.Flag() || r.Flag() {
		t.Error("flags")
	}
	if s := r.Str(0); s != "" {
		t.Errorf("%x", s)
	}
	if v := r.Int(0); v != 0 {
		t.Error(v)
	}
	if r.Err() != api.OK || r.Rest() != "rest" || r.End() != api.ErrForm {
		t.Errorf("error %d, left %x, end %d", r.Err(), r.Rest(), r.End())
	}
}

// P1.4: each read tells the value and takes just its bytes, or tells its error and takes nothing.
func TestReaderReads(t *testing.T) {
	integer := func(most int) func(*Reader) any { return func(r *Reader) any { return r.Int(most) } }
	number := func(r *Reader) any { return r.Num() }
	str := func(most int) func(*Reader) any { return func(r *Reader) any { return r.Str(most) } }
	flag := func(r *Reader) any { return r.Flag() }
	rows := []struct {
		name string
		s    string
		do   func(*Reader) any
		want any
		rest string
		e    api.Errno
	}{
		{"Int", "\x05x", integer(9), 5, "x", api.OK},
		{"Int at its most", "\xac\x02x", integer(300), 300, "x", api.OK},
		{"Int of 0", "\x00", integer(0), 0, "", api.OK},
		{"Int at the greatest most", Chain(math.MaxInt), integer(math.MaxInt), math.MaxInt, "", api.OK},
		{"Int above", "\xac\x02x", integer(299), 0, "\xac\x02x", api.ErrLong},
		{"Int above 0", "\x01", integer(0), 0, "\x01", api.ErrLong},
		{"Int of a most below 0", "\x00", integer(-1), 0, "\x00", api.ErrLong},
		{"Int of the least most", "\x05", integer(math.MinInt), 0, "\x05", api.ErrLong},
		{"Int above all ints", Chain(math.MaxInt + 1), integer(math.MaxInt), 0, Chain(math.MaxInt + 1), api.ErrLong},
		{"Int of the greatest chain", Chain(math.MaxUint64), integer(-1), 0, Chain(math.MaxUint64), api.ErrLong},
		{"Int of nothing", "", integer(9), 0, "", api.ErrShort},
		{"Int cut", "\x80", integer(-1), 0, "\x80", api.ErrShort},
		{"Int of no chain", "\x80\x00", integer(-1), 0, "\x80\x00", api.ErrForm},
		{"Num", "\xac\x02x", number, uint64(300), "x", api.OK},
		{"Num of the greatest", Chain(math.MaxUint64), number, uint64(math.MaxUint64), "", api.OK},
		{"Num of nothing", "", number, uint64(0), "", api.ErrShort},
		{"Num of no chain", "\x81\x00x", number, uint64(0), "\x81\x00x", api.ErrForm},
		{"Str", "\x02abc", str(4), "ab", "c", api.OK},
		{"Str at its most", "\x02abc", str(2), "ab", "c", api.OK},
		{"Str of nothing told", "\x00abc", str(0), "", "abc", api.OK},
		{"Str above", "\x02abc", str(1), "", "\x02abc", api.ErrLong},
		{"Str of a most below 0", "\x00", str(-1), "", "\x00", api.ErrLong},
		{"Str cut", "\x02a", str(4), "", "\x02a", api.ErrShort},
		{"Str above and cut", "\x05a", str(4), "", "\x05a", api.ErrLong},
		{"Str of nothing", "", str(4), "", "", api.ErrShort},
		{"Str of no chain", "\x80\x00", str(4), "", "\x80\x00", api.ErrForm},
		{"Flag of 0", "\x00\x01", flag, false, "\x01", api.OK},
		{"Flag of 1", "\x01\x00", flag, true, "\x00", api.OK},
		{"Flag of 2", "\x02\x01", flag, false, "\x02\x01", api.ErrForm},
		{"Flag of 129", "\x81\x01", flag, false, "\x81\x01", api.ErrForm},
		{"Flag in two bytes", "\x81\x00", flag, false, "\x81\x00", api.ErrForm},
		{"Flag of nothing", "", flag, false, "", api.ErrShort},
		{"Flag cut", "\x81", flag, false, "\x81", api.ErrShort},
	}
	for _, x := range rows {
		r := New(x.s)
		if got := x.do(r); got != x.want || r.Rest() != x.rest || r.Err() != x.e {
			t.Errorf("%s: %#v, left %x, error %d", x.name, got, r.Rest(), r.Err())
		}
	}
}

// P1.4: the first error stays, whatever is read behind it, and nothing is taken any more.
func TestReaderErrorStays(t *testing.T) {
	firsts := []struct {
		rest string
		fail func(r *Reader)
		e    api.Errno
	}{
		{"\x01\x01\x01\x01", func(r *Reader) { r.Int(0) }, api.ErrLong},
		{"\x02\x00\x00\x00", func(r *Reader) { r.Flag() }, api.ErrForm},
		{"\x01\x00\x00\x00", func(r *Reader) { r.Str(0) }, api.ErrLong},
		{"\x04\x00\x00\x00", func(r *Reader) { r.Str(9) }, api.ErrShort},
		{"\x80\x00\x00\x00", func(r *Reader) { r.Num() }, api.ErrForm},
		{"", func(r *Reader) { r.Num() }, api.ErrShort},
	}
	for _, first := range firsts {
		r := New("\x07" + first.rest)
		if r.Int(7) != 7 {
			t.Fatal(r.Err())
		}
		first.fail(r)
		for range 2 {
			for _, x := range reads() {
				if got := x.do(r); got != x.zero {
					t.Errorf("%x: %s tells %#v behind the error", first.rest, x.name, got)
				}
				if r.Err() != first.e || r.End() != first.e || r.Rest() != first.rest {
					t.Errorf("%x: behind %s: error %d, end %d, left %x", first.rest, x.name, r.Err(), r.End(), r.Rest())
				}
			}
		}
	}
}

// P1.4: End tells whether something is left, and is no read.
func TestReaderEnd(t *testing.T) {
	r := New("\x05\x06")
	if r.Int(9) != 5 || r.End() != api.ErrForm || r.Err() != api.OK || r.Rest() != "\x06" {
		t.Errorf("end %d, error %d, left %x", r.End(), r.Err(), r.Rest())
	}
	if r.Int(9) != 6 || r.End() != api.OK || r.Err() != api.OK || r.Rest() != "" {
		t.Errorf("end %d, error %d, left %x", r.End(), r.Err(), r.Rest())
	}
	if e := New("").End(); e != api.OK {
		t.Error(e)
	}
	if r.Num() != 0 || r.End() != api.ErrShort {
		t.Error(r.End())
	}
}

// P1.4: one reader's reads are not another one's.
func TestReaderApart(t *testing.T) {
	a, b := New("\x01\x02"), New("\x01\x02")
	a.Int(0)
	if b.Int(1) != 1 || b.Err() != api.OK || b.Rest() != "\x02" || a.Err() != api.ErrLong || a.Rest() != "\x01\x02" {
		t.Errorf("error %d, left %x; error %d, left %x", a.Err(), a.Rest(), b.Err(), b.Rest())
	}
}

// P1.4: of nil all is zero, but Err and End.
func TestReaderNil(t *testing.T) {
	var r *Reader
	for _, x := range reads() {
		if got := x.do(r); got != x.zero {
			t.Errorf("%s: %#v", x.name, got)
		}
	}
	if r.Rest() != "" || r.Err() != api.ErrArg || r.End() != api.ErrArg {
		t.Errorf("left %x, error %d, end %d", r.Rest(), r.Err(), r.End())
	}
}

// P1.4: of any bytes, a read takes from the front, or has an error, which stays, and takes nothing.
func TestReaderAnyBytes(t *testing.T) {
	l := append(shorts(4), strings.Repeat("\xff", 10)+"\x01", strings.Repeat("\x80", 9)+"\x01\x01\x00")
	for _, s := range l {
		for _, a := range reads() {
			for _, b := range reads() {
				r := New(s)
				a.do(r)
				ahead, e := r.Rest(), r.Err()
				b.do(r)
				if !strings.HasSuffix(s, ahead) || !strings.HasSuffix(ahead, r.Rest()) {
					t.Fatalf("%x: %s, %s: left %x, then %x", s, a.name, b.name, ahead, r.Rest())
				}
				if e != api.OK && (ahead != s || r.Rest() != s || r.Err() != e) {
					t.Fatalf("%x: %s, %s: the error %d did not stay", s, a.name, b.name, e)
				}
				if e == api.OK && r.Err() == api.OK && len(r.Rest()) >= len(ahead) {
					t.Fatalf("%x: %s, %s: nothing was taken", s, a.name, b.name)
				}
			}
		}
	}
}

// P1.5: what is read by Num and Str is what was written, whatever stands behind.
func TestReaderRoundTrip(t *testing.T) {
	for _, v := range numbers() {
		for _, text := range []string{"", "a", "\x80\xff", strings.Repeat("x", 200)} {
			for _, tail := range shorts(2) {
				r := New(Chain(v) + Text(text) + tail)
				if r.Num() != v || r.Str(len(text)) != text || r.Rest() != tail || r.Err() != api.OK {
					t.Fatalf("%d, %x: left %x, error %d", v, text, r.Rest(), r.Err())
				}
			}
		}
	}
}
