package wire_test

import (
	"bytes"
	"math"
	"strings"
	"testing"

	"raddle/api"
	"raddle/wire"
)

// wantBytes holds what a call that writes answered against what it should be.
func wantBytes(t *testing.T, what string, b []byte, e api.Errno, want []byte, wantE api.Errno) {
	t.Helper()
	if !bytes.Equal(b, want) || e != wantE {
		t.Errorf("%q: got %v, %d; want %v, %d", what, b, e, want, wantE)
	}
}

func wantNumber(t *testing.T, what string, n, next int, e api.Errno, wantN, wantNext int, wantE api.Errno) {
	t.Helper()
	if n != wantN || next != wantNext || e != wantE {
		t.Errorf("%s: got %d, %d, %d; want %d, %d, %d", what, n, next, e, wantN, wantNext, wantE)
	}
}

func wantText(t *testing.T, what, s string, next int, e api.Errno, want string, wantNext int, wantE api.Errno) {
	t.Helper()
	if s != want || next != wantNext || e != wantE {
		t.Errorf("%s: got %q, %d, %d; want %q, %d, %d", what, s, next, e, want, wantNext, wantE)
	}
}

// P1.1

func TestPutWritesTheHighestByteFirst(t *testing.T) {
	b, e := wire.Put(nil, 0x01020304050607, 7)
	wantBytes(t, "size 7", b, e, []byte{1, 2, 3, 4, 5, 6, 7}, api.OK)
	b, e = wire.Put([]byte{9, 8}, 0x0102, 4)
	wantBytes(t, "behind others", b, e, []byte{9, 8, 0, 0, 1, 2}, api.OK)
	b, e = wire.Put([]byte{}, 5, 1)
	wantBytes(t, "size 1", b, e, []byte{5}, api.OK)
}

func TestPutTakesWhatFitsItsSize(t *testing.T) {
	for size := 1; size <= 7; size++ {
		greatest := 1<<(8*size) - 1
		b, e := wire.Put([]byte{7}, greatest, size)
		wantBytes(t, "greatest", b, e, append([]byte{7}, bytes.Repeat([]byte{255}, size)...), api.OK)
		b, e = wire.Put([]byte{7}, 0, size)
		wantBytes(t, "nought", b, e, append([]byte{7}, make([]byte, size)...), api.OK)
		for _, n := range []int{greatest + 1, math.MaxInt, -1, math.MinInt} {
			b, e = wire.Put([]byte{7}, n, size)
			wantBytes(t, "beyond", b, e, nil, api.ErrArg)
		}
	}
}

func TestPutRefusesOtherSizes(t *testing.T) {
	for _, size := range []int{0, 8, 9, 64, -1, -7, math.MaxInt, math.MinInt} {
		for _, n := range []int{0, 1, -1, math.MaxInt} {
			b, e := wire.Put([]byte{7}, n, size)
			wantBytes(t, "size", b, e, nil, api.ErrArg)
		}
	}
}

func TestGetReadsFromItsPlaceOn(t *testing.T) {
	b := []byte{1, 2, 3, 4, 5, 6, 7, 8}
	for _, c := range []struct{ at, size, n, next int }{
		{0, 1, 1, 1}, {7, 1, 8, 8}, {0, 7, 0x01020304050607, 7}, {1, 7, 0x02030405060708, 8}, {3, 2, 0x0405, 5}, {6, 2, 0x0708, 8},
	} {
		n, next, e := wire.Get(b, c.at, c.size)
		wantNumber(t, "get", n, next, e, c.n, c.next, api.OK)
	}
	n, next, e := wire.Get(bytes.Repeat([]byte{255}, 7), 0, 7)
	wantNumber(t, "greatest", n, next, e, 1<<56-1, 7, api.OK)
}

func TestGetTellsBytesThatAreTooFew(t *testing.T) {
	for size := 1; size <= 7; size++ {
		for length := 0; length < size; length++ {
			b := append([]byte{9, 9}, bytes.Repeat([]byte{255}, length)...)
			n, next, e := wire.Get(b, 2, size)
			wantNumber(t, "cut short", n, next, e, 0, 0, api.ErrBytes)
		}
	}
	n, next, e := wire.Get(nil, 0, 1)
	wantNumber(t, "nil", n, next, e, 0, 0, api.ErrBytes)
}

func TestGetTellsWrongArgumentsFirst(t *testing.T) {
	b := []byte{1, 2, 3}
	for _, c := range []struct{ at, size int }{
		{4, 1}, {5, 1}, {-1, 1}, {math.MaxInt, 7}, {math.MinInt, 7}, {0, 0}, {0, 8}, {0, -1}, {3, 0}, {3, 8}, {4, 8}, {0, math.MaxInt}, {0, math.MinInt},
	} {
		n, next, e := wire.Get(b, c.at, c.size)
		wantNumber(t, "get", n, next, e, 0, 0, api.ErrArg)
	}
	n, next, e := wire.Get(nil, 1, 1)
	wantNumber(t, "beyond nil", n, next, e, 0, 0, api.ErrArg)
}

// P1.2

func TestPutIntWritesSignAndSize(t *testing.T) {
	for _, c := range []struct {
		n    int
		want []byte
	}{
		{0, []byte{0, 0, 0, 0, 0, 0, 0, 0, 0}},
		{1, []byte{0, 0, 0, 0, 0, 0, 0, 0, 1}},
		{-1, []byte{1, 0, 0, 0, 0, 0, 0, 0, 1}},
		{-2, []byte{1, 0, 0, 0, 0, 0, 0, 0, 2}},
		{0x0102030405060708, []byte{0, 1, 2, 3, 4, 5, 6, 7, 8}},
		{-0x0102030405060708, []byte{1, 1, 2, 3, 4, 5, 6, 7, 8}},
		{api.MaxValue - 1, []byte{0, 15, 255, 255, 255, 255, 255, 255, 255}},
		{api.MaxValue, []byte{0, 16, 0, 0, 0, 0, 0, 0, 0}},
		{-api.MaxValue, []byte{1, 16, 0, 0, 0, 0, 0, 0, 0}},
	} {
		b, e := wire.PutInt([]byte{7, 6}, c.n)
		wantBytes(t, "put", b, e, append([]byte{7, 6}, c.want...), api.OK)
		n, next, e := wire.GetInt(b, 2)
		wantNumber(t, "get", n, next, e, c.n, 11, api.OK)
	}
}

func TestPutIntRefusesNumbersBeyondMaxValue(t *testing.T) {
	for _, n := range []int{api.MaxValue + 1, -api.MaxValue - 1, math.MaxInt, math.MinInt} {
		b, e := wire.PutInt([]byte{7}, n)
		wantBytes(t, "beyond", b, e, nil, api.ErrArg)
	}
}

func TestGetIntRefusesWhatPutIntDoesNotWrite(t *testing.T) {
	for _, b := range [][]byte{
		{1, 0, 0, 0, 0, 0, 0, 0, 0},
		{2, 0, 0, 0, 0, 0, 0, 0, 0},
		{2, 0, 0, 0, 0, 0, 0, 0, 1},
		{255, 0, 0, 0, 0, 0, 0, 0, 1},
		{0, 16, 0, 0, 0, 0, 0, 0, 1},
		{1, 16, 0, 0, 0, 0, 0, 0, 1},
		{0, 128, 0, 0, 0, 0, 0, 0, 0},
		{1, 128, 0, 0, 0, 0, 0, 0, 0},
		{0, 255, 255, 255, 255, 255, 255, 255, 255},
		{1, 255, 255, 255, 255, 255, 255, 255, 255},
	} {
		n, next, e := wire.GetInt(b, 0)
		wantNumber(t, "not written", n, next, e, 0, 0, api.ErrBytes)
	}
}

func TestGetIntTellsBytesThatAreTooFew(t *testing.T) {
	for length := 0; length < 9; length++ {
		b := append([]byte{9, 9}, make([]byte, length)...)
		n, next, e := wire.GetInt(b, 2)
		wantNumber(t, "cut short", n, next, e, 0, 0, api.ErrBytes)
	}
	n, next, e := wire.GetInt(nil, 0)
	wantNumber(t, "nil", n, next, e, 0, 0, api.ErrBytes)
}

func TestGetIntTellsWrongPlaces(t *testing.T) {
	b := make([]byte, 9)
	for _, at := range []int{10, 11, -1, math.MaxInt, math.MinInt} {
		n, next, e := wire.GetInt(b, at)
		wantNumber(t, "place", n, next, e, 0, 0, api.ErrArg)
	}
	n, next, e := wire.GetInt(b, 9)
	wantNumber(t, "end", n, next, e, 0, 0, api.ErrBytes)
}

// P1.3

func TestPutTextWritesLengthAndText(t *testing.T) {
	for _, s := range []string{"", "a", "raddle", "\x00", "\xff\x00\x80", "ä€", strings.Repeat("x", api.MaxText-1), strings.Repeat("\xff", api.MaxText)} {
		b, e := wire.PutText([]byte{7, 6}, s)
		wantBytes(t, s, b, e, append([]byte{7, 6, byte(len(s))}, s...), api.OK)
		got, next, e := wire.GetText(b, 2)
		wantText(t, "at the end", got, next, e, s, 3+len(s), api.OK)
		got, next, e = wire.GetText(append(b, 'y', 'z'), 2)
		wantText(t, "ahead of others", got, next, e, s, 3+len(s), api.OK)
	}
	b, e := wire.PutText(nil, "")
	wantBytes(t, "empty behind nil", b, e, []byte{0}, api.OK)
}

func TestPutTextRefusesTextsThatAreTooLong(t *testing.T) {
	for _, length := range []int{api.MaxText + 1, 255, 256, 257, 256 + api.MaxText, 70000} {
		b, e := wire.PutText([]byte{7}, strings.Repeat("x", length))
		wantBytes(t, "too long", b, e, nil, api.ErrLen)
	}
	b, e := wire.PutText(nil, strings.Repeat("ä", api.MaxText/2+1))
	wantBytes(t, "too many bytes", b, e, nil, api.ErrLen)
}

func TestGetTextRefusesWhatPutTextDoesNotWrite(t *testing.T) {
	for length := api.MaxText + 1; length <= 255; length++ {
		b := append([]byte{byte(length)}, make([]byte, 300)...)
		s, next, e := wire.GetText(b, 0)
		wantText(t, "too long", s, next, e, "", 0, api.ErrBytes)
	}
	for length := 1; length <= api.MaxText; length++ {
		b := append([]byte{9, byte(length)}, make([]byte, length-1)...)
		s, next, e := wire.GetText(b, 1)
		wantText(t, "cut short", s, next, e, "", 0, api.ErrBytes)
	}
	s, next, e := wire.GetText(nil, 0)
	wantText(t, "nil", s, next, e, "", 0, api.ErrBytes)
}

func TestGetTextTellsWrongPlaces(t *testing.T) {
	b := []byte{1, 'a'}
	for _, at := range []int{3, 4, -1, math.MaxInt, math.MinInt} {
		s, next, e := wire.GetText(b, at)
		wantText(t, "place", s, next, e, "", 0, api.ErrArg)
	}
	s, next, e := wire.GetText(b, 2)
	wantText(t, "end", s, next, e, "", 0, api.ErrBytes)
}

// P1.4

// numbers are those at which a byte or a sign turns.
func numbers() []int {
	l := []int{0}
	for bit := 0; bit <= 60; bit++ {
		for _, n := range []int{1<<bit - 1, 1 << bit, 1<<bit + 1} {
			if n <= api.MaxValue {
				l = append(l, n, -n)
			}
		}
	}
	return l
}

func TestWhatWasPutIsGot(t *testing.T) {
	ahead := []byte{3, 1, 4}
	for _, n := range numbers() {
		b, e := wire.PutInt(ahead, n)
		if e != api.OK || !bytes.Equal(b[:3], ahead) {
			t.Fatalf("PutInt(%d): %v, %d", n, b, e)
		}
		got, next, e := wire.GetInt(append(b, 5), 3)
		wantNumber(t, "int", got, next, e, n, len(b), api.OK)
		for size := 1; size <= 7; size++ {
			b, e := wire.Put(ahead, n, size)
			if n < 0 || n>>(8*size) > 0 {
				wantBytes(t, "does not fit", b, e, nil, api.ErrArg)
				continue
			}
			got, next, e := wire.Get(append(b, 5), 3, size)
			wantNumber(t, "number", got, next, e, n, 3+size, api.OK)
		}
	}
}

func TestAMixOfAllIsGotInItsOrder(t *testing.T) {
	var b []byte
	var e api.Errno
	for _, n := range numbers() {
		if b, e = wire.PutInt(b, n); e != api.OK {
			t.Fatal(n, e)
		}
		if b, e = wire.Put(b, n&0xffff, 2); e != api.OK {
			t.Fatal(n, e)
		}
		if b, e = wire.PutText(b, strings.Repeat("t", n&15)); e != api.OK {
			t.Fatal(n, e)
		}
	}
	at := 0
	for _, want := range numbers() {
		n, next, e := wire.GetInt(b, at)
		wantNumber(t, "int", n, next, e, want, at+9, api.OK)
		n, next, e = wire.Get(b, at+9, 2)
		wantNumber(t, "number", n, next, e, want&0xffff, at+11, api.OK)
		s, next, e := wire.GetText(b, at+11)
		wantText(t, "text", s, next, e, strings.Repeat("t", want&15), at+12+want&15, api.OK)
		at = next
	}
	if at != len(b) {
		t.Errorf("ended at %d of %d", at, len(b))
	}
}

// What is read is either what is written again, byte for byte, or refused: no number has two ways.
func TestWhatIsGotIsPutAgain(t *testing.T) {
	for sign := range 256 {
		for high := range 256 {
			for _, low := range []byte{0, 1, 255} {
				b := []byte{byte(sign), byte(high), 0, 0, 0, 0, 0, 0, low}
				n, _, e := wire.GetInt(b, 0)
				if e != api.OK {
					continue
				}
				again, e := wire.PutInt(nil, n)
				wantBytes(t, "again", again, e, b, api.OK)
			}
		}
	}
}

// R2

// writers are the calls that write, each with as many bytes as fit a list's spare room.
func writers() map[string]func(b []byte) ([]byte, api.Errno) {
	return map[string]func(b []byte) ([]byte, api.Errno){
		"Put":           func(b []byte) ([]byte, api.Errno) { return wire.Put(b, 0x0102, 2) },
		"PutInt":        func(b []byte) ([]byte, api.Errno) { return wire.PutInt(b, -5) },
		"PutText":       func(b []byte) ([]byte, api.Errno) { return wire.PutText(b, "text") },
		"PutText empty": func(b []byte) ([]byte, api.Errno) { return wire.PutText(b, "") },
		"Put wrong":     func(b []byte) ([]byte, api.Errno) { return wire.Put(b, -1, 2) },
		"PutInt wrong":  func(b []byte) ([]byte, api.Errno) { return wire.PutInt(b, math.MinInt) },
		"PutText wrong": func(b []byte) ([]byte, api.Errno) { return wire.PutText(b, strings.Repeat("x", 25)) },
	}
}

func TestWritingLeavesWhatWasHandedIn(t *testing.T) {
	for name, write := range writers() {
		room := bytes.Repeat([]byte{42}, 64)
		write(room[3:6])
		if !bytes.Equal(room, bytes.Repeat([]byte{42}, 64)) {
			t.Errorf("%s wrote into what was handed in: %v", name, room)
		}
	}
}

func TestWhatIsWrittenIsNewMemory(t *testing.T) {
	for name, write := range writers() {
		room := bytes.Repeat([]byte{42}, 64)
		first, _ := write(room[3:6])
		second, _ := write(room[3:6])
		kept := bytes.Clone(second)
		first = first[:cap(first)]
		for i := range first {
			first[i] = 99
		}
		if !bytes.Equal(room, bytes.Repeat([]byte{42}, 64)) {
			t.Errorf("%s: the answer shares memory with its argument", name)
		}
		if !bytes.Equal(second, kept) {
			t.Errorf("%s: two answers share memory", name)
		}
		for i := range room {
			room[i] = 7
		}
		if !bytes.Equal(second, kept) {
			t.Errorf("%s: the argument is kept in the answer", name)
		}
	}
}

func TestWhatIsWrittenHandsOutNoSpareRoomOfOthers(t *testing.T) {
	for name, write := range writers() {
		room := bytes.Repeat([]byte{42}, 64)
		b, _ := write(room[:0])
		for _, x := range b[len(b):cap(b)] {
			if x == 42 {
				t.Errorf("%s hands out what lay behind its argument", name)
			}
		}
	}
}

func TestNilAndEmptyAreTheSame(t *testing.T) {
	for name, write := range writers() {
		a, ea := write(nil)
		b, eb := write([]byte{})
		if !bytes.Equal(a, b) || ea != eb {
			t.Errorf("%s: %v, %d and %v, %d", name, a, ea, b, eb)
		}
	}
}

func TestReadingLeavesWhatWasHandedIn(t *testing.T) {
	b := []byte{0, 0, 0, 0, 0, 0, 0, 0, 1, 2, 'a', 'b', 9}
	before := bytes.Clone(b)
	for at := -1; at <= len(b)+1; at++ {
		wire.Get(b, at, 3)
		wire.GetInt(b, at)
		wire.GetText(b, at)
	}
	if !bytes.Equal(b, before) {
		t.Errorf("got %v, want %v", b, before)
	}
}

func TestATextIsNotTouchedLater(t *testing.T) {
	b := []byte{2, 'a', 'b'}
	s, _, _ := wire.GetText(b, 0)
	b[1], b[2] = 'x', 'y'
	if s != "ab" {
		t.Errorf("got %q, want %q", s, "ab")
	}
}

// R6

func TestReadingStopsAtTheLength(t *testing.T) {
	room := make([]byte, 32)
	room[2] = 3
	b := room[:3]
	n, next, e := wire.Get(b, 2, 2)
	wantNumber(t, "Get", n, next, e, 0, 0, api.ErrBytes)
	n, next, e = wire.GetInt(b, 0)
	wantNumber(t, "GetInt", n, next, e, 0, 0, api.ErrBytes)
	s, next, e := wire.GetText(b, 2)
	wantText(t, "GetText", s, next, e, "", 0, api.ErrBytes)
	n, next, e = wire.Get(b, 4, 1)
	wantNumber(t, "beyond", n, next, e, 0, 0, api.ErrArg)
}
