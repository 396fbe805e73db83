package value_test

import (
	"bytes"
	"math"
	"strings"
	"testing"

	"raddle/api"
	"raddle/samples"
	"raddle/value"
)

func null() api.Value         { return api.Value{Kind: api.Null} }
func truth(i int) api.Value   { return api.Value{Kind: api.Bool, I: i} }
func num(i int) api.Value     { return api.Value{Kind: api.Int, I: i} }
func text(s string) api.Value { return api.Value{Kind: api.Text, S: s} }

// wantBytes holds what Bytes answered against what it should be.
func wantBytes(t *testing.T, v api.Value, want []byte, wantE api.Errno) {
	t.Helper()
	b, e := value.Bytes(v)
	if !bytes.Equal(b, want) || e != wantE {
		t.Errorf("Bytes(%v): got %v, %d; want %v, %d", v, b, e, want, wantE)
	}
}

func wantRead(t *testing.T, b []byte, at int, want api.Value, wantNext int, wantE api.Errno) {
	t.Helper()
	v, next, e := value.Read(b, at)
	if v != want || next != wantNext || e != wantE {
		t.Errorf("Read(%v, %d): got %v, %d, %d; want %v, %d, %d", b, at, v, next, e, want, wantNext, wantE)
	}
}

// written is for Values that are right.
func written(t *testing.T, v api.Value) []byte {
	t.Helper()
	b, e := value.Bytes(v)
	if e != api.OK {
		t.Fatalf("Bytes(%v): %d", v, e)
	}
	return b
}

// P3.1

func TestCheckTakesRightValues(t *testing.T) {
	for _, v := range samples.Values() {
		if e := value.Check(v); e != api.OK {
			t.Errorf("%v: got %d", v, e)
		}
	}
}

func TestCheckRefusesOthers(t *testing.T) {
	for _, v := range samples.WrongValues() {
		if e := value.Check(v); e != api.ErrArg {
			t.Errorf("%v: got %d, want %d", v, e, api.ErrArg)
		}
	}
}

func TestCompareOfRightValues(t *testing.T) {
	all := samples.Values()
	for i, a := range all {
		for j, b := range all {
			want := 0
			if i < j {
				want = -1
			} else if i > j {
				want = 1
			}
			if got := value.Compare(a, b); got != want {
				t.Errorf("Compare(%v, %v): got %d, want %d", a, b, got, want)
			}
		}
	}
}

func TestCompareOfAnyTwo(t *testing.T) {
	up := samples.AnyValues()
	for i, a := range up {
		for j, b := range up {
			got := value.Compare(a, b)
			if i < j && got != -1 || i == j && got != 0 || i > j && got != 1 {
				t.Fatalf("Compare(%v, %v): got %d", a, b, got)
			}
		}
	}
}

func TestNullIsAheadOfAllOthers(t *testing.T) {
	for _, v := range samples.Values()[1:] {
		if value.Compare(null(), v) != -1 || value.Compare(v, null()) != 1 {
			t.Errorf("%v is not behind Null", v)
		}
	}
}

func TestFitsOfEveryKindAndType(t *testing.T) {
	types := []int{api.Bool, api.Int, api.Text}
	others := []int{math.MinInt, -1, -api.Int, 0, api.Null, api.Text + 1, 256 + api.Int, math.MaxInt}
	for _, v := range samples.Values() {
		for _, typ := range types {
			want := v.Kind == api.Null || v.Kind == typ
			if got := value.Fits(v, typ); got != want {
				t.Errorf("Fits(%v, %d): got %t", v, typ, got)
			}
		}
		for _, typ := range others {
			if value.Fits(v, typ) {
				t.Errorf("Fits(%v, %d): got true, of what is no type", v, typ)
			}
		}
	}
	for _, v := range samples.WrongValues() {
		for _, typ := range append(append(types, others...), v.Kind) {
			if value.Fits(v, typ) {
				t.Errorf("Fits(%v, %d): got true, of what is not right", v, typ)
			}
		}
	}
}

func TestSmall(t *testing.T) {
	for _, v := range samples.Values() {
		want := v.Kind != api.Int || v.I >= -api.MaxInt && v.I <= api.MaxInt
		if got := value.Small(v); got != want {
			t.Errorf("Small(%v): got %t", v, got)
		}
	}
	for _, c := range []struct {
		i    int
		want bool
	}{{-api.MaxInt - 1, false}, {-api.MaxInt, true}, {0, true}, {api.MaxInt, true}, {api.MaxInt + 1, false}} {
		if got := value.Small(num(c.i)); got != c.want {
			t.Errorf("Small of %d: got %t", c.i, got)
		}
	}
	for _, v := range samples.WrongValues() {
		if value.Small(v) {
			t.Errorf("Small(%v): got true, of what is not right", v)
		}
	}
}

// P3.2

func TestBytesOfEveryKind(t *testing.T) {
	wantBytes(t, null(), []byte{1}, api.OK)
	wantBytes(t, truth(0), []byte{2, 0}, api.OK)
	wantBytes(t, truth(1), []byte{2, 1}, api.OK)
	wantBytes(t, num(0), []byte{3, 0, 0, 0, 0, 0, 0, 0, 0, 0}, api.OK)
	wantBytes(t, num(-2), []byte{3, 1, 0, 0, 0, 0, 0, 0, 0, 2}, api.OK)
	wantBytes(t, num(0x0102030405060708), []byte{3, 0, 1, 2, 3, 4, 5, 6, 7, 8}, api.OK)
	wantBytes(t, num(api.MaxValue), []byte{3, 0, 16, 0, 0, 0, 0, 0, 0, 0}, api.OK)
	wantBytes(t, num(-api.MaxValue), []byte{3, 1, 16, 0, 0, 0, 0, 0, 0, 0}, api.OK)
	wantBytes(t, text(""), []byte{4, 0}, api.OK)
	wantBytes(t, text("ab"), []byte{4, 2, 'a', 'b'}, api.OK)
	wantBytes(t, text("\x00\xff"), []byte{4, 2, 0, 255}, api.OK)
	wantBytes(t, text(samples.Longest()), append([]byte{4, api.MaxText}, samples.Longest()...), api.OK)
}

func TestBytesTellsChecksError(t *testing.T) {
	for _, v := range samples.WrongValues() {
		wantBytes(t, v, nil, api.ErrArg)
	}
}

func TestReadFromEveryPlace(t *testing.T) {
	b := []byte{1, 2, 0, 2, 1, 3, 1, 0, 0, 0, 0, 0, 0, 0, 2, 4, 0, 4, 2, 'a', 1, 1}
	wantRead(t, b, 0, null(), 1, api.OK)
	wantRead(t, b, 1, truth(0), 3, api.OK)
	wantRead(t, b, 3, truth(1), 5, api.OK)
	wantRead(t, b, 5, num(-2), 15, api.OK)
	wantRead(t, b, 15, text(""), 17, api.OK)
	wantRead(t, b, 17, text("a\x01"), 21, api.OK)
	wantRead(t, b, 21, null(), 22, api.OK)
	wantRead(t, b, 22, api.Value{}, 0, api.ErrBytes)
}

func TestReadTellsWrongPlaces(t *testing.T) {
	for _, b := range [][]byte{nil, {}, {1}, {2, 1}, {1, 1, 1}, {0, 0}} {
		for _, at := range []int{-1, -2, math.MinInt, len(b) + 1, len(b) + 2, math.MaxInt} {
			wantRead(t, b, at, api.Value{}, 0, api.ErrArg)
		}
		wantRead(t, b, len(b), api.Value{}, 0, api.ErrBytes)
	}
}

func TestReadTellsBytesThatAreCutShort(t *testing.T) {
	for _, v := range samples.Values() {
		b := append([]byte{200}, written(t, v)...)
		for cut := 1; cut < len(b); cut++ {
			wantRead(t, b[:cut], 1, api.Value{}, 0, api.ErrBytes)
		}
	}
}

func TestReadRefusesOtherKinds(t *testing.T) {
	for kind := range 256 {
		if kind >= api.Null && kind <= api.Text {
			continue
		}
		wantRead(t, []byte{byte(kind)}, 0, api.Value{}, 0, api.ErrBytes)
		wantRead(t, append([]byte{7, byte(kind)}, make([]byte, 30)...), 1, api.Value{}, 0, api.ErrBytes)
	}
}

func TestReadRefusesOtherBools(t *testing.T) {
	for i := 2; i < 256; i++ {
		wantRead(t, []byte{2, byte(i)}, 0, api.Value{}, 0, api.ErrBytes)
		wantRead(t, []byte{2, byte(i), 0, 1}, 0, api.Value{}, 0, api.ErrBytes)
	}
}

func TestReadRefusesOtherNumbers(t *testing.T) {
	for _, b := range [][]byte{
		{3, 1, 0, 0, 0, 0, 0, 0, 0, 0},
		{3, 2, 0, 0, 0, 0, 0, 0, 0, 1},
		{3, 255, 0, 0, 0, 0, 0, 0, 0, 1},
		{3, 0, 16, 0, 0, 0, 0, 0, 0, 1},
		{3, 1, 16, 0, 0, 0, 0, 0, 0, 1},
		{3, 0, 127, 255, 255, 255, 255, 255, 255, 255},
		{3, 1, 255, 255, 255, 255, 255, 255, 255, 255},
	} {
		wantRead(t, b, 0, api.Value{}, 0, api.ErrBytes)
		wantRead(t, append([]byte{1}, append(b, 1, 1)...), 1, api.Value{}, 0, api.ErrBytes)
	}
}

func TestReadRefusesOtherTexts(t *testing.T) {
	for size := api.MaxText + 1; size < 256; size++ {
		wantRead(t, append([]byte{4, byte(size)}, make([]byte, 300)...), 0, api.Value{}, 0, api.ErrBytes)
	}
	wantRead(t, append([]byte{4, api.MaxText}, make([]byte, api.MaxText-1)...), 0, api.Value{}, 0, api.ErrBytes)
	wantRead(t, append([]byte{4, api.MaxText}, make([]byte, api.MaxText)...), 0, text(strings.Repeat("\x00", api.MaxText)), api.MaxText+2, api.OK)
}

// P3.3

func TestTheOrderIsTotal(t *testing.T) {
	all := append(samples.Values(), samples.WrongValues()...)
	for _, a := range all {
		for _, b := range all {
			ab := value.Compare(a, b)
			if ab != -value.Compare(b, a) || (ab == 0) != (a == b) {
				t.Errorf("%v and %v: %d and %d", a, b, ab, value.Compare(b, a))
			}
			for _, c := range all {
				if ab <= 0 && value.Compare(b, c) <= 0 && value.Compare(a, c) > 0 {
					t.Errorf("%v, %v, %v: the third is ahead of the first", a, b, c)
				}
			}
		}
	}
}

func TestWhatIsWrittenIsRead(t *testing.T) {
	for _, v := range samples.Values() {
		b := written(t, v)
		wantRead(t, b, 0, v, len(b), api.OK)
		wantRead(t, append([]byte{1, 2}, append(bytes.Clone(b), 3, 4)...), 2, v, 2+len(b), api.OK)
	}
	for i := range 64 {
		for _, n := range []int{1<<i - 1, 1 << i, 1<<i + 1} {
			for _, v := range []api.Value{num(n), num(-n)} {
				if value.Check(v) == api.OK {
					b := written(t, v)
					wantRead(t, b, 0, v, len(b), api.OK)
				}
			}
		}
	}
	for size := range api.MaxText + 1 {
		v := text(strings.Repeat("\xfe", size))
		b := written(t, v)
		wantRead(t, b, 0, v, len(b), api.OK)
	}
}

func TestAMixOfAllIsReadInItsOrder(t *testing.T) {
	var b []byte
	for _, v := range samples.Values() {
		b = append(b, written(t, v)...)
	}
	at := 0
	for _, want := range samples.Values() {
		v, next, e := value.Read(b, at)
		if v != want || e != api.OK {
			t.Fatalf("at %d: got %v, %d; want %v", at, v, e, want)
		}
		at = next
	}
	if at != len(b) {
		t.Errorf("got %d, want %d", at, len(b))
	}
}

// A Value has one way to be written: whatever is read is written again byte for byte.
func TestWhatIsReadIsWrittenAgain(t *testing.T) {
	x := uint32(1)
	read := 0
	for range 50000 {
		b := make([]byte, 12)
		for i := range b {
			x = x*1664525 + 1013904223
			b[i] = byte(x>>24) % 5
		}
		v, next, e := value.Read(b, 1)
		if e != api.OK {
			if v != (api.Value{}) || next != 0 || e != api.ErrBytes {
				t.Fatalf("Read(%v, 1): got %v, %d, %d", b, v, next, e)
			}
			continue
		}
		read++
		wantBytes(t, v, b[1:next], api.OK)
	}
	if read == 0 {
		t.Error("none was read")
	}
}

// R2

func TestReadingLeavesWhatWasHandedIn(t *testing.T) {
	for _, v := range samples.Values() {
		room := bytes.Repeat([]byte{42}, 64)
		n := copy(room[8:], written(t, v))
		before := bytes.Clone(room)
		list := room[8 : 8+n]
		for at := -1; at <= n+1; at++ {
			value.Read(list, at)
		}
		if !bytes.Equal(room, before) {
			t.Errorf("%v: Read wrote into what was handed in", v)
		}
	}
}

func TestWhatIsReadIsNotTouchedLater(t *testing.T) {
	b := []byte{4, 2, 'a', 'b'}
	v, _, _ := value.Read(b, 0)
	again, _, _ := value.Read(b, 0)
	clear(b)
	if v != text("ab") || again != v {
		t.Errorf("got %v and %v", v, again)
	}
}

func TestWhatIsWrittenIsNewMemory(t *testing.T) {
	for _, v := range samples.Values() {
		first, second := written(t, v), written(t, v)
		kept := bytes.Clone(second)
		first = first[:cap(first)]
		for i := range first {
			first[i] = 99
		}
		if !bytes.Equal(second, kept) || !bytes.Equal(written(t, v), kept) {
			t.Errorf("%v: two answers share memory", v)
		}
		second = second[:cap(second)]
		for _, x := range second[len(kept):] {
			if x != 0 {
				t.Errorf("%v: something lies behind the answer", v)
			}
		}
	}
}

func TestATextIsNotTouchedByWhatIsWritten(t *testing.T) {
	s := samples.Longest()
	b := written(t, text(s))
	clear(b[:cap(b)])
	if s != samples.Longest() {
		t.Errorf("got %q", s)
	}
}

// R3

func TestAnswersHangOnArgumentsAlone(t *testing.T) {
	before := written(t, text("ab"))
	value.Bytes(num(7))
	value.Bytes(truth(2))
	value.Read([]byte{4, 3, 'x', 'y', 'z'}, 0)
	value.Read([]byte{9}, 0)
	if !bytes.Equal(written(t, text("ab")), before) {
		t.Error("an earlier call is told by a later one")
	}
	wantRead(t, before, 0, text("ab"), 4, api.OK)
}

// R6

func TestReadingStopsAtTheLength(t *testing.T) {
	for _, v := range samples.Values() {
		b := written(t, v)
		for cut := range b {
			wantRead(t, b[:cut:len(b)], 0, api.Value{}, 0, api.ErrBytes)
			wantRead(t, b[:cut:len(b)], cut+1, api.Value{}, 0, api.ErrArg)
		}
	}
}
