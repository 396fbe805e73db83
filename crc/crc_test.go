package crc_test

import (
	"bytes"
	"sync"
	"testing"

	"raddle/api"
	"raddle/crc"
)

// The way: sync.Once

// It stands first, so that the table is not made yet when the sums begin.
func TestSumsThatBeginAtOnceAreAllRight(t *testing.T) {
	var all sync.WaitGroup
	begin := make(chan struct{})
	sums := make([]uint32, 64)
	for i := range sums {
		all.Go(func() {
			<-begin
			sums[i] = crc.Sum([]byte("123456789"))
		})
	}
	close(begin)
	all.Wait()
	for i, got := range sums {
		if got != 0xe3069283 {
			t.Errorf("sum %d: got %x", i, got)
		}
	}
}

// spoiled are tables with words that are not right: none, all the same, one place on, one bit off.
func spoiled(right [256]uint32) [][256]uint32 {
	var none, same, moved, off [256]uint32
	for i := range right {
		same[i] = 0xffffffff
		moved[i] = right[(i+1)%256]
		off[i] = right[i] ^ 1
	}
	return [][256]uint32{none, same, moved, off}
}

func TestTheTableIsMadeAtASumAndOnce(t *testing.T) {
	crc.Sum(nil)
	right := crc.Table()
	defer crc.SetTable(right)
	for i, got := range right {
		if want := register(uint32(i), []byte{0}); got != want {
			t.Errorf("word %d: got %x, want %x", i, got, want)
		}
	}
	for _, words := range spoiled(right) {
		crc.SetTable(words)
		crc.Sum(mixed(20))
		if crc.Table() != words {
			t.Error("a later sum made the table again")
		}
	}
}

func TestNoAnswerHangsOnTheTable(t *testing.T) {
	crc.Sum(nil)
	right := crc.Table()
	defer crc.SetTable(right)
	for _, words := range spoiled(right) {
		crc.SetTable(words)
		for length := range 100 {
			text := mixed(length)
			if got, want := crc.Sum(text), bitByBit(text); got != want {
				t.Errorf("Sum of %d bytes: got %x, want %x", length, got, want)
			}
			b, e := crc.Seal(text)
			wantBytes(t, "Seal", b, e, sealedByHand(text), api.OK)
			b, e = crc.Open(sealedByHand(text))
			wantBytes(t, "Open", b, e, text, api.OK)
			b, e = crc.Open(turned(sealedByHand(text), 4*length, 1))
			wantBytes(t, "Open, wrong", b, e, nil, api.ErrSum)
		}
	}
}

// register is what the chapter's register comes to over b.
func register(r uint32, b []byte) uint32 {
	for _, x := range b {
		for bit := range 8 {
			unlike := uint32(x)>>bit&1 != r&1
			r >>= 1
			if unlike {
				r ^= 0x82f63b78
			}
		}
	}
	return r
}

// bitByBit is the sum as the chapter tells it.
func bitByBit(b []byte) uint32 {
	return ^register(0xffffffff, b)
}

// mixed is a text of that length with all kinds of bytes.
func mixed(length int) []byte {
	b := make([]byte, length)
	x := uint32(length) + 1
	for i := range b {
		x = x*1664525 + 1013904223
		b[i] = byte(x >> 24)
	}
	return b
}

// sealedByHand needs no bound, unlike Seal.
func sealedByHand(text []byte) []byte {
	s := bitByBit(text)
	return append(bytes.Clone(text), byte(s), byte(s>>8), byte(s>>16), byte(s>>24))
}

func seal(t *testing.T, text []byte) []byte {
	t.Helper()
	b, e := crc.Seal(text)
	if e != api.OK {
		t.Fatalf("Seal of %d bytes: %d", len(text), e)
	}
	return b
}

// wantBytes holds what a call answered against what it should be.
func wantBytes(t *testing.T, what string, b []byte, e api.Errno, want []byte, wantE api.Errno) {
	t.Helper()
	if e != wantE || !bytes.Equal(b, want) {
		t.Errorf("%s: got %d bytes, %d; want %d bytes, %d", what, len(b), e, len(want), wantE)
	}
}

// P2.1

func TestSumOfKnownTexts(t *testing.T) {
	up, down := make([]byte, 32), make([]byte, 32)
	for i := range 32 {
		up[i], down[i] = byte(i), byte(31-i)
	}
	for _, c := range []struct {
		text []byte
		want uint32
	}{
		{[]byte("123456789"), 0xe3069283},
		{nil, 0},
		{[]byte{}, 0},
		{[]byte("a"), 0xc1d04330},
		{make([]byte, 32), 0x8a9136aa},
		{bytes.Repeat([]byte{255}, 32), 0x62a8ab43},
		{up, 0x46dd794e},
		{down, 0x113fdb5c},
	} {
		if got := crc.Sum(c.text); got != c.want {
			t.Errorf("Sum(%v): got %x, want %x", c.text, got, c.want)
		}
	}
}

func TestSumIsTheChaptersBitByBit(t *testing.T) {
	for x := range 256 {
		for _, b := range [][]byte{{byte(x)}, {byte(x), 0}, {0, byte(x)}, {255, byte(x), 255}} {
			if got, want := crc.Sum(b), bitByBit(b); got != want {
				t.Errorf("Sum(%v): got %x, want %x", b, got, want)
			}
		}
	}
	for length := range 300 {
		b := mixed(length)
		if got, want := crc.Sum(b), bitByBit(b); got != want {
			t.Errorf("Sum of %d bytes: got %x, want %x", length, got, want)
		}
	}
}

func TestSumHasNoBound(t *testing.T) {
	for _, length := range []int{api.MaxBytes - 1, api.MaxBytes, api.MaxBytes + 1, 3 * api.MaxBytes} {
		b := mixed(length)
		if got, want := crc.Sum(b), bitByBit(b); got != want {
			t.Errorf("Sum of %d bytes: got %x, want %x", length, got, want)
		}
	}
}

func TestSealPutsTheSumBehindTheLowestFirst(t *testing.T) {
	b, e := crc.Seal([]byte("123456789"))
	wantBytes(t, "example", b, e, []byte("123456789\x83\x92\x06\xe3"), api.OK)
	b, e = crc.Seal(nil)
	wantBytes(t, "nil", b, e, []byte{0, 0, 0, 0}, api.OK)
	b, e = crc.Seal([]byte{})
	wantBytes(t, "empty", b, e, []byte{0, 0, 0, 0}, api.OK)
	for length := range 300 {
		text := mixed(length)
		b, e = crc.Seal(text)
		wantBytes(t, "mixed", b, e, sealedByHand(text), api.OK)
	}
}

func TestSealTakesUpToItsBound(t *testing.T) {
	for _, length := range []int{api.MaxBytes - 5, api.MaxBytes - 4} {
		text := mixed(length)
		b, e := crc.Seal(text)
		wantBytes(t, "within", b, e, sealedByHand(text), api.OK)
	}
	for _, length := range []int{api.MaxBytes - 3, api.MaxBytes - 2, api.MaxBytes, api.MaxBytes + 1, 2 * api.MaxBytes} {
		b, e := crc.Seal(make([]byte, length))
		wantBytes(t, "beyond", b, e, nil, api.ErrLen)
	}
}

func TestOpenAnswersTheTextWithoutItsSum(t *testing.T) {
	b, e := crc.Open([]byte("123456789\x83\x92\x06\xe3"))
	wantBytes(t, "example", b, e, []byte("123456789"), api.OK)
	b, e = crc.Open([]byte{0, 0, 0, 0})
	wantBytes(t, "empty", b, e, nil, api.OK)
}

func TestOpenRefusesTextsThatAreTooShort(t *testing.T) {
	b, e := crc.Open(nil)
	wantBytes(t, "nil", b, e, nil, api.ErrLen)
	for length := range 4 {
		for _, x := range []byte{0, 1, 255} {
			b, e = crc.Open(bytes.Repeat([]byte{x}, length))
			wantBytes(t, "short", b, e, nil, api.ErrLen)
		}
	}
}

func TestOpenOfFourBytesTakesNoughtsAlone(t *testing.T) {
	for at := range 4 {
		for x := 1; x < 256; x++ {
			wrong := make([]byte, 4)
			wrong[at] = byte(x)
			b, e := crc.Open(wrong)
			wantBytes(t, "four", b, e, nil, api.ErrSum)
		}
	}
	b, e := crc.Open([]byte{255, 255, 255, 255})
	wantBytes(t, "ones", b, e, nil, api.ErrSum)
}

func TestOpenTakesUpToItsBound(t *testing.T) {
	text := mixed(api.MaxBytes - 4)
	b, e := crc.Open(sealedByHand(text))
	wantBytes(t, "within", b, e, text, api.OK)
	b, e = crc.Open(make([]byte, api.MaxBytes))
	wantBytes(t, "within, wrong", b, e, nil, api.ErrSum)
	for _, length := range []int{api.MaxBytes + 1, api.MaxBytes + 4, 2 * api.MaxBytes} {
		b, e = crc.Open(make([]byte, length))
		wantBytes(t, "beyond, wrong", b, e, nil, api.ErrLen)
		b, e = crc.Open(sealedByHand(mixed(length - 4)))
		wantBytes(t, "beyond, right", b, e, nil, api.ErrLen)
	}
}

func TestOpenRefusesASumTheOtherWayRound(t *testing.T) {
	b, e := crc.Open([]byte("123456789\xe3\x06\x92\x83"))
	wantBytes(t, "highest first", b, e, nil, api.ErrSum)
	b, e = crc.Open([]byte("123456789\x7c\x6d\xf9\x1c"))
	wantBytes(t, "not turned about", b, e, nil, api.ErrSum)
	b, e = crc.Open([]byte("\x83\x92\x06\xe3123456789"))
	wantBytes(t, "sum ahead", b, e, nil, api.ErrSum)
}

func TestOpenRefusesTextsCutShort(t *testing.T) {
	for _, length := range []int{1, 4, 5, 40, 100} {
		sealed := seal(t, mixed(length))
		for left := 4; left < len(sealed); left++ {
			b, e := crc.Open(sealed[:left])
			wantBytes(t, "its end cut", b, e, nil, api.ErrSum)
			b, e = crc.Open(sealed[len(sealed)-left:])
			wantBytes(t, "its beginning cut", b, e, nil, api.ErrSum)
		}
		for left := range 4 {
			b, e := crc.Open(sealed[:left])
			wantBytes(t, "cut below a sum", b, e, nil, api.ErrLen)
		}
	}
}

func TestOpenRefusesNoughtsTooManyOrTooFew(t *testing.T) {
	sealed := seal(t, make([]byte, 20))
	for _, wrong := range [][]byte{sealed[1:], append([]byte{0}, sealed...), append(bytes.Clone(sealed), 0)} {
		b, e := crc.Open(wrong)
		wantBytes(t, "noughts", b, e, nil, api.ErrSum)
	}
}

// P2.2

func TestWhatIsSealedIsOpened(t *testing.T) {
	for length := range 300 {
		for _, text := range [][]byte{mixed(length), make([]byte, length), bytes.Repeat([]byte{255}, length)} {
			b, e := crc.Open(seal(t, text))
			wantBytes(t, "sealed once", b, e, text, api.OK)
			b, e = crc.Open(seal(t, seal(t, text)))
			wantBytes(t, "sealed twice", b, e, seal(t, text), api.OK)
		}
	}
	text := mixed(api.MaxBytes - 4)
	b, e := crc.Open(seal(t, text))
	wantBytes(t, "longest", b, e, text, api.OK)
}

// turned has those bits of the pattern turned about, from that bit on, each byte's lowest first.
func turned(sealed []byte, at int, pattern uint32) []byte {
	b := bytes.Clone(sealed)
	for bit := range 32 {
		if pattern>>bit&1 == 1 {
			b[(at+bit)/8] ^= 1 << ((at + bit) % 8)
		}
	}
	return b
}

// patterns are of that width: both ends turned about, and in between all, none, or some.
func patterns(width int) []uint32 {
	ends := uint32(1) | 1<<(width-1)
	all := uint32(1<<width - 1)
	return []uint32{all, ends, ends | 0x9e3779b1&all, ends | 0xa5a5a5a5&all, ends | 0x5a5a5a5a&all, ends | 0x82f63b78&all, ends | 0x1edc6f41&all}
}

// wantNoTurn turns each pattern that fits from that bit on, and wants every one refused.
func wantNoTurn(t *testing.T, sealed []byte, at int) {
	t.Helper()
	for width := 1; width <= 32 && at+width <= 8*len(sealed); width++ {
		for _, pattern := range patterns(width) {
			b, e := crc.Open(turned(sealed, at, pattern))
			if e != api.ErrSum || len(b) != 0 {
				t.Errorf("%d bytes, %x from bit %d on: got %v, %d", len(sealed), pattern, at, b, e)
			}
		}
	}
}

// Every place of a short text is tried: its beginning, its middle, its sum, and across its end.
func TestBitsSideBySideTurnedAboutAreFound(t *testing.T) {
	for _, text := range [][]byte{nil, {0}, []byte("123456789"), make([]byte, 12), bytes.Repeat([]byte{255}, 12), mixed(30)} {
		sealed := seal(t, text)
		for at := range 8 * len(sealed) {
			wantNoTurn(t, sealed, at)
		}
	}
}

func TestBitsTurnedAboutAreFoundInLongTexts(t *testing.T) {
	text := mixed(api.MaxBytes - 4)
	sealed := seal(t, text)
	end := 8 * len(text)
	for _, at := range []int{0, end / 2, end - 16, end - 1, end, end + 5} {
		for _, width := range []int{1, 2, 17, 27, 32} {
			if at+width > end+32 {
				continue
			}
			b, e := crc.Open(turned(sealed, at, patterns(width)[0]))
			wantBytes(t, "long", b, e, nil, api.ErrSum)
		}
	}
}

// A single byte's every change is a turn of up to 8 bits.
func TestAnyOtherByteIsFound(t *testing.T) {
	sealed := seal(t, mixed(20))
	for at := range sealed {
		for x := 1; x < 256; x++ {
			wrong := bytes.Clone(sealed)
			wrong[at] ^= byte(x)
			b, e := crc.Open(wrong)
			wantBytes(t, "other byte", b, e, nil, api.ErrSum)
		}
	}
}

// R2

type call struct {
	name string
	in   []byte
	do   func([]byte) ([]byte, api.Errno)
}

// calls are those that take and answer bytes: with texts that they take, and with such as they refuse.
func calls(t *testing.T) []call {
	wrong := seal(t, mixed(9))
	wrong[3]++
	return []call{
		{"Seal", mixed(9), crc.Seal},
		{"Seal empty", nil, crc.Seal},
		{"Seal too long", mixed(api.MaxBytes), crc.Seal},
		{"Open", seal(t, mixed(9)), crc.Open},
		{"Open empty", seal(t, nil), crc.Open},
		{"Open wrong", wrong, crc.Open},
		{"Open too short", []byte{1, 2, 3}, crc.Open},
	}
}

// within lays in into a greater room, with others' bytes around it.
func within(in []byte) (room, list []byte) {
	room = bytes.Repeat([]byte{42}, len(in)+64)
	copy(room[8:], in)
	return room, room[8 : 8+len(in)]
}

func TestWhatIsHandedInStays(t *testing.T) {
	for _, c := range calls(t) {
		room, list := within(c.in)
		before := bytes.Clone(room)
		c.do(list)
		crc.Sum(list)
		if !bytes.Equal(room, before) {
			t.Errorf("%s wrote into what was handed in", c.name)
		}
	}
}

func TestWhatIsAnsweredIsNewMemory(t *testing.T) {
	for _, c := range calls(t) {
		room, list := within(c.in)
		before := bytes.Clone(room)
		first, _ := c.do(list)
		second, _ := c.do(list)
		kept := bytes.Clone(second)
		first = first[:cap(first)]
		for i := range first {
			first[i] = 99
		}
		if !bytes.Equal(room, before) {
			t.Errorf("%s: the answer shares memory with its argument", c.name)
		}
		for i := range room {
			room[i] = 7
		}
		if !bytes.Equal(second, kept) {
			t.Errorf("%s: the answer shares memory with its argument or with another answer", c.name)
		}
	}
}

func TestWhatIsAnsweredHandsOutNothingBehindIt(t *testing.T) {
	for _, c := range calls(t) {
		_, list := within(c.in)
		b, _ := c.do(list)
		for _, x := range b[len(b):cap(b)] {
			if x != 0 {
				t.Errorf("%s hands out what lay behind its answer", c.name)
			}
		}
	}
}

// R3

func TestAnswersHangOnArgumentsAlone(t *testing.T) {
	text := mixed(50)
	sum, sealed := crc.Sum(text), seal(t, text)
	crc.Sum(mixed(7))
	crc.Seal(mixed(api.MaxBytes))
	crc.Open(mixed(11))
	if crc.Sum(text) != sum || !bytes.Equal(seal(t, text), sealed) {
		t.Error("an earlier call is told by a later one")
	}
}

// R6

func TestWhatLiesBehindTheLengthIsNotRead(t *testing.T) {
	sealed := seal(t, mixed(20))
	b, e := crc.Open(sealed[:len(sealed)-1])
	wantBytes(t, "cut", b, e, nil, api.ErrSum)
	b, e = crc.Open(sealed[:3])
	wantBytes(t, "cut short", b, e, nil, api.ErrLen)
	_, list := within(sealed)
	b, e = crc.Open(list)
	wantBytes(t, "others behind", b, e, mixed(20), api.OK)
	_, list = within(mixed(20))
	b, e = crc.Seal(list)
	wantBytes(t, "others behind", b, e, sealed, api.OK)
	if crc.Sum(list) != bitByBit(mixed(20)) {
		t.Error("Sum reads what lies behind")
	}
}
