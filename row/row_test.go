package row_test

import (
	"bytes"
	"math"
	"slices"
	"testing"

	"raddle/api"
	"raddle/row"
	"raddle/samples"
	"raddle/value"
)

func null() api.Value         { return api.Value{Kind: api.Null} }
func truth(i int) api.Value   { return api.Value{Kind: api.Bool, I: i} }
func num(i int) api.Value     { return api.Value{Kind: api.Int, I: i} }
func text(s string) api.Value { return api.Value{Kind: api.Text, S: s} }

// counted has n Values, each of them told apart from the others.
func counted(n int) []api.Value {
	r := make([]api.Value, n)
	for i := range r {
		r[i] = num(i)
	}
	return r
}

// spoilt is counted with v at a place.
func spoilt(n, at int, v api.Value) []api.Value {
	r := counted(n)
	r[at] = v
	return r
}

// same fills a row of n with one Value.
func same(n int, v api.Value) []api.Value { return slices.Repeat([]api.Value{v}, n) }

// ascending has right rows, each ahead of those behind it.
func ascending() [][]api.Value {
	return [][]api.Value{
		nil,
		{null()},
		{null(), null()},
		same(api.MaxArity-1, null()),
		same(api.MaxArity, null()),
		append(same(api.MaxArity-1, null()), text("")),
		{null(), text("z")},
		{truth(0)},
		{truth(0), num(-api.MaxValue)},
		{truth(0), text(samples.Longest())},
		{truth(1)},
		{num(-api.MaxValue)},
		{num(-1), text("b"), num(9)},
		counted(1),
		counted(2),
		counted(api.MaxArity - 1),
		counted(api.MaxArity),
		spoilt(api.MaxArity, api.MaxArity-1, num(api.MaxValue)),
		spoilt(api.MaxArity, api.MaxArity-1, text("")),
		{num(0), num(2)},
		{num(0), text("")},
		{num(0), text(""), null()},
		{num(api.MaxValue)},
		{text("")},
		{text(""), text("")},
		{text("10"), num(5)},
		{text("9"), num(3)},
		{text(samples.Longest())},
		same(api.MaxArity, text(samples.Longest())),
		{text("a"), null(), truth(1), num(-256), text("ab")},
		{text("a"), truth(0)},
		{text("\xff")},
	}
}

// wrong has rows that are not too long, with a Value that is not right at the first place, in the middle, and at the last.
func wrong() [][]api.Value {
	var all [][]api.Value
	for _, v := range samples.WrongValues() {
		all = append(all, []api.Value{v}, spoilt(3, 0, v), spoilt(3, 1, v), spoilt(3, 2, v), spoilt(api.MaxArity, 0, v), spoilt(api.MaxArity, api.MaxArity-1, v), same(api.MaxArity, v))
	}
	return all
}

// tooLong has rows of right Values, and of others: of both it is the length that is told.
func tooLong() [][]api.Value {
	over := api.MaxArity + 1
	all := [][]api.Value{counted(over), counted(255), counted(256), counted(256 + 1), counted(api.MaxBytes), same(over, null()), make([]api.Value, over)}
	for _, v := range samples.WrongValues() {
		all = append(all, spoilt(over, 0, v), spoilt(over, over-1, v))
	}
	return all
}

func wantBytes(t *testing.T, r []api.Value, want []byte, wantE api.Errno) {
	t.Helper()
	b, e := row.Bytes(r)
	if !bytes.Equal(b, want) || e != wantE {
		t.Errorf("Bytes(%v): got %v, %d; want %v, %d", r, b, e, want, wantE)
	}
}

func wantRead(t *testing.T, b []byte, at int, want []api.Value, wantNext int, wantE api.Errno) {
	t.Helper()
	r, next, e := row.Read(b, at)
	if !slices.Equal(r, want) || next != wantNext || e != wantE {
		t.Errorf("Read(%v, %d): got %v, %d, %d; want %v, %d, %d", b, at, r, next, e, want, wantNext, wantE)
	}
}

func wantPick(t *testing.T, r []api.Value, cols []int, want []api.Value, wantE api.Errno) {
	t.Helper()
	got, e := row.Pick(r, cols)
	if !slices.Equal(got, want) || e != wantE {
		t.Errorf("Pick(%v, %v): got %v, %d; want %v, %d", r, cols, got, e, want, wantE)
	}
}

// written is for rows that are right.
func written(t *testing.T, r []api.Value) []byte {
	t.Helper()
	b, e := row.Bytes(r)
	if e != api.OK {
		t.Fatalf("Bytes(%v): %d", r, e)
	}
	return b
}

// P4.1: Check

func TestCheckTakesRightRows(t *testing.T) {
	for _, r := range append(ascending(), []api.Value{}) {
		if e := row.Check(r); e != api.OK {
			t.Errorf("%v: got %d", r, e)
		}
	}
	for n := range api.MaxArity + 1 {
		if e := row.Check(counted(n)); e != api.OK {
			t.Errorf("%d Values: got %d", n, e)
		}
	}
}

func TestCheckTellsWrongValues(t *testing.T) {
	for _, r := range wrong() {
		if e := row.Check(r); e != api.ErrArg {
			t.Errorf("%v: got %d, want %d", r, e, api.ErrArg)
		}
	}
}

func TestCheckTellsTheLengthFirst(t *testing.T) {
	for _, r := range tooLong() {
		if e := row.Check(r); e != api.ErrLen {
			t.Errorf("%d Values: got %d, want %d", len(r), e, api.ErrLen)
		}
	}
}

// P4.1: Compare

func TestCompareOfRightRows(t *testing.T) {
	all := ascending()
	for i, a := range all {
		for j, b := range all {
			want := 0
			if i < j {
				want = -1
			} else if i > j {
				want = 1
			}
			if got := row.Compare(a, b); got != want {
				t.Errorf("Compare(%v, %v): got %d, want %d", a, b, got, want)
			}
		}
	}
}

func TestARowIsBehindItsOwnBeginning(t *testing.T) {
	for _, r := range slices.Concat(ascending(), wrong(), [][]api.Value{counted(300)}) {
		for cut := range r {
			if row.Compare(r[:cut], r) != -1 || row.Compare(r, r[:cut]) != 1 {
				t.Errorf("%v is not behind its first %d", r, cut)
			}
		}
		if row.Compare(r, slices.Clone(r)) != 0 {
			t.Errorf("%v is not as its copy", r)
		}
	}
}

func TestCompareGoesByTheFirstThatAreUnlike(t *testing.T) {
	ahead := append(counted(4), num(1), text("z"), text("z"))
	behind := append(counted(4), num(2))
	if row.Compare(ahead, behind) != -1 || row.Compare(behind, ahead) != 1 {
		t.Error("a row's length, or what stands later, counts ahead of the first that are unlike")
	}
}

// Rows that are not right are ordered too, by the fields that their Kind leaves alone as well.
func TestCompareOfRowsThatAreNotRight(t *testing.T) {
	up := [][]api.Value{
		nil,
		{{Kind: math.MinInt}}, {{Kind: -1, S: "z"}}, {{}}, {{}, {}}, {{S: "a"}}, {{I: 1}},
		{null(), {Kind: 99}}, {{Kind: api.Null, S: "a"}}, {{Kind: api.Null, I: 1}},
		{truth(math.MinInt)}, {truth(1)}, {truth(2)},
		{num(math.MinInt), null()}, {num(-api.MaxValue - 1)}, {num(api.MaxValue + 1)}, {num(math.MaxInt)}, {{Kind: api.Int, I: math.MaxInt, S: "x"}},
		{{Kind: api.Text, I: -1, S: "z"}}, {text(samples.Longest())}, {text(samples.Longest() + "x")}, {{Kind: api.Text, I: 1}},
		same(api.MaxArity+1, api.Value{Kind: 98}), same(api.MaxArity+2, api.Value{Kind: 98}), {{Kind: math.MaxInt}},
	}
	for i, a := range up {
		for j, b := range up {
			got := row.Compare(a, b)
			if i < j && got != -1 || i == j && got != 0 || i > j && got != 1 {
				t.Errorf("Compare(%v, %v): got %d", a, b, got)
			}
		}
	}
}

// P4.1: Fits

func TestFitsOfEveryKindAndType(t *testing.T) {
	types := []int{math.MinInt, -1, 0, api.Null, api.Bool, api.Int, api.Text, api.Text + 1, 256 + api.Int, math.MaxInt}
	values := append(samples.WrongValues(), null(), truth(0), truth(1), num(-api.MaxValue), num(api.MaxValue), text(""), text(samples.Longest()))
	for _, v := range values {
		for _, typ := range types {
			want := value.Fits(v, typ)
			for at := range 3 {
				r := spoilt(3, at, v)
				cols := []int{api.Int, api.Int, api.Int}
				cols[at] = typ
				if got := row.Fits(r, cols); got != want {
					t.Errorf("Fits(%v, %v): got %t", r, cols, got)
				}
			}
			if got := row.Fits([]api.Value{v}, []int{typ}); got != want {
				t.Errorf("Fits of %v alone, %d: got %t", v, typ, got)
			}
		}
	}
}

func TestFitsByPlace(t *testing.T) {
	r := []api.Value{num(1), text("a"), truth(1), null()}
	for _, typ := range []int{api.Bool, api.Int, api.Text} {
		if !row.Fits(r, []int{api.Int, api.Text, api.Bool, typ}) {
			t.Errorf("a Null does not fit %d", typ)
		}
	}
	if row.Fits(r, []int{api.Text, api.Int, api.Bool, api.Int}) {
		t.Error("types that stand at other places are taken")
	}
}

func TestFitsWantsAsManyTypes(t *testing.T) {
	if !row.Fits(nil, nil) || !row.Fits([]api.Value{}, nil) || !row.Fits(nil, []int{}) {
		t.Error("no Values do not fit no types")
	}
	types := slices.Repeat([]int{api.Int}, api.MaxArity+1)
	for n := range api.MaxArity + 1 {
		for m := range api.MaxArity + 1 {
			if got := row.Fits(counted(n), types[:m]); got != (n == m) {
				t.Errorf("%d Values, %d types: got %t", n, m, got)
			}
		}
	}
}

// The chapter asks of Fits no right row: only as many of both, and that each fits.
func TestFitsHasNoBoundOfItsOwn(t *testing.T) {
	n := api.MaxArity + 1
	if !row.Fits(counted(n), slices.Repeat([]int{api.Int}, n)) {
		t.Errorf("%d Values do not fit as many types", n)
	}
}

// P4.1: Pick

func TestPickInTheOrderOfCols(t *testing.T) {
	r := []api.Value{num(10), text("b"), null(), truth(1)}
	wantPick(t, r, nil, nil, api.OK)
	wantPick(t, r, []int{}, nil, api.OK)
	wantPick(t, nil, nil, nil, api.OK)
	wantPick(t, r, []int{0}, []api.Value{num(10)}, api.OK)
	wantPick(t, r, []int{3}, []api.Value{truth(1)}, api.OK)
	wantPick(t, r, []int{1, 1}, []api.Value{text("b"), text("b")}, api.OK)
	wantPick(t, r, []int{3, 0, 2, 0}, []api.Value{truth(1), num(10), null(), num(10)}, api.OK)
	wantPick(t, r, []int{0, 1, 2, 3}, r, api.OK)
}

func TestPickTellsPlacesThatAreNone(t *testing.T) {
	for n := range 4 {
		for _, place := range []int{-1, math.MinInt, n, n + 1, math.MaxInt} {
			wantPick(t, counted(n), []int{place}, nil, api.ErrArg)
			if n > 0 {
				wantPick(t, counted(n), []int{place, 0}, nil, api.ErrArg)
				wantPick(t, counted(n), []int{0, n - 1, place}, nil, api.ErrArg)
			}
		}
	}
}

func TestPickOfMaxArityPlacesAndOfMore(t *testing.T) {
	r := []api.Value{num(10), text("b")}
	wantPick(t, r, make([]int, api.MaxArity), same(api.MaxArity, num(10)), api.OK)
	wantPick(t, r, slices.Repeat([]int{1}, api.MaxArity+1), nil, api.ErrLen)
	wantPick(t, r, make([]int, 300), nil, api.ErrLen)
}

func TestPickTellsAPlaceAheadOfTheLength(t *testing.T) {
	r := []api.Value{num(10), text("b")}
	for _, place := range []int{-1, 2, math.MinInt, math.MaxInt} {
		for _, n := range []int{api.MaxArity + 1, 300} {
			for _, at := range []int{0, api.MaxArity - 1, api.MaxArity, n - 1} {
				cols := make([]int, n)
				cols[at] = place
				wantPick(t, r, cols, nil, api.ErrArg)
			}
		}
	}
	wantPick(t, nil, make([]int, api.MaxArity+1), nil, api.ErrArg)
}

// The chapter asks of Pick no right row.
func TestPickTakesAnyRow(t *testing.T) {
	long := counted(300)
	wantPick(t, long, []int{299, 0}, []api.Value{num(299), num(0)}, api.OK)
	for _, v := range samples.WrongValues() {
		wantPick(t, []api.Value{num(1), v}, []int{1, 0}, []api.Value{v, num(1)}, api.OK)
	}
}

// P4.2: Bytes

func TestBytesOfEveryKind(t *testing.T) {
	wantBytes(t, nil, []byte{0}, api.OK)
	wantBytes(t, []api.Value{}, []byte{0}, api.OK)
	wantBytes(t, []api.Value{null()}, []byte{1, 1}, api.OK)
	wantBytes(t, []api.Value{truth(0), truth(1)}, []byte{2, 2, 0, 2, 1}, api.OK)
	wantBytes(t, []api.Value{num(-2)}, []byte{1, 3, 1, 0, 0, 0, 0, 0, 0, 0, 2}, api.OK)
	wantBytes(t, []api.Value{text("")}, []byte{1, 4, 0}, api.OK)
	wantBytes(t, []api.Value{text("\x00\xff"), null(), num(api.MaxValue), truth(1)}, []byte{4, 4, 2, 0, 255, 1, 3, 0, 16, 0, 0, 0, 0, 0, 0, 0, 2, 1}, api.OK)
	wantBytes(t, same(api.MaxArity, null()), append([]byte{api.MaxArity}, bytes.Repeat([]byte{1}, api.MaxArity)...), api.OK)
}

func TestBytesAreThoseOfTheValues(t *testing.T) {
	for _, r := range ascending() {
		want := []byte{byte(len(r))}
		for _, v := range r {
			b, e := value.Bytes(v)
			if e != api.OK {
				t.Fatalf("%v: %d", v, e)
			}
			want = append(want, b...)
		}
		wantBytes(t, r, want, api.OK)
	}
}

func TestBytesTellsChecksError(t *testing.T) {
	for _, r := range wrong() {
		wantBytes(t, r, nil, api.ErrArg)
	}
	for _, r := range tooLong() {
		wantBytes(t, r, nil, api.ErrLen)
	}
}

// P4.2: Read

func TestReadFromEveryPlace(t *testing.T) {
	b := []byte{0, 1, 1, 2, 2, 1, 4, 1, 'a', 1, 3, 1, 0, 0, 0, 0, 0, 0, 0, 2, 0}
	wantRead(t, b, 0, nil, 1, api.OK)
	wantRead(t, b, 1, []api.Value{null()}, 3, api.OK)
	wantRead(t, b, 3, []api.Value{truth(1), text("a")}, 9, api.OK)
	wantRead(t, b, 9, []api.Value{num(-2)}, 20, api.OK)
	wantRead(t, b, 20, nil, 21, api.OK)
	wantRead(t, b, 21, nil, 0, api.ErrBytes)
}

func TestReadTellsWrongPlaces(t *testing.T) {
	for _, b := range [][]byte{nil, {}, {0}, {1, 1}, {0, 0, 0}, {99}} {
		for _, at := range []int{-1, -2, math.MinInt, len(b) + 1, len(b) + 2, math.MaxInt} {
			wantRead(t, b, at, nil, 0, api.ErrArg)
		}
		wantRead(t, b, len(b), nil, 0, api.ErrBytes)
	}
}

func TestReadTellsBytesThatAreCutShort(t *testing.T) {
	for _, r := range ascending() {
		b := append([]byte{200}, written(t, r)...)
		for cut := 1; cut < len(b); cut++ {
			wantRead(t, b[:cut], 1, nil, 0, api.ErrBytes)
		}
	}
}

func TestReadBoundsTheCount(t *testing.T) {
	for count := range 256 {
		b := append([]byte{7, byte(count)}, bytes.Repeat([]byte{1}, 300)...)
		if count <= api.MaxArity {
			wantRead(t, b, 1, same(count, null()), 2+count, api.OK)
		} else {
			wantRead(t, b, 1, nil, 0, api.ErrBytes)
		}
	}
}

func TestReadTellsValuesThatAreRefused(t *testing.T) {
	for _, bad := range [][]byte{
		{0}, {5}, {255},
		{2, 2}, {2, 255},
		{3, 1, 0, 0, 0, 0, 0, 0, 0, 0}, {3, 2, 0, 0, 0, 0, 0, 0, 0, 1}, {3, 0, 16, 0, 0, 0, 0, 0, 0, 1}, {3, 1, 255, 255, 255, 255, 255, 255, 255, 255},
		append([]byte{4, api.MaxText + 1}, make([]byte, api.MaxText+1)...),
	} {
		for _, n := range []int{1, 2, 3, api.MaxArity} {
			for _, at := range []int{0, n / 2, n - 1} {
				b := append([]byte{8, byte(n)}, bytes.Repeat([]byte{1}, at)...)
				b = append(b, bad...)
				b = append(b, bytes.Repeat([]byte{1}, 40)...)
				wantRead(t, b, 1, nil, 0, api.ErrBytes)
			}
		}
	}
}

// P4.3

func TestTheOrderIsTotal(t *testing.T) {
	// The longest rows are left out: of every three of all, they would take too long.
	all := slices.DeleteFunc(slices.Concat(ascending(), wrong(), tooLong()), func(r []api.Value) bool { return len(r) > api.MaxArity+1 })
	for _, a := range all {
		for _, b := range all {
			ab := row.Compare(a, b)
			if ab != -row.Compare(b, a) || (ab == 0) != slices.Equal(a, b) {
				t.Errorf("%v and %v: %d and %d", a, b, ab, row.Compare(b, a))
			}
			for _, c := range all {
				if ab <= 0 && row.Compare(b, c) <= 0 && row.Compare(a, c) > 0 {
					t.Errorf("%v, %v, %v: the third is ahead of the first", a, b, c)
				}
			}
		}
	}
}

func TestWhatIsWrittenIsRead(t *testing.T) {
	all := ascending()
	for n := range api.MaxArity + 1 {
		all = append(all, counted(n), same(n, text(samples.Longest())), same(n, truth(1)))
	}
	for _, r := range all {
		b := written(t, r)
		wantRead(t, b, 0, r, len(b), api.OK)
		wantRead(t, slices.Concat([]byte{1, 2}, b, []byte{3, 4}), 2, r, 2+len(b), api.OK)
	}
}

func TestManyRowsAreReadInTheirOrder(t *testing.T) {
	var b []byte
	for _, r := range ascending() {
		b = append(b, written(t, r)...)
	}
	at := 0
	for _, want := range ascending() {
		r, next, e := row.Read(b, at)
		if !slices.Equal(r, want) || e != api.OK {
			t.Fatalf("at %d: got %v, %d; want %v", at, r, e, want)
		}
		at = next
	}
	if at != len(b) {
		t.Errorf("got %d, want %d", at, len(b))
	}
}

// A row has one way to be written: whatever is read is written again byte for byte.
func TestWhatIsReadIsWrittenAgain(t *testing.T) {
	x := uint32(1)
	read := 0
	for range 50000 {
		b := make([]byte, 24)
		for i := range b {
			x = x*1664525 + 1013904223
			b[i] = byte(x>>24) % 5
		}
		r, next, e := row.Read(b, 1)
		if e != api.OK {
			if len(r) != 0 || next != 0 || e != api.ErrBytes {
				t.Fatalf("Read(%v, 1): got %v, %d, %d", b, r, next, e)
			}
			continue
		}
		if len(r) > 1 {
			read++
		}
		wantBytes(t, r, b[1:next], api.OK)
	}
	if read == 0 {
		t.Error("none of more than one Value was read")
	}
}

// R2

// roomy lays list into memory that goes on behind it, filled with x: it answers the list and all of the memory.
func roomy[T any](list []T, x T) (part, room []T) {
	room = slices.Repeat([]T{x}, len(list)+20)
	copy(room[2:], list)
	return room[2 : 2+len(list)], room
}

func TestWhatIsHandedInStaysAsItWas(t *testing.T) {
	for _, given := range slices.Concat(ascending(), wrong(), tooLong()) {
		r, rowRoom := roomy(given, num(77))
		cols, colRoom := roomy([]int{0, len(r) - 1, 0}, 0)
		types, typeRoom := roomy(slices.Repeat([]int{api.Int}, len(r)), 55)
		before := slices.Clone(rowRoom)
		beforeCols, beforeTypes := slices.Clone(colRoom), slices.Clone(typeRoom)
		row.Check(r)
		row.Compare(r, r)
		row.Fits(r, types)
		row.Pick(r, cols)
		row.Bytes(r)
		if !slices.Equal(rowRoom, before) || !slices.Equal(colRoom, beforeCols) || !slices.Equal(typeRoom, beforeTypes) {
			t.Errorf("%v: what was handed in is written to", given)
		}
	}
}

func TestReadingLeavesWhatWasHandedIn(t *testing.T) {
	for _, r := range ascending() {
		b, room := roomy(written(t, r), 42)
		before := bytes.Clone(room)
		for at := -1; at <= len(b)+1; at++ {
			row.Read(b, at)
		}
		if !bytes.Equal(room, before) {
			t.Errorf("%v: Read wrote into what was handed in", r)
		}
	}
}

// overwrite writes over all of an answer, its spare room too.
func overwrite[T any](list []T, x T) {
	list = list[:cap(list)]
	for i := range list {
		list[i] = x
	}
}

func TestWhatIsPickedIsNewMemory(t *testing.T) {
	r, room := roomy([]api.Value{num(10), text("b"), num(30)}, num(77))
	before := slices.Clone(room)
	for _, cols := range [][]int{nil, {0}, {0, 1}, {0, 1, 2}, {1, 2}, {2, 2, 2}} {
		first, _ := row.Pick(r, cols)
		second, _ := row.Pick(r, cols)
		kept := slices.Clone(second)
		overwrite(first, text("over"))
		if !slices.Equal(second, kept) {
			t.Errorf("%v: two answers share memory", cols)
		}
		if !slices.Equal(room, before) {
			t.Errorf("%v: the answer shares memory with the row", cols)
		}
		wantPick(t, r, cols, kept, api.OK)
		overwrite(room, null())
		if !slices.Equal(second, kept) {
			t.Errorf("%v: the answer is changed by what is done with the row", cols)
		}
		copy(room, before)
	}
}

func TestWhatIsWrittenIsNewMemory(t *testing.T) {
	for _, r := range ascending() {
		first, second := written(t, r), written(t, r)
		kept := bytes.Clone(second)
		overwrite(first, 99)
		if !bytes.Equal(second, kept) || !bytes.Equal(written(t, r), kept) {
			t.Errorf("%v: two answers share memory", r)
		}
		for _, x := range second[len(second):cap(second)] {
			if x != 0 {
				t.Errorf("%v: something lies behind the answer", r)
			}
		}
	}
}

func TestWhatIsReadIsNewMemory(t *testing.T) {
	for _, want := range ascending() {
		b := written(t, want)
		first, _, _ := row.Read(b, 0)
		second, _, _ := row.Read(b, 0)
		overwrite(first, num(99))
		wantRead(t, b, 0, want, len(b), api.OK)
		clear(b)
		if !slices.Equal(second, want) {
			t.Errorf("got %v, want %v", second, want)
		}
	}
}

// R3

func TestAnswersHangOnArgumentsAlone(t *testing.T) {
	r := []api.Value{num(1), text("ab")}
	before := written(t, r)
	row.Bytes(counted(api.MaxArity + 1))
	row.Bytes([]api.Value{num(5), {}})
	row.Read([]byte{2, 1, 9}, 0)
	row.Pick(r, []int{1, 2})
	wantBytes(t, r, before, api.OK)
	wantRead(t, before, 0, r, len(before), api.OK)
	wantPick(t, r, []int{1}, []api.Value{text("ab")}, api.OK)
}

// R6

func TestNothingBehindTheLengthIsRead(t *testing.T) {
	for _, r := range ascending() {
		b := written(t, r)
		for cut := range b {
			wantRead(t, b[:cut:len(b)], 0, nil, 0, api.ErrBytes)
			wantRead(t, b[:cut:len(b)], cut+1, nil, 0, api.ErrArg)
		}
	}
	r := append(counted(3), api.Value{})
	short := r[:3]
	if row.Check(short) != api.OK || row.Compare(short, counted(3)) != 0 {
		t.Error("what lies behind a row's length counts")
	}
	wantPick(t, short, []int{3}, nil, api.ErrArg)
	types := []int{api.Int, api.Int, api.Int, api.Int}
	if row.Fits(short, types) || !row.Fits(short, types[:3]) || row.Fits(counted(4), types[:3]) {
		t.Error("what lies behind the length of the types counts")
	}
}
