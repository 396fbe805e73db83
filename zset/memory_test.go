package zset_test

import (
	"fmt"
	"math"
	"math/rand"
	"slices"
	"testing"

	"raddle/api"
	"raddle/rooms"
	"raddle/samples"
	"raddle/zset"
)

// R2 and R3

// call is one of each function, with two sets, right or not, and with rows.
type call struct {
	a, b []api.Item
	l    [][]api.Value
}

func (c call) Roomy() call {
	return call{rooms.SpareItems(c.a), rooms.SpareItems(c.b), rooms.SpareRows(c.l)}
}

func (c call) Rooms() []rooms.Room {
	return slices.Concat(rooms.Items(c.a), rooms.Items(c.b), rooms.Rows(c.l))
}

// Answers asks all calls; it has the memory of what they answer, and tells it as it is up to its length.
func (c call) Answers() (all []rooms.Room, told string) {
	for _, answer := range []func() ([]api.Item, api.Errno){
		func() ([]api.Item, api.Errno) { return zset.Make(c.a) },
		func() ([]api.Item, api.Errno) { return zset.Make(slices.Concat(c.a, c.b)) },
		func() ([]api.Item, api.Errno) { return zset.Rows(c.l) },
		func() ([]api.Item, api.Errno) { return zset.Add(c.a, c.b) },
		func() ([]api.Item, api.Errno) { return zset.Add(c.b, c.a) },
		func() ([]api.Item, api.Errno) { return zset.Add(c.a, nil) },
		func() ([]api.Item, api.Errno) { return zset.Add(nil, c.a) },
		func() ([]api.Item, api.Errno) { return zset.Add(c.a, c.a) },
		func() ([]api.Item, api.Errno) { return zset.Neg(c.a) },
	} {
		z, e := answer()
		all = append(all, rooms.Items(z)...)
		told += fmt.Sprintln(z, e)
	}
	told += fmt.Sprintln(zset.Check(c.a), zset.Check(c.b), zset.Size(c.a), zset.Size(c.b))
	for _, r := range c.l {
		told += fmt.Sprintln(zset.Weight(c.a, r), zset.Weight(c.b, r))
	}
	return all, told
}

// calls has such as change much, little and nothing, and such as tell an error.
func calls() []call {
	back := samples.Set()
	slices.Reverse(back)
	sets := [][]api.Item{
		nil, items(of(3)), items(at(2, 1), at(-3, 4)), items(at(-2, 1), at(3, 4)), samples.Set(), samples.Set()[:6], samples.Set()[4:15], back, back[3:9],
		items(at(most, 1)), items(at(most, 1), at(1, 2)), items(at(1, 2), at(1, 2), at(1, 1)), items(at(0, 1), at(5, 5)), items(at(most+1, 1)), items(of(1, api.Value{})),
	}
	rows := [][][]api.Value{nil, {rowOf(2), rowOf(1), rowOf(2)}, samples.Rows(), {nil, rowOf(4), {{}}}}
	var all []call
	for i, a := range sets {
		for k, b := range sets {
			all = append(all, call{a, b, rows[(i+k)%len(rows)]})
		}
	}
	return all
}

// What is handed in stays, and none of an answer is touched by what is done to another one, of that answer, of another,
// or of what was handed in. What lies behind the length of a list is not read, and nothing of it lies behind those of an
// answer. What was asked ahead does not tell in what is told.
func TestMemoryOfAnswers(t *testing.T) {
	for _, fault := range rooms.Faults(calls()) {
		t.Error(fault)
	}
}

// One list may be the Row of several Items, and one set both of those that are added: what is told is apart all the same.
func TestOneListAtSeveralPlaces(t *testing.T) {
	long := rowOf(5, 6, 7, 8)
	z := items(api.Item{Row: long[:1], W: 1}, api.Item{Row: long[:2], W: -2}, api.Item{Row: long[:4], W: most})
	c := call{z, z, [][]api.Value{long, long[:2], long, long[:0]}}
	stays := rooms.Keep(c.Rooms())
	if fault := rooms.Fault(nil, c.Answers); fault != "" || !stays() {
		t.Errorf("%s; handed in is now %v", fault, c)
	}
}

// nil and an empty list mean the same.
func TestNilIsAnEmptyList(t *testing.T) {
	none, bare := []api.Item{}, api.Item{Row: []api.Value{}, W: 3}
	wantCheck(t, none, api.OK)
	wantMake(t, none, nil, api.OK)
	wantRows(t, [][]api.Value{}, nil, api.OK)
	wantAdd(t, none, none, nil, api.OK)
	wantAdd(t, none, items(bare), items(of(3)), api.OK)
	wantNeg(t, none, nil, api.OK)
	wantSize(t, none, 0)
	wantWeight(t, none, []api.Value{}, 0)
	wantCheck(t, items(bare, at(1, 1)), api.OK)
	wantCheck(t, items(bare, of(3)), api.ErrArg)
	wantCheck(t, items(of(3), bare), api.ErrArg)
	wantMake(t, items(bare, of(3)), items(of(6)), api.OK)
	wantAdd(t, items(bare), items(of(-3)), nil, api.OK)
	wantNeg(t, items(bare), items(of(-3)), api.OK)
	wantWeight(t, items(bare), nil, 3)
	wantWeight(t, items(of(3)), []api.Value{}, 3)
}

// R1

// anyNumber tells one that may stand somewhere, or at an end of what may.
func anyNumber(r *rand.Rand) int {
	ends := []int{math.MinInt, -most - 1, -most, -1, 0, 0, 1, 1, 2, 3, 4, most, most + 1, api.MaxValue, api.MaxValue + 1, math.MaxInt}
	return ends[r.Intn(len(ends))]
}

func anyRow(r *rand.Rand) []api.Value {
	if r.Intn(3) > 0 {
		return samples.Rows()[r.Intn(len(samples.Rows()))]
	}
	var l []api.Value
	for range []int{0, 1, 2, 12, 13, 300}[r.Intn(6)] {
		l = append(l, api.Value{Kind: anyNumber(r), I: anyNumber(r), S: []string{"", "a", samples.Longest() + "x"}[r.Intn(3)]})
	}
	return l
}

func anyOf[T any](r *rand.Rand, one func() T) []T {
	var l []T
	for range r.Intn(7) {
		l = append(l, one())
	}
	return l
}

// Of whatever is handed in, each call ends, and all tell the same of whether it is right.
func TestOfAny(t *testing.T) {
	r := rand.New(rand.NewSource(8))
	oneRow := func() []api.Value { return anyRow(r) }
	oneItem := func() api.Item { return of(anyNumber(r), oneRow()...) }
	for range 30000 {
		a, b, l := anyOf(r, oneItem), anyOf(r, oneItem), anyOf(r, oneRow)
		if r.Intn(2) == 0 {
			a = anySet(r)
		}
		e, f := zset.Check(a), zset.Check(b)
		both, g := zset.Add(a, b)
		if e != api.OK && g != e || e == api.OK && f != api.OK && g != f || e == api.OK && f == api.OK && g == api.ErrArg {
			t.Fatalf("Add(%v, %v): got %d; Check %d, %d", a, b, g, e, f)
		}
		turned, h := zset.Neg(a)
		if h != e || e != api.OK && zset.Size(a) != 0 {
			t.Fatalf("Neg(%v): got %d; Check %d; Size %d", a, h, e, zset.Size(a))
		}
		made, i := zset.Make(a)
		if e == api.OK && (i != e || !same(made, a)) {
			t.Fatalf("Make(%v): got %v, %d", a, made, i)
		}
		rows, k := zset.Rows(l)
		for _, told := range []struct {
			z []api.Item
			e api.Errno
		}{{both, g}, {turned, h}, {made, i}, {rows, k}} {
			if zset.Check(told.z) != api.OK || told.e != api.OK && len(told.z) != 0 {
				t.Fatalf("got %v, %d", told.z, told.e)
			}
		}
		for _, x := range l {
			if w := zset.Weight(a, x); w != 0 && !slices.ContainsFunc(a, func(y api.Item) bool { return slices.Equal(y.Row, x) && y.W == w }) {
				t.Fatalf("Weight(%v, %v): got %d", a, x, w)
			}
		}
	}
}
