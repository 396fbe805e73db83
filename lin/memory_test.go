package lin_test

import (
	"fmt"
	"math"
	"math/rand"
	"slices"
	"testing"

	"raddle/api"
	"raddle/lin"
	"raddle/pred"
	"raddle/rooms"
	"raddle/samples"
	"raddle/zset"
)

// call is one of each function, with two sets, right or not.
type call struct {
	a, b []api.Item
	p    api.Pred
	cols []int
}

func (c call) Roomy() call {
	return call{rooms.SpareItems(c.a), rooms.SpareItems(c.b), c.p, rooms.SpareInts(c.cols)}
}

func (c call) Rooms() []rooms.Room {
	return slices.Concat(rooms.Items(c.a), rooms.Items(c.b), rooms.Ints(c.cols))
}

type answer struct {
	z []api.Item
	e api.Errno
}

func (c call) asked() []answer {
	var all []answer
	tell := func(z []api.Item, e api.Errno) { all = append(all, answer{z, e}) }
	tell(lin.Filter(c.a, c.p))
	tell(lin.Filter(c.b, c.p))
	tell(lin.Project(c.a, c.cols))
	tell(lin.Project(c.b, c.cols))
	tell(lin.Union(c.a, c.b))
	tell(lin.Union(c.b, c.a))
	tell(lin.Union(c.a, nil))
	tell(lin.Union(nil, c.a))
	tell(lin.Union(c.a, c.a))
	tell(lin.Minus(c.a, c.b))
	tell(lin.Minus(c.b, c.a))
	tell(lin.Minus(c.a, nil))
	tell(lin.Minus(nil, c.a))
	tell(lin.Minus(c.a, c.a))
	return all
}

// Answers asks all calls; it has the memory of what they answer, and tells it as it is up to its length.
func (c call) Answers() (all []rooms.Room, told string) {
	for _, a := range c.asked() {
		all = append(all, rooms.Items(a.z)...)
		told += fmt.Sprintln(a.z, a.e)
	}
	return all, told
}

// calls has such as keep much, little and nothing, and such as tell an error.
func calls() []call {
	sets := [][]api.Item{
		nil, items(of(3)), items(at(2, 1), at(-3, 4)), items(at(-2, 1), at(3, 4)), pairs(), chosen(1, 2, 5), samples.Set(), samples.Set()[6:15],
		items(at(most, 1)), items(at(most, 1), at(1, 2)), items(at(1, 2), at(1, 2), at(1, 1)), items(at(0, 1), at(5, 5)), items(of(1, api.Value{})),
	}
	asked := []api.Pred{{Kind: api.PredNot}, {Kind: api.PredNull, Col: 1}, {Kind: api.PredLess, Val: num(2)}, {Kind: api.PredEqCol, Other: 1}, {}}
	cols := [][]int{nil, {0}, {1, 0, 1}, {0, 0}, {1}, {-1}, make([]int, api.MaxArity+1)}
	var all []call
	for i, a := range sets {
		for k, b := range sets {
			all = append(all, call{a, b, asked[(i+k)%len(asked)], cols[(i+2*k)%len(cols)]})
		}
	}
	return all
}

// R2 and R3

// What is handed in stays, and none of an answer is touched by what is done to another one, of that answer, of another,
// or of what was handed in. What lies behind the length of a list is not read, and nothing of it lies behind those of an
// answer. What was asked ahead does not tell in what is told.
func TestMemoryOfAnswers(t *testing.T) {
	for _, fault := range rooms.Faults(calls()) {
		t.Error(fault)
	}
}

// One list may be the Row of several Items, and one set both of those that are handed in: what is told is apart all the
// same.
func TestOneListAtSeveralPlaces(t *testing.T) {
	long := at(0, 5, 6, 7, 8).Row
	z := items(of(1, long[:1]...), of(-2, long[:2]...), of(most, long[:4]...))
	c := call{z, z, api.Pred{Kind: api.PredNot}, []int{0}}
	stays := rooms.Keep(c.Rooms())
	if fault := rooms.Fault(nil, c.Answers); fault != "" || !stays() {
		t.Errorf("%s; handed in is now %v", fault, c)
	}
}

// nil and an empty list mean the same.
func TestNilIsAnEmptyList(t *testing.T) {
	none, bare, noCols := items(), items(of(3, []api.Value{}...)), []int{}
	wantFilter(t, none, api.Pred{Kind: api.PredNot}, nil, api.OK)
	wantFilter(t, bare, api.Pred{Kind: api.PredNot}, nil, api.OK)
	wantProject(t, none, noCols, nil, api.OK)
	wantProject(t, bare, nil, items(of(3)), api.OK)
	wantProject(t, bare, noCols, items(of(3)), api.OK)
	wantUnion(t, none, none, nil, api.OK)
	wantUnion(t, bare, items(of(3)), items(of(6)), api.OK)
	wantUnion(t, none, bare, items(of(3)), api.OK)
	wantMinus(t, none, none, nil, api.OK)
	wantMinus(t, bare, items(of(3)), nil, api.OK)
	wantMinus(t, none, bare, items(of(-3)), api.OK)
	wantMinus(t, bare, none, items(of(3)), api.OK)
}

// R1

// anyNumber tells one that may stand somewhere, or at an end of what may.
func anyNumber(r *rand.Rand) int {
	ends := []int{math.MinInt, -most - 1, -most, -1, 0, 0, 1, 1, 2, 3, 4, most, most + 1, api.MaxValue, api.MaxValue + 1, math.MaxInt}
	return ends[r.Intn(len(ends))]
}

func anyNumbers(r *rand.Rand) []int {
	l := make([]int, []int{0, 1, 2, 3, 12, 13, 300}[r.Intn(7)])
	for i := range l {
		if l[i] = r.Intn(2); r.Intn(40) == 0 {
			l[i] = anyNumber(r)
		}
	}
	return l
}

// anyItems has some that are sets, and some that may be none.
func anyItems(r *rand.Rand) []api.Item {
	if r.Intn(4) > 0 {
		return anySet(r, 1+r.Intn(3), most)
	}
	l, rows := items(), slices.Concat(samples.Rows(), samples.WrongRows())
	for range r.Intn(6) {
		l = append(l, of(anyNumber(r), rows[r.Intn(len(rows))]...))
	}
	return l
}

// Of whatever is handed in, each call ends, and tells a set, or an error alone; that of zset.Check it tells first.
func TestOfAny(t *testing.T) {
	r := rand.New(rand.NewSource(8))
	asked, values := map[api.Errno]int{}, samples.AnyValues()
	for range 20000 {
		p := api.Pred{Kind: anyNumber(r), Col: anyNumber(r), Other: anyNumber(r), Val: values[r.Intn(len(values))]}
		c := call{anyItems(r), anyItems(r), p, anyNumbers(r)}
		wrongA, wrongB := zset.Check(c.a) != api.OK, zset.Check(c.b) != api.OK
		for i, a := range c.asked() {
			if zset.Check(a.z) != api.OK || a.e != api.OK && len(a.z) != 0 {
				t.Fatalf("answer %d of %v: %v, %d", i, c, a.z, a.e)
			}
			// Answers 1 and 3 are of b alone, 4, 5, 9 and 10 of both.
			wrong := wrongA
			switch i {
			case 1, 3:
				wrong = wrongB
			case 4, 5, 9, 10:
				wrong = wrongA || wrongB
			}
			if wrong && a.e != api.ErrArg || !wrong && i != 2 && i != 3 && a.e == api.ErrArg {
				t.Fatalf("answer %d of %v: error %d", i, c, a.e)
			}
			asked[a.e]++
		}
		for i, x := range c.asked()[0].z {
			if !pred.Holds(p, x.Row) {
				t.Fatalf("Filter(%v, %v): kept %d, %v", c.a, p, i, x)
			}
		}
	}
	if len(asked) != 4 || asked[api.OK] < 1000 || asked[api.ErrArg] < 1000 || asked[api.ErrLen] < 1000 || asked[api.ErrOver] < 1000 {
		t.Errorf("told: %v", asked)
	}
}
