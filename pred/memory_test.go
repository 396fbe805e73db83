package pred_test

import (
	"fmt"
	"math"
	"math/rand"
	"slices"
	"testing"

	"raddle/api"
	"raddle/pred"
	"raddle/rooms"
	"raddle/samples"
)

// call is one of each function.
type call struct {
	p     api.Pred
	types []int
	r     []api.Value
}

func (c call) Roomy() call {
	return call{c.p, rooms.SpareInts(c.types), rooms.SpareValues(c.r)}
}

func (c call) Rooms() []rooms.Room {
	return slices.Concat(rooms.Ints(c.types), rooms.Values(c.r))
}

// Answers has no memory, for none is answered.
func (c call) Answers() (none []rooms.Room, told string) {
	return nil, fmt.Sprint(pred.Check(c.p, c.types), pred.Holds(c.p, c.r))
}

// calls has such as ask the last place, and those behind it.
func calls() []call {
	var all []call
	for _, types := range [][]int{nil, {api.Int}, {api.Int, api.Int}, {api.Int, api.Bool, api.Int}} {
		var r []api.Value
		for i := range types {
			r = append(r, num(i))
		}
		for _, kind := range slices.Concat(kinds(), noKinds()) {
			for col := -1; col < len(types)+3; col++ {
				for other := -1; other < len(types)+3; other++ {
					all = append(all, call{api.Pred{Kind: kind, Col: col, Other: other, Val: num(1)}, types, r})
				}
			}
		}
	}
	return all
}

// R2 and R3

// What is handed in stays. No place is one that lies behind the length of a list, and what was asked ahead does not tell
// in what is told.
func TestMemoryOfAnswers(t *testing.T) {
	for _, fault := range rooms.Faults(calls()) {
		t.Error(fault)
	}
}

// R1

func anyNumber(r *rand.Rand) int {
	if ends := []int{math.MinInt, -1, 12, 256, math.MaxInt}; r.Intn(9) == 0 {
		return ends[r.Intn(len(ends))]
	}
	return r.Intn(6)
}

// Of whatever is handed in, each call ends. A right Pred asks places alone that a row with those columns has, so that
// of null and not null one holds.
func TestOfAny(t *testing.T) {
	random, all := rand.New(rand.NewSource(1)), slices.Concat(samples.Values(), samples.WrongValues(), samples.AnyValues())
	asked := make(map[api.Errno]int)
	for range 50000 {
		types, r := make([]int, random.Intn(5)), make([]api.Value, random.Intn(5))
		for i := range types {
			types[i] = anyNumber(random)
		}
		for i := range r {
			r[i] = all[random.Intn(len(all))]
		}
		p := api.Pred{Kind: anyNumber(random), Col: anyNumber(random), Other: anyNumber(random), Val: all[random.Intn(len(all))]}
		e, holds := pred.Check(p, types), pred.Holds(p, r)
		null, not := api.Pred{Kind: api.PredNull, Col: p.Col}, api.Pred{Kind: api.PredNot, Col: p.Col}
		isNull, isNot := pred.Holds(null, r), pred.Holds(not, r)
		if isNull && isNot || (holds || e == api.OK && len(r) >= len(types)) && isNull == isNot {
			t.Fatalf("Check(%v, %v): %d; Holds of %v: %v; null %v, not null %v", p, types, e, r, holds, isNull, isNot)
		}
		asked[e]++
	}
	if len(asked) != 3 || asked[api.OK] < 1000 || asked[api.ErrArg] < 1000 || asked[api.ErrType] < 1000 {
		t.Errorf("told: %v", asked)
	}
}
