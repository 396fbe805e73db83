package rooms

import (
	"slices"
	"strconv"
)

// Call is one that a layer's tests ask, of one function or of several at once.
type Call[C any] interface {
	// Roomy answers it with what is handed in in new memory, spare room behind each list, as Spare makes it.
	Roomy() C
	// Rooms has the memory of what is handed in.
	Rooms() []Room
	// Answers asks it; it has the memory of what is answered, and tells that as it is up to its length.
	Answers() (all []Room, told string)
}

// Faults asks all of calls, and then again from the last to the first. It answers what is wrong then, with the call's
// place ahead: what Fault tells, that what lies behind a list is read, or that what is told hangs on what was asked
// ahead.
func Faults[C Call[C]](calls []C) []string {
	var want, faults []string
	for _, c := range calls {
		_, told := c.Answers()
		want = append(want, told)
	}
	for i, c := range slices.Backward(calls) {
		for _, fault := range faultsOf(c, want[i]) {
			faults = append(faults, "call "+strconv.Itoa(i)+": "+fault)
		}
	}
	return faults
}

// faultsOf has what is wrong with c, which told want when it was asked first.
func faultsOf[C Call[C]](c C, want string) []string {
	var faults []string
	if _, told := c.Answers(); told != want {
		faults = append(faults, "it told "+want+", and now "+told)
	}
	in := c.Roomy()
	if _, told := in.Answers(); told != want {
		faults = append(faults, "with spare room it tells "+told+", without it "+want)
	}
	if fault := Fault(in.Rooms(), in.Answers); fault != "" {
		faults = append(faults, fault)
	}
	return faults
}
