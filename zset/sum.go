package zset

import "raddle/api"

// lowBits is how many bits of a weight are its lower part.
const lowBits = 28

// sum is one of weights: high, with lowBits noughts behind it, and low. It is kept in two parts, since on its way
// it may go beyond what an int holds.
type sum struct{ high, low int }

// with answers s with w added.
func (s sum) with(w int) sum {
	return sum{s.high + w>>lowBits, s.low + w&(1<<lowBits-1)}
}

// weight answers s as a weight, and false where it is beyond one.
func (s sum) weight() (int, bool) {
	// What low has above its bits goes to high, which then tells alone whether an int holds the whole.
	high, low := s.high+s.low>>lowBits, s.low&(1<<lowBits-1)
	const most = api.MaxWeight >> lowBits
	if high < -most || high > most {
		return 0, false
	}
	w := high<<lowBits + low
	if !isWeight(w) {
		return 0, false
	}
	return w, true
}
