package impl

import (
	"math/bits"
	"slices"
)

// MinTones is the least number of tones of a circle.
const MinTones = 3

// MaxTones is the largest number of tones of a circle.
const MaxTones = 12

// MaxShift is the greatest shift.
const MaxShift = 50

// circleSet is a set of tones, a bit for each, with the circle in which they stand:
// without it a shift or a turn of the tones has no meaning.
type circleSet struct {
	size  int
	tones int
}

// kind stands for a set with all its shifts and turns, told by the least of them.
type kind struct {
	size  int
	least int
}

// validCircle reports whether there is a circle of n tones.
func validCircle(n int) bool {
	return n >= MinTones && n <= MaxTones
}

// validShift reports whether tones may be shifted by t.
func validShift(t int) bool {
	return t >= -MaxShift && t <= MaxShift
}

// roundCircle returns the tone of a circle of n at which the number x, below 0 or not, ends.
func roundCircle(n int, x int) int {
	return (x%n + n) % n
}

// apart returns how far two tones of a circle of n are apart, the shorter way round.
func apart(n int, x int, y int) int {
	up := roundCircle(n, y-x)
	return min(up, n-up)
}

// has reports whether the tone x is in the set.
func (s circleSet) has(x int) bool {
	return s.tones>>x&1 == 1
}

// count returns the number of tones.
func (s circleSet) count() int {
	return bits.OnesCount(uint(s.tones))
}

// list returns the tones, ascending.
func (s circleSet) list() []int {
	var out []int
	for x := range s.size {
		if s.has(x) {
			out = append(out, x)
		}
	}
	return out
}

// with returns the set with one more tone, that at which x, below 0 or not, ends.
func (s circleSet) with(x int) circleSet {
	s.tones |= 1 << roundCircle(s.size, x)
	return s
}

// without returns the set with one tone less, x.
func (s circleSet) without(x int) circleSet {
	s.tones &^= 1 << x
	return s
}

// moved returns the set with the tone t plus way times x for each tone x.
func (s circleSet) moved(way int, t int) circleSet {
	out := circleSet{size: s.size}
	for x := range s.size {
		if s.has(x) {
			out = out.with(t + way*x)
		}
	}
	return out
}

// shift returns the set with each tone t more.
func (s circleSet) shift(t int) circleSet {
	return s.moved(1, t)
}

// turn returns the set with t less x for each tone x.
func (s circleSet) turn(t int) circleSet {
	return s.moved(-1, t)
}

// others returns the set of the tones that are not in the set.
func (s circleSet) others() circleSet {
	return circleSet{s.size, 1<<s.size - 1 - s.tones}
}

// common returns the number of tones that are in both sets.
func (s circleSet) common(other circleSet) int {
	return bits.OnesCount(uint(s.tones & other.tones))
}

// gaps returns how many pairs of tones are 1, 2, and so on up to half a circle apart.
func (s circleSet) gaps() []int {
	out := make([]int, s.size/2)
	tones := s.list()
	for i, high := range tones {
		for _, low := range tones[:i] {
			out[apart(s.size, low, high)-1]++
		}
	}
	return out
}

// kind returns the kind of the set.
func (s circleSet) kind() kind {
	least := s.tones
	for t := range s.size {
		least = min(least, s.shift(t).tones, s.turn(t).tones)
	}
	return kind{s.size, least}
}

// ValidSet reports whether a number is a set of tones.
func ValidSet(n int, set int) bool {
	return validCircle(n) && set >= 0 && set < 1<<n
}

// TonesOf returns the tones of a set.
func TonesOf(n int, set int) []int {
	if !ValidSet(n, set) {
		return nil
	}
	return circleSet{n, set}.list()
}

// ShiftSet returns a set whose tones are all some higher.
func ShiftSet(n int, set int, t int) int {
	if !ValidSet(n, set) || !validShift(t) {
		return -1
	}
	return circleSet{n, set}.shift(t).tones
}

// TurnSet returns a set whose tones are turned round.
func TurnSet(n int, set int, t int) int {
	if !ValidSet(n, set) || !validShift(t) {
		return -1
	}
	return circleSet{n, set}.turn(t).tones
}

// OthersOf returns the set of all other tones.
func OthersOf(n int, set int) int {
	if !ValidSet(n, set) {
		return -1
	}
	return circleSet{n, set}.others().tones
}

// GapsOf returns how many pairs of tones are how far apart.
func GapsOf(n int, set int) []int {
	if !ValidSet(n, set) {
		return nil
	}
	return circleSet{n, set}.gaps()
}

// CommonOf returns how many tones stay when all are shifted.
func CommonOf(n int, set int, t int) int {
	if !ValidSet(n, set) || !validShift(t) {
		return -1
	}
	s := circleSet{n, set}
	return s.common(s.shift(t))
}

// PrimeOf returns the least one of all shifts and turns of a set.
func PrimeOf(n int, set int) int {
	if !ValidSet(n, set) {
		return -1
	}
	return circleSet{n, set}.kind().least
}

// PrimesOf returns all sets that are least themselves.
func PrimesOf(n int, k int) []int {
	if !validCircle(n) || k < 0 || k > n {
		return nil
	}
	var out []int
	for found := range kindsOf(n, k) {
		out = append(out, found.least)
	}
	// A range over a map has no order of its own.
	slices.Sort(out)
	return out
}

// kindsOf returns the kinds of all sets of k tones of a circle of n.
func kindsOf(n int, k int) map[kind]bool {
	found := map[kind]bool{}
	for set := range 1 << n {
		if s := (circleSet{n, set}); s.count() == k {
			found[s.kind()] = true
		}
	}
	return found
}

// AreTwins reports whether two different kinds of sets have the same gaps.
func AreTwins(n int, a int, b int) bool {
	if !ValidSet(n, a) || !ValidSet(n, b) {
		return false
	}
	first, second := circleSet{n, a}, circleSet{n, b}
	return slices.Equal(first.gaps(), second.gaps()) && first.kind() != second.kind()
}

// TwinsOf returns all pairs of different kinds with the same gaps.
func TwinsOf(n int, k int) [][]int {
	// PrimesOf has no sets for arguments that are not valid, and then there are no pairs.
	primes := PrimesOf(n, k)
	var out [][]int
	for i, a := range primes {
		for _, b := range primes[i+1:] {
			if AreTwins(n, a, b) {
				out = append(out, []int{a, b})
			}
		}
	}
	return out
}

// MovesOf returns how many shifts and turns leave a set.
func MovesOf(n int, set int) (int, int) {
	if !ValidSet(n, set) {
		return -1, -1
	}
	s := circleSet{n, set}
	shifts, turns := 0, 0
	for t := range n {
		if s.shift(t) == s {
			shifts++
		}
		if s.turn(t) == s {
			turns++
		}
	}
	return shifts, turns
}
