package tests

import (
	"slices"
	"testing"

	"loop.example/tonesincircles/impl"
)

// The functions here compute with lists of tones only, so that they share no way of
// counting with the program.

// setWith returns the number of the set of some tones, each taken once.
func setWith(tones ...int) int {
	set, seen := 0, map[int]bool{}
	for _, x := range tones {
		if seen[x] {
			continue
		}
		seen[x] = true
		power := 1
		for range x {
			power *= 2
		}
		set += power
	}
	return set
}

// tonesIn returns the tones of a set by halving its number.
func tonesIn(set int) []int {
	var tones []int
	for x := 0; set > 0; x++ {
		if set%2 == 1 {
			tones = append(tones, x)
		}
		set /= 2
	}
	return tones
}

// round returns where x ends in a circle of n, going n by n.
func round(n, x int) int {
	for x < 0 {
		x += n
	}
	for x >= n {
		x -= n
	}
	return x
}

// shifted returns the set whose tones are t more.
func shifted(n, set, t int) int {
	tones := tonesIn(set)
	for i := range tones {
		tones[i] = round(n, tones[i]+t)
	}
	return setWith(tones...)
}

// turned returns the set whose tones are t less each tone.
func turned(n, set, t int) int {
	tones := tonesIn(set)
	for i := range tones {
		tones[i] = round(n, t-tones[i])
	}
	return setWith(tones...)
}

// stepsApart returns how far two tones are apart, going up from each of both to the other one.
func stepsApart(n, x, y int) int {
	up, down := 0, 0
	for round(n, x+up) != y {
		up++
	}
	for round(n, y+down) != x {
		down++
	}
	return min(up, down)
}

// allOf returns the set of all tones of a circle of n.
func allOf(n int) int {
	all := 0
	for range n {
		all = 2*all + 1
	}
	return all
}

// choose returns how many sets of k of n tones there are.
func choose(n, k int) int {
	if k == 0 {
		return 1
	}
	return choose(n-1, k-1) * n / k
}

// eachCircle calls a function for all circles.
func eachCircle(do func(n int)) {
	for n := 3; n <= 12; n++ {
		do(n)
	}
}

// eachSet calls a function for all sets of all circles, until the test has failed: the
// sets after the first wrong one would only repeat it.
func eachSet(t *testing.T, do func(n, set int)) {
	eachCircle(func(n int) {
		for set := 0; set <= allOf(n) && !t.Failed(); set++ {
			do(n, set)
		}
	})
}

// same reports two lists that are not the same; nil and empty lists are.
func same(t *testing.T, what string, got, want []int) {
	t.Helper()
	if !slices.Equal(got, want) {
		t.Errorf("%s = %v, want %v", what, got, want)
	}
}

// equal reports two values that are not the same.
func equal[T comparable](t *testing.T, what string, got, want T) {
	t.Helper()
	if got != want {
		t.Errorf("%s = %v, want %v", what, got, want)
	}
}

// badSets are pairs of a circle and a number that is no set of it.
func badSets() [][2]int {
	bad := [][2]int{
		{impl.MinTones - 1, 0}, {impl.MinTones - 1, 1}, {impl.MaxTones + 1, 0}, {impl.MaxTones + 1, 1},
		{0, 0}, {1, 0}, {-1, 0}, {-1, 1}, {-12, 1}, {64, 1}, {1 << 40, 1}, {-1 << 63, 0}, {1<<63 - 1, 1},
		{12, -1 << 63}, {12, 1<<63 - 1}, {12, 1 << 32},
	}
	eachCircle(func(n int) {
		bad = append(bad, [2]int{n, -1}, [2]int{n, allOf(n) + 1}, [2]int{n, allOf(n) + 2})
	})
	return bad
}

// badShifts are numbers by which nothing is shifted.
func badShifts() []int {
	return []int{impl.MaxShift + 1, -impl.MaxShift - 1, 60, -60, 1 << 40, 1<<63 - 1, -1 << 63}
}
