package tests

import (
	"testing"

	"loop.example/tonesincircles/impl"
)

// noRhythm checks the fixed results for a number that is no set.
func noRhythm(t *testing.T, what string, n, set int) {
	t.Helper()
	if period := impl.PeriodOf(n, set); period != -1 {
		t.Errorf("%s: PeriodOf(%d, %d) = %d", what, n, set, period)
	}
	if impl.IsOdd(n, set) {
		t.Errorf("%s: IsOdd(%d, %d)", what, n, set)
	}
	if tiles := impl.TilesOf(n, set); len(tiles) != 0 {
		t.Errorf("%s: TilesOf(%d, %d) = %v", what, n, set, tiles)
	}
	if factors := impl.FactorsOf(n, set); len(factors) != 0 {
		t.Errorf("%s: FactorsOf(%d, %d) = %v", what, n, set, factors)
	}
	if impl.IsLoose(n, set) {
		t.Errorf("%s: IsLoose(%d, %d)", what, n, set)
	}
}

// noCanon checks the fixed results for two numbers of which one is no set.
func noCanon(t *testing.T, what string, n, a, b int) {
	t.Helper()
	if sums, different := impl.SumsOf(n, a, b); sums != -1 || different {
		t.Errorf("%s: SumsOf(%d, %d, %d) = %d, %t", what, n, a, b, sums, different)
	}
	if canon := impl.CanonOf(n, a, b); len(canon) != 0 {
		t.Errorf("%s: CanonOf(%d, %d, %d) = %v", what, n, a, b, canon)
	}
}

func TestRhythmsOfNumbersThatAreNoSet(t *testing.T) {
	for _, bad := range badSets() {
		n, set := bad[0], bad[1]
		noRhythm(t, "no set", n, set)
		for _, other := range append(hugeNumbers(), -1, 0, 1, 2, 3, set) {
			noCanon(t, "the first one no set", n, set, other)
			noCanon(t, "the second one no set", n, other, set)
		}
	}
}

func TestRhythmsOfNoCircle(t *testing.T) {
	for _, n := range badCircles() {
		for _, set := range []int{-1, 0, 1, 2, 3, 7, 4095} {
			noRhythm(t, "no circle", n, set)
			for _, other := range []int{-1, 0, 1, 2, 3, 7, 4095} {
				noCanon(t, "no circle", n, set, other)
			}
		}
	}
}

// TestRhythmsOfTonesTooHigh looks at numbers that are sets of a circle of one tone more.
func TestRhythmsOfTonesTooHigh(t *testing.T) {
	eachCircle(func(n int) {
		outside := allOf(n) + 1
		noRhythm(t, "a tone outside", n, outside)
		noRhythm(t, "a tone outside and one inside", n, outside+1)
		noRhythm(t, "all tones and one outside", n, 2*outside-1)
		noCanon(t, "both outside", n, outside, outside)
		for set := range outside {
			noCanon(t, "the first one outside", n, outside, set)
			noCanon(t, "the second one outside", n, set, outside)
		}
	})
}

func TestRhythmsBelowNoTones(t *testing.T) {
	eachCircle(func(n int) {
		for set := -allOf(n) - 1; set < 0; set++ {
			noRhythm(t, "below 0", n, set)
			noCanon(t, "the first one below 0", n, set, 1)
			noCanon(t, "the second one below 0", n, 1, set)
		}
	})
}
