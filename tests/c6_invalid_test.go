package tests

import (
	"testing"

	"loop.example/tonesincircles/impl"
)

// badParts are numbers of steps into which no octave is parted.
func badParts() []int {
	return append(hugeNumbers(), 0, -1, -impl.MaxTones, impl.MaxTones+1, 19, 53)
}

// badPowers are lists that are no powers of 2, 3 and 5, or not within the limits.
func badPowers() [][]int {
	bad := [][]int{
		nil, {}, {0}, {1}, {0, 0}, {1, 2}, {-1, 1}, {0, 0, 0, 0}, {-4, 4, -1, 0}, {-4, 4, -1, 1}, {0, 0, 0, 0, 0, 0},
		{25, 0, 0}, {-25, 0, 0}, {0, 13, 0}, {0, -13, 0}, {0, 0, 7}, {0, 0, -7},
		{25, 12, 6}, {24, 13, 6}, {24, 12, 7}, {-25, -12, -6}, {-24, -13, -6}, {-24, -12, -7},
		{25, -13, 0}, {-20, 13, 0}, {-16, 0, 7}, {12, 24, 6}, {6, 12, 24},
	}
	for _, huge := range hugeNumbers() {
		bad = append(bad, []int{huge, 0, 0}, []int{0, huge, 0}, []int{0, 0, huge}, []int{huge, huge, huge}, []int{huge})
	}
	return bad
}

// noSteps checks the fixed result for powers or a number of steps that are none.
func noSteps(t *testing.T, what string, n int, e []int) {
	t.Helper()
	if steps, found := impl.StepsBy(n, e); steps != 0 || found {
		t.Errorf("%s: StepsBy(%d, %v) = %d, %t", what, n, e, steps, found)
	}
}

func TestListsThatAreNoPowers(t *testing.T) {
	for _, e := range badPowers() {
		hasRatio(t, "no powers", e, 0, 0)
		hasNoOctave(t, "no powers", e)
		for n := 1; n <= impl.MaxTones; n++ {
			noSteps(t, "no powers", n, e)
		}
		for _, n := range badParts() {
			noSteps(t, "no powers and no octave", n, e)
		}
	}
}

func TestPowersOneBeyondTheirLimits(t *testing.T) {
	limits := []int{impl.MaxTwos, impl.MaxThrees, impl.MaxFives}
	for i, limit := range limits {
		for _, sign := range []int{1, -1} {
			e := make([]int, 3)
			e[i] = sign * limit
			if up, down := impl.RatioOf(e); up == 0 || down == 0 {
				t.Errorf("RatioOf(%v) = %d, %d", e, up, down)
			}
			if _, found := impl.StepsBy(12, e); !found {
				t.Errorf("no StepsBy(12, %v)", e)
			}
			e[i] += sign
			hasRatio(t, "one beyond a limit", e, 0, 0)
			hasNoOctave(t, "one beyond a limit", e)
			noSteps(t, "one beyond a limit", 12, e)
		}
	}
}

func TestNumbersThatAreNoRatio(t *testing.T) {
	bad := append(hugeNumbers(), 0, -1, -2, -3, -impl.MaxRatio, impl.MaxRatio+1, 2*impl.MaxRatio, 1<<20, 1594323)
	for _, number := range bad {
		hasNoPowers(t, "both no number of a ratio", number, number)
		for _, other := range append(bad, 1, 2, 3, 5, 7, 30, impl.MaxRatio) {
			hasNoPowers(t, "the upper one no number of a ratio", number, other)
			hasNoPowers(t, "the lower one no number of a ratio", other, number)
		}
	}
}

func TestOctavesThatAreNotParted(t *testing.T) {
	for _, n := range badParts() {
		for _, prime := range []int{3, 5, 2, 7} {
			equal(t, "StepsFor no octave", impl.StepsFor(n, prime), -1)
		}
		for _, e := range [][]int{{0, 0, 0}, {1, 0, 0}, {-1, 1, 0}, {24, 12, 6}} {
			noSteps(t, "no octave", n, e)
		}
		greater, lesser := impl.LeftOf(n)
		equal(t, "greater number of no octave", greater, 0)
		equal(t, "lesser number of no octave", lesser, 0)
		same(t, "BestTones of no octave", impl.BestTones(n), nil)
		sameLists(t, "FifthsOf no octave", impl.FifthsOf(n), nil)
		sameLists(t, "GapsBetween no octave", impl.GapsBetween(n), nil)
	}
}

func TestPrimesThatHaveNoSteps(t *testing.T) {
	for _, prime := range append(hugeNumbers(), 0, 1, 2, 4, 6, 7, 9, 11, 15, 25, -1, -2, -3, -5) {
		for n := 1; n <= impl.MaxTones; n++ {
			equal(t, "StepsFor another number", impl.StepsFor(n, prime), -1)
		}
	}
}
