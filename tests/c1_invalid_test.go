package tests

import (
	"testing"

	"loop.example/tonesincircles/impl"
)

func TestNumbersThatAreNoSet(t *testing.T) {
	for _, bad := range badSets() {
		n, set := bad[0], bad[1]
		equal(t, "ValidSet", impl.ValidSet(n, set), false)
		same(t, "TonesOf", impl.TonesOf(n, set), nil)
		equal(t, "OthersOf", impl.OthersOf(n, set), -1)
		same(t, "GapsOf", impl.GapsOf(n, set), nil)
		equal(t, "PrimeOf", impl.PrimeOf(n, set), -1)
		shifts, turns := impl.MovesOf(n, set)
		equal(t, "shifts of MovesOf", shifts, -1)
		equal(t, "turns of MovesOf", turns, -1)
		for _, by := range append(badShifts(), 0, 1, -1, 12, impl.MaxShift, -impl.MaxShift) {
			equal(t, "ShiftSet", impl.ShiftSet(n, set, by), -1)
			equal(t, "TurnSet", impl.TurnSet(n, set, by), -1)
			equal(t, "CommonOf", impl.CommonOf(n, set, by), -1)
		}
	}
}

func TestShiftsThatAreTooGreat(t *testing.T) {
	eachSet(t, func(n, set int) {
		for _, by := range badShifts() {
			if impl.ShiftSet(n, set, by) != -1 || impl.TurnSet(n, set, by) != -1 || impl.CommonOf(n, set, by) != -1 {
				t.Errorf("the set %d of %d is moved by %d", set, n, by)
			}
		}
	})
}

func TestTwinsOfNumbersThatAreNoSet(t *testing.T) {
	for _, bad := range badSets() {
		n, set := bad[0], bad[1]
		for _, other := range []int{0, 1, 2, set} {
			equal(t, "AreTwins, the first one wrong", impl.AreTwins(n, set, other), false)
			equal(t, "AreTwins, the second one wrong", impl.AreTwins(n, other, set), false)
		}
	}
	// No tones and one tone are twins, but not in a circle that is none.
	for _, n := range []int{impl.MinTones - 1, impl.MaxTones + 1, 0, -1, 64} {
		equal(t, "AreTwins of no circle", impl.AreTwins(n, 0, 1), false)
	}
	// As bits, these would be twins.
	equal(t, "AreTwins with a tone too many", impl.AreTwins(12, 0, 4096), false)
	equal(t, "AreTwins with a tone too many", impl.AreTwins(12, 4096, 0), false)
}

func TestKindsOfNoCircle(t *testing.T) {
	for _, n := range []int{impl.MinTones - 1, impl.MaxTones + 1, 1, 0, -1, -12, 62, 64, 1<<63 - 1, -1 << 63} {
		for _, k := range []int{-1, 0, 1, 2, 4, n, n + 1} {
			if impl.PrimesOf(n, k) != nil {
				t.Errorf("PrimesOf(%d, %d) is not nil", n, k)
			}
			if impl.TwinsOf(n, k) != nil {
				t.Errorf("TwinsOf(%d, %d) is not nil", n, k)
			}
		}
	}
}

func TestKindsOfWrongNumbersOfTones(t *testing.T) {
	eachCircle(func(n int) {
		for _, k := range []int{-1, n + 1, -n, 1 << 40, 1<<63 - 1, -1 << 63} {
			if impl.PrimesOf(n, k) != nil {
				t.Errorf("PrimesOf(%d, %d) is not nil", n, k)
			}
			if impl.TwinsOf(n, k) != nil {
				t.Errorf("TwinsOf(%d, %d) is not nil", n, k)
			}
		}
	})
}
