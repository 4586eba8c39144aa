package tests

import (
	"testing"

	"loop.example/tonesincircles/impl"
)

func TestLimitsOfSets(t *testing.T) {
	equal(t, "MinTones", impl.MinTones, 3)
	equal(t, "MaxTones", impl.MaxTones, 12)
	equal(t, "MaxShift", impl.MaxShift, 50)
}

func TestValidSetExamples(t *testing.T) {
	for _, c := range [][2]int{{3, 0}, {3, 7}, {12, 0}, {12, 1}, {12, 4095}, {7, 127}} {
		equal(t, "ValidSet", impl.ValidSet(c[0], c[1]), true)
	}
}

func TestTonesOfExamples(t *testing.T) {
	same(t, "TonesOf", impl.TonesOf(12, 2741), []int{0, 2, 4, 5, 7, 9, 11})
	same(t, "TonesOf no tones", impl.TonesOf(12, 0), nil)
	same(t, "TonesOf all", impl.TonesOf(5, 31), []int{0, 1, 2, 3, 4})
	same(t, "TonesOf the highest", impl.TonesOf(12, 2048), []int{11})
}

func TestShiftSetExamples(t *testing.T) {
	equal(t, "round upwards", impl.ShiftSet(12, setWith(0, 4, 11), 2), setWith(2, 6, 1))
	equal(t, "round downwards", impl.ShiftSet(12, setWith(0, 4, 7), -5), setWith(7, 11, 2))
	equal(t, "by none", impl.ShiftSet(7, setWith(1, 6), 0), setWith(1, 6))
	equal(t, "by the greatest shift", impl.ShiftSet(3, setWith(0), 50), setWith(2))
	equal(t, "by the least shift", impl.ShiftSet(3, setWith(0), -50), setWith(1))
	equal(t, "half a circle", impl.ShiftSet(8, setWith(1, 5), 4), setWith(1, 5))
	equal(t, "no tones", impl.ShiftSet(12, 0, 7), 0)
	equal(t, "all tones", impl.ShiftSet(11, 2047, -13), 2047)
}

func TestTurnSetExamples(t *testing.T) {
	equal(t, "by none", impl.TurnSet(12, setWith(0, 4, 7), 0), setWith(0, 8, 5))
	equal(t, "by 7", impl.TurnSet(12, setWith(0, 4, 7), 7), setWith(7, 3, 0))
	equal(t, "below 0", impl.TurnSet(5, setWith(1, 2), -1), setWith(3, 2))
	equal(t, "by the greatest", impl.TurnSet(3, setWith(1), 50), setWith(1))
	equal(t, "by the least", impl.TurnSet(3, setWith(2), -50), setWith(2))
	equal(t, "half a circle", impl.TurnSet(6, setWith(1, 4), 2), setWith(1, 4))
	equal(t, "no tones", impl.TurnSet(9, 0, 3), 0)
	equal(t, "all tones", impl.TurnSet(4, 15, 3), 15)
}

func TestOthersOfExamples(t *testing.T) {
	equal(t, "major", impl.OthersOf(12, 2741), setWith(1, 3, 6, 8, 10))
	equal(t, "no tones", impl.OthersOf(12, 0), 4095)
	equal(t, "all tones", impl.OthersOf(3, 7), 0)
}

func TestGapsOfExamples(t *testing.T) {
	same(t, "major", impl.GapsOf(12, 2741), []int{2, 5, 4, 3, 6, 1})
	same(t, "uneven circle", impl.GapsOf(5, setWith(0, 1, 3)), []int{1, 2})
	same(t, "no tones", impl.GapsOf(12, 0), []int{0, 0, 0, 0, 0, 0})
	same(t, "one tone", impl.GapsOf(7, setWith(6)), []int{0, 0, 0})
	same(t, "half a circle apart", impl.GapsOf(12, setWith(2, 8)), []int{0, 0, 0, 0, 0, 1})
	same(t, "round the circle", impl.GapsOf(12, setWith(0, 11)), []int{1, 0, 0, 0, 0, 0})
	same(t, "all of an even circle", impl.GapsOf(4, 15), []int{4, 2})
	same(t, "all of an uneven circle", impl.GapsOf(3, 7), []int{3})
}

func TestCommonOfExamples(t *testing.T) {
	equal(t, "by 7", impl.CommonOf(12, 2741, 7), 6)
	equal(t, "half a circle", impl.CommonOf(12, 2741, 6), 2)
	equal(t, "once round", impl.CommonOf(12, 2741, 12), 7)
	equal(t, "downwards", impl.CommonOf(12, 2741, -1), 2)
	equal(t, "the greatest shift", impl.CommonOf(12, 2741, 50), 5)
	equal(t, "the least shift", impl.CommonOf(12, 2741, -50), 5)
	equal(t, "no tones", impl.CommonOf(12, 0, 0), 0)
	equal(t, "all tones", impl.CommonOf(12, 4095, 5), 12)
}

func TestPrimeOfExamples(t *testing.T) {
	equal(t, "turned and shifted", impl.PrimeOf(12, setWith(2, 6, 9)), setWith(0, 3, 7))
	equal(t, "prime itself", impl.PrimeOf(12, setWith(0, 3, 7)), setWith(0, 3, 7))
	equal(t, "one tone", impl.PrimeOf(12, setWith(11)), 1)
	equal(t, "half a circle", impl.PrimeOf(12, setWith(5, 11)), setWith(0, 6))
	equal(t, "no tones", impl.PrimeOf(12, 0), 0)
	equal(t, "all tones", impl.PrimeOf(12, 4095), 4095)
}

func TestPrimesOfExamples(t *testing.T) {
	same(t, "3 of 6", impl.PrimesOf(6, 3), []int{7, 11, 21})
	same(t, "2 of 4", impl.PrimesOf(4, 2), []int{3, 5})
	same(t, "1 of 3", impl.PrimesOf(3, 1), []int{1})
	same(t, "no tones", impl.PrimesOf(5, 0), []int{0})
	same(t, "all tones", impl.PrimesOf(5, 5), []int{31})
	for k, want := range []int{1, 1, 6, 12, 29, 38, 50, 38, 29, 12, 6, 1, 1} {
		equal(t, "kinds of 12 tones", len(impl.PrimesOf(12, k)), want)
	}
}

func TestAreTwinsExamples(t *testing.T) {
	equal(t, "twins", impl.AreTwins(12, setWith(0, 1, 4, 6), setWith(0, 1, 3, 7)), true)
	equal(t, "twins shifted", impl.AreTwins(12, setWith(3, 4, 7, 9), setWith(11, 0, 2, 6)), true)
	equal(t, "one kind", impl.AreTwins(12, setWith(0, 1, 4, 6), setWith(0, 2, 5, 6)), false)
	equal(t, "other gaps", impl.AreTwins(12, setWith(0, 1), setWith(0, 2)), false)
	equal(t, "itself", impl.AreTwins(12, setWith(0, 1, 4, 6), setWith(0, 1, 4, 6)), false)
	equal(t, "all and all", impl.AreTwins(12, 4095, 4095), false)
	// Neither no tones nor one tone have gaps, and they are of different kinds.
	equal(t, "no tones and one", impl.AreTwins(12, 0, 8), true)
	equal(t, "one tone and none", impl.AreTwins(3, 4, 0), true)
}

func TestTwinsOfExamples(t *testing.T) {
	for k, want := range []int{0, 0, 0, 0, 1, 3, 15, 3, 1, 0, 0, 0, 0} {
		equal(t, "pairs of twins of 12 tones", len(impl.TwinsOf(12, k)), want)
	}
	pairs := impl.TwinsOf(12, 4)
	if len(pairs) == 1 {
		same(t, "the twins", pairs[0], []int{setWith(0, 1, 4, 6), setWith(0, 1, 3, 7)})
	}
	pairs = impl.TwinsOf(8, 4)
	if len(pairs) != 1 {
		t.Fatalf("TwinsOf(8, 4) = %v", pairs)
	}
	same(t, "twins of 8", pairs[0], []int{setWith(0, 1, 3, 4), setWith(0, 1, 2, 5)})
}

func TestMovesOfExamples(t *testing.T) {
	for _, c := range []struct{ n, set, shifts, turns int }{
		{12, setWith(0, 4, 8), 3, 3},
		{12, setWith(0, 4, 7), 1, 0},
		{12, setWith(0, 3, 6), 1, 1},
		{12, setWith(1, 7), 2, 2},
		{12, setWith(0, 1, 3, 6, 7, 9), 2, 0},
		{12, 0, 12, 12},
		{12, 4095, 12, 12},
		{3, 0, 3, 3},
		{5, 31, 5, 5},
		{7, setWith(6), 1, 1},
	} {
		shifts, turns := impl.MovesOf(c.n, c.set)
		equal(t, "shifts of MovesOf", shifts, c.shifts)
		equal(t, "turns of MovesOf", turns, c.turns)
	}
}
