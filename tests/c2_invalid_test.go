package tests

import (
	"testing"

	"loop.example/tonesincircles/impl"
)

// hugeNumbers are far from all limits, and overflow when they are multiplied or negated.
func hugeNumbers() []int {
	return []int{1 << 32, -1 << 32, 1 << 62, -1 << 62, 1<<63 - 1, -1 << 63}
}

// badCircles are numbers of tones that no circle has.
func badCircles() []int {
	return append(hugeNumbers(), impl.MinTones-1, impl.MaxTones+1, 1, 0, -1, -impl.MinTones, -impl.MaxTones, 64)
}

func TestScalesOfNumbersThatAreNoSet(t *testing.T) {
	for _, bad := range badSets() {
		n, set := bad[0], bad[1]
		for _, steps := range []int{-1, 0, 1, 2, n - 1, n} {
			same(t, "SizesOf", impl.SizesOf(n, set, steps), nil)
		}
		equal(t, "IsEven", impl.IsEven(n, set), false)
		equal(t, "IsDouble", impl.IsDouble(n, set), false)
		same(t, "RowsOf", impl.RowsOf(n, set), nil)
		equal(t, "IsDeep", impl.IsDeep(n, set), false)
	}
	// As bits of a circle that is one tone larger, these would be sets.
	equal(t, "IsEven with a tone too many", impl.IsEven(11, 1<<11), false)
	equal(t, "IsDouble with a tone too many", impl.IsDouble(11, 1<<11|1), false)
	same(t, "RowsOf with a tone too many", impl.RowsOf(11, 1<<11), nil)
	equal(t, "IsDeep with a tone too many", impl.IsDeep(3, 8), false)
	same(t, "SizesOf with a tone too many", impl.SizesOf(11, 1<<11|1, 1), nil)
}

func TestStepsThatASetDoesNotHave(t *testing.T) {
	eachSet(t, func(n, set int) {
		count := len(tonesIn(set))
		for _, steps := range append(hugeNumbers(), -n, -1, 0, count, count+1, n, 2*n) {
			if steps > 0 && steps < count {
				continue
			}
			if len(impl.SizesOf(n, set, steps)) != 0 {
				t.Fatalf("SizesOf(%d, %d, %d) = %v", n, set, steps, impl.SizesOf(n, set, steps))
			}
		}
	})
}

func TestSpreadOfOtherNumbers(t *testing.T) {
	for _, n := range badCircles() {
		for _, k := range []int{-1, 0, 1, 2, 3, n} {
			for _, m := range []int{-1, 0, 1, n - 1} {
				equal(t, "SpreadOf no circle", impl.SpreadOf(n, k, m), -1)
			}
		}
	}
	eachCircle(func(n int) {
		for _, wrong := range append(hugeNumbers(), -n, -1, n+1, 2*n) {
			equal(t, "SpreadOf, k wrong", impl.SpreadOf(n, wrong, 0), -1)
			equal(t, "SpreadOf, m wrong", impl.SpreadOf(n, 1, wrong), -1)
			equal(t, "SpreadOf, both wrong", impl.SpreadOf(n, wrong, wrong), -1)
		}
		equal(t, "SpreadOf no tones", impl.SpreadOf(n, 0, 0), -1)
		equal(t, "SpreadOf from n", impl.SpreadOf(n, n, n), -1)
	})
}

func TestBeatsOfOtherNumbers(t *testing.T) {
	for _, n := range badCircles() {
		for _, k := range []int{-1, 0, 1, 2, 3, n} {
			same(t, "BeatsOf no circle", impl.BeatsOf(n, k), nil)
		}
	}
	eachCircle(func(n int) {
		for _, k := range append(hugeNumbers(), -n, -1, 0, n+1, 2*n) {
			same(t, "BeatsOf, k wrong", impl.BeatsOf(n, k), nil)
		}
	})
}

func TestScalesOfNoTones(t *testing.T) {
	eachCircle(func(n int) {
		equal(t, "IsEven", impl.IsEven(n, 0), false)
		equal(t, "IsDouble", impl.IsDouble(n, 0), false)
		same(t, "RowsOf", impl.RowsOf(n, 0), nil)
		same(t, "SizesOf", impl.SizesOf(n, 0, 1), nil)
		// A circle of 3 has one distance only, and so no two numbers that are the same.
		equal(t, "IsDeep", impl.IsDeep(n, 0), n == 3)
	})
}

func TestScalesOfOneTone(t *testing.T) {
	eachCircle(func(n int) {
		var all []int
		for g := 1; g < n; g++ {
			all = append(all, g)
		}
		for x := range n {
			set := setWith(x)
			equal(t, "IsEven", impl.IsEven(n, set), true)
			equal(t, "IsDouble", impl.IsDouble(n, set), false)
			same(t, "RowsOf", impl.RowsOf(n, set), all)
			same(t, "SizesOf", impl.SizesOf(n, set, 1), nil)
		}
	})
}

func TestScalesOfAllTones(t *testing.T) {
	eachCircle(func(n int) {
		equal(t, "IsEven", impl.IsEven(n, allOf(n)), true)
		equal(t, "IsDouble", impl.IsDouble(n, allOf(n)), false)
		for steps := 1; steps < n; steps++ {
			same(t, "SizesOf", impl.SizesOf(n, allOf(n), steps), []int{steps})
		}
		same(t, "SizesOf once round", impl.SizesOf(n, allOf(n), n), nil)
	})
}
