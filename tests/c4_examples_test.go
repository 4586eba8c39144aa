package tests

import (
	"testing"

	"loop.example/tonesincircles/impl"
)

// goesTo checks how far voices go, and where each one of them goes.
func goesTo(t *testing.T, what string, n, a, b, far int, goals ...int) {
	t.Helper()
	got, tones := impl.FarOf(n, a, b)
	equal(t, "how far "+what, got, far)
	same(t, "goals "+what, tones, goals)
}

// isSmooth checks the nearest shift of a set, and how far it is.
func isSmooth(t *testing.T, what string, n, set, by, far int) {
	t.Helper()
	gotBy, gotFar := impl.SmoothOf(n, set)
	equal(t, "shift "+what, gotBy, by)
	equal(t, "how far the shift "+what, gotFar, far)
}

// allButOne returns the set of all tones of a circle of n but one.
func allButOne(n, missing int) int {
	return allOf(n) - setWith(missing)
}

func TestFarOfExamples(t *testing.T) {
	goesTo(t, "in order", 12, setWith(0, 4, 7), setWith(0, 5, 9), 3, 0, 5, 9)
	goesTo(t, "of two tones that stay", 12, setWith(0, 4, 7), setWith(0, 4, 9), 2, 0, 4, 9)
	goesTo(t, "half a circle", 8, setWith(1), setWith(5), 4, 5)
	goesTo(t, "in a circle of 3", 3, setWith(0, 1), setWith(0, 2), 1, 0, 2)
	goesTo(t, "to a shift by 1", 12, major, shifted(12, major, 1), 5, 0, 1, 3, 5, 6, 8, 10)
}

func TestVoicesThatTurnRound(t *testing.T) {
	goesTo(t, "by two places", 12, setWith(0, 4, 7), setWith(2, 7, 11), 3, 11, 2, 7)
	goesTo(t, "past 0 upwards", 12, setWith(3, 11), setWith(0, 3), 1, 3, 0)
	goesTo(t, "past 0 downwards", 12, setWith(0, 3), setWith(3, 11), 1, 11, 3)
	goesTo(t, "two past 0", 12, setWith(4, 10, 11), setWith(0, 1, 4), 4, 4, 0, 1)
	goesTo(t, "of one tone", 12, setWith(11), setWith(0), 1, 0)
	equal(t, "steps past 0", impl.StepsTo(12, setWith(4, 10, 11), setWith(0, 1, 4)), 4)
	// One voice goes up and one down, to the other side of the circle.
	same(t, "path past 0", impl.PathTo(5, setWith(0, 1), setWith(3, 4)), []int{
		setWith(0, 1), setWith(0, 2), setWith(0, 3), setWith(3, 4),
	})
}

// TestEqualPairings looks at sets that several pairings bring as near: the least place counts.
func TestEqualPairings(t *testing.T) {
	goesTo(t, "of two as near", 12, setWith(0, 6), setWith(3, 9), 6, 3, 9)
	goesTo(t, "of two as near round the circle", 4, setWith(1, 3), setWith(0, 2), 2, 0, 2)
	goesTo(t, "of the first and third place", 12, setWith(0, 1, 6), setWith(0, 6, 7), 6, 0, 6, 7)
	goesTo(t, "of the second and third place", 8, setWith(0, 1, 2), setWith(1, 6, 7), 5, 6, 7, 1)
}

func TestNearOfExamples(t *testing.T) {
	same(t, "two tones side by side", impl.NearOf(5, setWith(0, 1)), []int{setWith(0, 2), setWith(1, 4)})
	same(t, "one tone", impl.NearOf(4, 1), []int{2, 8})
	same(t, "the highest tone", impl.NearOf(12, setWith(11)), []int{setWith(0), setWith(10)})
	same(t, "a triad", impl.NearOf(12, setWith(0, 4, 7)), []int{
		setWith(0, 4, 6), setWith(0, 3, 7), setWith(1, 4, 7), setWith(0, 5, 7), setWith(0, 4, 8), setWith(4, 7, 11),
	})
	same(t, "every other tone", impl.NearOf(4, setWith(0, 2)), []int{
		setWith(0, 1), setWith(1, 2), setWith(0, 3), setWith(2, 3),
	})
}

func TestStepsToExamples(t *testing.T) {
	equal(t, "triads", impl.StepsTo(12, setWith(0, 4, 7), setWith(2, 7, 11)), 3)
	equal(t, "half a circle", impl.StepsTo(12, setWith(0), setWith(6)), 6)
	equal(t, "all half a circle", impl.StepsTo(12, setWith(0, 1, 2, 3, 4, 5), setWith(6, 7, 8, 9, 10, 11)), 18)
	equal(t, "major", impl.StepsTo(12, major, shifted(12, major, 7)), 1)
}

func TestPathToExamples(t *testing.T) {
	same(t, "round the circle", impl.PathTo(6, setWith(0, 2), setWith(1, 4)), []int{
		setWith(0, 2), setWith(0, 1), setWith(1, 5), setWith(1, 4),
	})
	// Both ways round are as long: the lesser set is 1 below.
	same(t, "half a circle", impl.PathTo(4, setWith(1), setWith(3)), []int{2, 1, 8})
	same(t, "half a circle from 0", impl.PathTo(6, setWith(0), setWith(3)), []int{1, 2, 4, 8})
	// The second voice goes first: the set is the lesser one.
	same(t, "the lesser set first", impl.PathTo(12, setWith(0, 6), setWith(1, 5)), []int{
		setWith(0, 6), setWith(0, 5), setWith(1, 5),
	})
	same(t, "one step", impl.PathTo(12, setWith(0, 4, 7), setWith(0, 3, 7)), []int{145, 137})
}

func TestSmoothOfExamples(t *testing.T) {
	isSmooth(t, "that leaves the set", 12, setWith(0, 4, 8), 4, 0)
	isSmooth(t, "that leaves every other tone", 12, wholeTones, 2, 0)
	isSmooth(t, "of a triad", 12, setWith(0, 4, 7), 4, 2)
	isSmooth(t, "of major", 12, major, 5, 1)
	isSmooth(t, "of two tones", 12, setWith(0, 1), 1, 2)
	isSmooth(t, "of half a circle", 8, setWith(3, 7), 4, 0)
}

func TestVoicesOfAllTonesButOne(t *testing.T) {
	eachCircle(func(n int) {
		for from := range n {
			set := allButOne(n, from)
			near := []int{allButOne(n, round(n, from+1)), allButOne(n, round(n, from-1))}
			same(t, "NearOf all but one", impl.NearOf(n, set), []int{min(near[0], near[1]), max(near[0], near[1])})
			isSmooth(t, "of all but one", n, set, 1, 1)
			for to := range n {
				// The place that is free goes the shorter way, and each voice on it by 1.
				want := stepsApart(n, from, to)
				far, _ := impl.FarOf(n, set, allButOne(n, to))
				equal(t, "FarOf all but one", far, want)
				equal(t, "StepsTo all but one", impl.StepsTo(n, set, allButOne(n, to)), want)
				equal(t, "PathTo all but one", len(impl.PathTo(n, set, allButOne(n, to))), want+1)
			}
		}
	})
	goesTo(t, "of all but one", 4, setWith(0, 1, 2), setWith(1, 2, 3), 1, 3, 1, 2)
	same(t, "path of all but one", impl.PathTo(5, allButOne(5, 0), allButOne(5, 3)), []int{
		allButOne(5, 0), allButOne(5, 4), allButOne(5, 3),
	})
}

func TestVoicesOfEqualSets(t *testing.T) {
	eachSet(t, func(n, set int) {
		if set == 0 {
			return
		}
		goesTo(t, "of equal sets", n, set, set, 0, tonesIn(set)...)
		equal(t, "StepsTo of equal sets", impl.StepsTo(n, set, set), 0)
		same(t, "PathTo of equal sets", impl.PathTo(n, set, set), []int{set})
	})
}

func TestVoicesOfOneTone(t *testing.T) {
	eachCircle(func(n int) {
		for x := range n {
			up, down := setWith(round(n, x+1)), setWith(round(n, x-1))
			same(t, "NearOf one tone", impl.NearOf(n, setWith(x)), []int{min(up, down), max(up, down)})
			isSmooth(t, "of one tone", n, setWith(x), 1, 1)
			for y := range n {
				far := stepsApart(n, x, y)
				goesTo(t, "of one tone", n, setWith(x), setWith(y), far, y)
				equal(t, "StepsTo of one tone", impl.StepsTo(n, setWith(x), setWith(y)), far)
				equal(t, "PathTo of one tone", len(impl.PathTo(n, setWith(x), setWith(y))), far+1)
			}
		}
	})
}

func TestVoicesOfAllTones(t *testing.T) {
	eachCircle(func(n int) {
		all := allOf(n)
		goesTo(t, "of all tones", n, all, all, 0, tonesIn(all)...)
		same(t, "NearOf all tones", impl.NearOf(n, all), nil)
		equal(t, "StepsTo of all tones", impl.StepsTo(n, all, all), 0)
		same(t, "PathTo of all tones", impl.PathTo(n, all, all), []int{all})
		isSmooth(t, "of all tones", n, all, 1, 0)
	})
}
