package tests

import (
	"testing"

	"loop.example/tonesincircles/impl"
)

// noVoices checks the fixed results for two numbers between which no voices go.
func noVoices(t *testing.T, what string, n, a, b int) {
	t.Helper()
	if far, goals := impl.FarOf(n, a, b); far != -1 || len(goals) != 0 {
		t.Errorf("%s: FarOf(%d, %d, %d) = %d, %v", what, n, a, b, far, goals)
	}
	if steps := impl.StepsTo(n, a, b); steps != -1 {
		t.Errorf("%s: StepsTo(%d, %d, %d) = %d", what, n, a, b, steps)
	}
	if path := impl.PathTo(n, a, b); len(path) != 0 {
		t.Errorf("%s: PathTo(%d, %d, %d) = %v", what, n, a, b, path)
	}
}

// noVoicesOf checks the fixed results for one number whose voices go nowhere.
func noVoicesOf(t *testing.T, what string, n, set int) {
	t.Helper()
	if near := impl.NearOf(n, set); len(near) != 0 {
		t.Errorf("%s: NearOf(%d, %d) = %v", what, n, set, near)
	}
	if by, far := impl.SmoothOf(n, set); by != -1 || far != -1 {
		t.Errorf("%s: SmoothOf(%d, %d) = %d, %d", what, n, set, by, far)
	}
}

func TestVoicesOfNumbersThatAreNoSet(t *testing.T) {
	for _, bad := range badSets() {
		n, set := bad[0], bad[1]
		noVoicesOf(t, "no set", n, set)
		for _, other := range append(hugeNumbers(), -1, 0, 1, 2, 3, set) {
			noVoices(t, "the first one no set", n, set, other)
			noVoices(t, "the second one no set", n, other, set)
		}
	}
}

func TestVoicesOfNoCircle(t *testing.T) {
	for _, n := range badCircles() {
		for _, set := range []int{-1, 0, 1, 2, 3, 7, 4095} {
			noVoicesOf(t, "no circle", n, set)
			for _, other := range []int{-1, 0, 1, 2, 3, 7, 4095} {
				noVoices(t, "no circle", n, set, other)
			}
		}
	}
}

// TestVoicesOfTonesTooHigh looks at numbers that have as many tones, one of them outside the circle.
func TestVoicesOfTonesTooHigh(t *testing.T) {
	eachCircle(func(n int) {
		outside := allOf(n) + 1
		noVoicesOf(t, "a tone outside", n, outside)
		noVoicesOf(t, "a tone outside and one inside", n, outside+1)
		noVoices(t, "both outside", n, outside, outside)
		for x := range n {
			noVoices(t, "the first one outside", n, outside, setWith(x))
			noVoices(t, "the second one outside", n, setWith(x), outside)
		}
	})
}

func TestVoicesOfNoTones(t *testing.T) {
	eachCircle(func(n int) {
		noVoicesOf(t, "no tones", n, 0)
		noVoices(t, "no tones", n, 0, 0)
		for set := 1; set <= allOf(n); set++ {
			noVoices(t, "the first one no tones", n, 0, set)
			noVoices(t, "the second one no tones", n, set, 0)
		}
	})
}

func TestVoicesOfDifferentNumbersOfTones(t *testing.T) {
	for n := 3; n <= 6; n++ {
		for a := range allOf(n) + 1 {
			for b := range allOf(n) + 1 {
				if len(tonesIn(a)) != len(tonesIn(b)) {
					noVoices(t, "different numbers of tones", n, a, b)
				}
			}
		}
	}
	eachCircle(func(n int) {
		noVoices(t, "one tone and all", n, 1, allOf(n))
		noVoices(t, "all tones and one", n, allOf(n), 1)
		noVoices(t, "all tones and all but one", n, allOf(n), allButOne(n, 0))
		noVoices(t, "all tones but one and all", n, allButOne(n, n-1), allOf(n))
	})
}
