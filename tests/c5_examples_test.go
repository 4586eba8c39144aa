package tests

import (
	"testing"

	"loop.example/tonesincircles/impl"
)

// hasSums checks the sums of tones of two sets, and whether they are different, both ways.
func hasSums(t *testing.T, what string, n, a, b, sums int, different bool) {
	t.Helper()
	for _, pair := range [][2]int{{a, b}, {b, a}} {
		got, gotDifferent := impl.SumsOf(n, pair[0], pair[1])
		equal(t, "sums "+what, got, sums)
		equal(t, "whether sums are different "+what, gotDifferent, different)
	}
}

func TestPeriodOfExamples(t *testing.T) {
	equal(t, "a third of the circle", impl.PeriodOf(12, setWith(0, 4, 8)), 4)
	equal(t, "a third of the circle, shifted", impl.PeriodOf(12, setWith(1, 5, 9)), 4)
	equal(t, "half a circle apart", impl.PeriodOf(12, setWith(5, 11)), 6)
	equal(t, "every other tone", impl.PeriodOf(12, wholeTones), 2)
	equal(t, "two tones in each half", impl.PeriodOf(8, setWith(0, 1, 4, 5)), 4)
	equal(t, "three tones in each half", impl.PeriodOf(12, setWith(0, 1, 3, 6, 7, 9)), 6)
	equal(t, "two tones in each third", impl.PeriodOf(9, setWith(0, 1, 3, 4, 6, 7)), 3)
	equal(t, "major", impl.PeriodOf(12, major), 12)
	// A turn leaves the set, but no shift does.
	equal(t, "left by a turn", impl.PeriodOf(6, setWith(0, 1)), 6)
}

func TestIsOddExamples(t *testing.T) {
	equal(t, "half a circle apart", impl.IsOdd(8, setWith(0, 4)), false)
	equal(t, "half a circle apart from others", impl.IsOdd(8, setWith(1, 2, 6)), false)
	equal(t, "round the circle", impl.IsOdd(8, setWith(7, 3)), false)
	equal(t, "no halves", impl.IsOdd(8, setWith(0, 3, 6)), true)
	equal(t, "five of 12", impl.IsOdd(12, setWith(0, 3, 5, 8, 10)), true)
	equal(t, "one of each half", impl.IsOdd(4, setWith(1, 2)), true)
	equal(t, "too many", impl.IsOdd(12, major), false)
	// In an uneven circle nothing is half a circle apart, but it has no odd rhythms.
	equal(t, "uneven circle", impl.IsOdd(9, setWith(0, 4)), false)
}

func TestSumsOfExamples(t *testing.T) {
	hasSums(t, "of all tones", 8, setWith(0, 1), setWith(0, 2, 4, 6), allOf(8), true)
	hasSums(t, "of one tone twice", 8, setWith(0, 1), setWith(0, 1), setWith(0, 1, 2), false)
	hasSums(t, "that are all tones, some twice", 5, setWith(0, 1, 2), setWith(0, 2), allOf(5), false)
	hasSums(t, "round the circle", 12, setWith(7, 11), setWith(6, 8), setWith(1, 3, 5, 7), true)
	hasSums(t, "that meet half a circle away", 12, setWith(0, 6), setWith(1, 7), setWith(1, 7), false)
	hasSums(t, "of a shift", 12, major, setWith(2), shifted(12, major, 2), true)
}

func TestTilesOfExamples(t *testing.T) {
	same(t, "two side by side", impl.TilesOf(4, setWith(0, 1)), []int{setWith(0, 2)})
	same(t, "half a circle apart", impl.TilesOf(4, setWith(0, 2)), []int{setWith(0, 1), setWith(0, 3)})
	same(t, "without the tone 0", impl.TilesOf(4, setWith(1, 3)), []int{setWith(0, 1), setWith(0, 3)})
	same(t, "every other tone", impl.TilesOf(6, setWith(1, 3, 5)), []int{setWith(0, 1), setWith(0, 3), setWith(0, 5)})
	// The set of 0, 1 and 5 has a low tone, but a greater number than that of 0, 2 and 4.
	same(t, "the lesser number first", impl.TilesOf(6, setWith(0, 3)), []int{
		setWith(0, 1, 2), setWith(0, 2, 4), setWith(0, 1, 5), setWith(0, 4, 5),
	})
	same(t, "two in each half", impl.TilesOf(8, setWith(0, 1, 4, 5)), []int{setWith(0, 2), setWith(0, 6)})
	// Beside 0 there is one each of 1, 5 and 9, of 2, 6 and 10, and of 3, 7 and 11.
	equal(t, "of a third", len(impl.TilesOf(12, setWith(2, 6, 10))), 27)
	same(t, "as many as divide the circle, but none", impl.TilesOf(6, setWith(0, 1, 3)), nil)
	same(t, "as many as do not divide the circle", impl.TilesOf(12, major), nil)
}

func TestFactorsOfExamples(t *testing.T) {
	same(t, "three side by side", impl.FactorsOf(12, setWith(0, 1, 2)), []int{3})
	same(t, "two side by side", impl.FactorsOf(12, setWith(0, 1)), []int{2})
	same(t, "half a circle apart", impl.FactorsOf(12, setWith(0, 6)), []int{4})
	same(t, "half a circle of 8 apart", impl.FactorsOf(8, setWith(0, 4)), []int{8})
	same(t, "two in each half", impl.FactorsOf(8, setWith(0, 1, 4, 5)), []int{2, 8})
	same(t, "a third of the circle", impl.FactorsOf(12, setWith(0, 4, 8)), []int{3})
	same(t, "a fourth of the circle", impl.FactorsOf(12, setWith(1, 4, 7, 10)), []int{2, 4})
	same(t, "a third of a circle of 9", impl.FactorsOf(9, setWith(0, 3, 6)), []int{9})
	same(t, "every other tone", impl.FactorsOf(12, wholeTones), []int{3, 4})
	// 6 and 12 divide the circle, but are no powers of a prime.
	same(t, "half a circle side by side", impl.FactorsOf(12, setWith(0, 1, 2, 3, 4, 5)), []int{2, 3})
	same(t, "no tile", impl.FactorsOf(12, setWith(0, 1, 3)), nil)
	same(t, "major", impl.FactorsOf(12, major), nil)
}

func TestIsLooseExamples(t *testing.T) {
	equal(t, "half a circle apart", impl.IsLoose(12, setWith(0, 6)), true)
	equal(t, "every other tone", impl.IsLoose(12, wholeTones), true)
	equal(t, "three in each half", impl.IsLoose(12, setWith(0, 1, 3, 6, 7, 9)), true)
	equal(t, "side by side", impl.IsLoose(12, setWith(0, 1)), false)
	equal(t, "every other tone but one", impl.IsLoose(12, setWith(0, 2, 4, 6, 8)), false)
	equal(t, "major", impl.IsLoose(12, major), false)
}

func TestCanonOfExamples(t *testing.T) {
	same(t, "two voices that meet", impl.CanonOf(4, setWith(0, 1), setWith(0, 1)), []int{1, 2, 1, 0})
	same(t, "all beats", impl.CanonOf(4, setWith(0, 1), setWith(0, 2)), []int{1, 1, 1, 1})
	same(t, "round the circle", impl.CanonOf(5, setWith(3, 4), setWith(1, 4)), []int{1, 0, 1, 1, 1})
	same(t, "voices that meet twice", impl.CanonOf(6, setWith(0, 3), setWith(1, 4)), []int{0, 2, 0, 0, 2, 0})
	same(t, "all but one", impl.CanonOf(12, allButOne(12, 11), setWith(0, 6)), []int{
		2, 2, 2, 2, 2, 1, 2, 2, 2, 2, 2, 1,
	})
}

func TestRhythmsOfOneTone(t *testing.T) {
	eachCircle(func(n int) {
		for x := range n {
			set := setWith(x)
			equal(t, "PeriodOf one tone", impl.PeriodOf(n, set), n)
			equal(t, "IsLoose one tone", impl.IsLoose(n, set), false)
			equal(t, "IsOdd one tone", impl.IsOdd(n, set), n%2 == 0)
			same(t, "TilesOf one tone", impl.TilesOf(n, set), []int{allOf(n)})
			same(t, "FactorsOf one tone", impl.FactorsOf(n, set), nil)
			for y := range n {
				sum := round(n, x+y)
				hasSums(t, "of one tone and another one", n, set, setWith(y), setWith(sum), true)
				canon := make([]int, n)
				canon[sum] = 1
				same(t, "CanonOf one tone and another one", impl.CanonOf(n, set, setWith(y)), canon)
			}
		}
	})
}

func TestRhythmsOfAllTones(t *testing.T) {
	eachCircle(func(n int) {
		all := allOf(n)
		equal(t, "PeriodOf all tones", impl.PeriodOf(n, all), 1)
		equal(t, "IsLoose all tones", impl.IsLoose(n, all), true)
		equal(t, "IsOdd all tones", impl.IsOdd(n, all), false)
		same(t, "TilesOf all tones", impl.TilesOf(n, all), []int{1})
		same(t, "FactorsOf all tones", impl.FactorsOf(n, all), primePowers(n))
		for set := 1; set <= all; set++ {
			count := len(tonesIn(set))
			hasSums(t, "of all tones and others", n, all, set, all, count == 1)
			canon := impl.CanonOf(n, all, set)
			for _, voices := range canon {
				equal(t, "voices of all tones", voices, count)
			}
			equal(t, "times of all tones", len(canon), n)
		}
	})
}

func TestRhythmsOfNoTones(t *testing.T) {
	eachCircle(func(n int) {
		equal(t, "PeriodOf no tones", impl.PeriodOf(n, 0), 1)
		equal(t, "IsLoose no tones", impl.IsLoose(n, 0), true)
		equal(t, "IsOdd no tones", impl.IsOdd(n, 0), n%2 == 0)
		same(t, "TilesOf no tones", impl.TilesOf(n, 0), nil)
		same(t, "FactorsOf no tones", impl.FactorsOf(n, 0), primePowers(n))
		for set := range allOf(n) + 1 {
			// There are no sums, so none that are the same.
			hasSums(t, "of no tones", n, 0, set, 0, true)
			same(t, "CanonOf no tones", impl.CanonOf(n, 0, set), make([]int, n))
			same(t, "CanonOf no voices", impl.CanonOf(n, set, 0), make([]int, n))
		}
	})
}

// TestCirclesOfPrimeNumbers looks at circles of which only one tone and all tones are parts.
func TestCirclesOfPrimeNumbers(t *testing.T) {
	for _, n := range []int{3, 5, 7, 11} {
		for set := 1; set < allOf(n); set++ {
			equal(t, "PeriodOf in a prime circle", impl.PeriodOf(n, set), n)
			equal(t, "IsLoose in a prime circle", impl.IsLoose(n, set), false)
			equal(t, "IsOdd in a prime circle", impl.IsOdd(n, set), false)
			same(t, "FactorsOf in a prime circle", impl.FactorsOf(n, set), nil)
			var tiles []int
			if len(tonesIn(set)) == 1 {
				tiles = []int{allOf(n)}
			}
			same(t, "TilesOf in a prime circle", impl.TilesOf(n, set), tiles)
		}
		same(t, "FactorsOf all of a prime circle", impl.FactorsOf(n, allOf(n)), []int{n})
	}
}

// TestHalvesSideBySide looks at the tones of half a circle, one next to the other.
func TestHalvesSideBySide(t *testing.T) {
	for n := 4; n <= 12; n += 2 {
		half := setWith(0, n/2)
		for x := range n {
			set := shifted(n, allOf(n/2), x)
			equal(t, "PeriodOf a half", impl.PeriodOf(n, set), n)
			equal(t, "IsLoose a half", impl.IsLoose(n, set), false)
			equal(t, "IsOdd a half", impl.IsOdd(n, set), true)
			same(t, "TilesOf a half", impl.TilesOf(n, set), []int{half})
			hasSums(t, "of a half and half a circle", n, set, half, allOf(n), true)
			// One more tone is half a circle from the first one.
			equal(t, "IsOdd more than a half", impl.IsOdd(n, shifted(n, allOf(n/2+1), x)), false)
		}
	}
}

// TestTonesHalfACircleApart looks at pairs of tones on the other sides of the circle.
func TestTonesHalfACircleApart(t *testing.T) {
	for n := 4; n <= 12; n += 2 {
		for x := range n / 2 {
			set := setWith(x, x+n/2)
			equal(t, "PeriodOf half a circle", impl.PeriodOf(n, set), n/2)
			equal(t, "IsLoose half a circle", impl.IsLoose(n, set), true)
			equal(t, "IsOdd half a circle", impl.IsOdd(n, set), false)
			hasSums(t, "that meet again", n, set, set, setWith(round(n, 2*x), round(n, 2*x+n/2)), false)
			var tiles []int
			for b := range allOf(n) + 1 {
				// One of each two tones half a circle apart, of the first two 0.
				if b%2 == 1 && len(tonesIn(b)) == n/2 && impl.IsOdd(n, b) {
					tiles = append(tiles, b)
				}
			}
			equal(t, "number of tiles of half a circle", len(tiles), 1<<(n/2-1))
			same(t, "TilesOf half a circle", impl.TilesOf(n, set), tiles)
		}
	}
}
