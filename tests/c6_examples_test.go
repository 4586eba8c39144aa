package tests

import (
	"testing"

	"loop.example/tonesincircles/impl"
)

// threesSteps and fivesSteps are how many steps of an octave of 1 to 12 are nearest to 3 and to 5.
var (
	threesSteps = []int{2, 3, 5, 6, 8, 10, 11, 13, 14, 16, 17, 19}
	fivesSteps  = []int{2, 5, 7, 9, 12, 14, 16, 19, 21, 23, 26, 28}
)

// hasRatio checks the ratio of powers.
func hasRatio(t *testing.T, what string, e []int, up, down int) {
	t.Helper()
	gotUp, gotDown := impl.RatioOf(e)
	equal(t, "upper number of "+what, gotUp, up)
	equal(t, "lower number of "+what, gotDown, down)
}

// hasPowers checks the powers of a ratio, and that it has some.
func hasPowers(t *testing.T, what string, up, down int, want ...int) {
	t.Helper()
	got, found := impl.PowersOf(up, down)
	same(t, "powers of "+what, got, want)
	equal(t, "whether there are powers of "+what, found, true)
}

// hasNoPowers checks that a ratio has no powers.
func hasNoPowers(t *testing.T, what string, up, down int) {
	t.Helper()
	if got, found := impl.PowersOf(up, down); len(got) != 0 || found {
		t.Errorf("%s: PowersOf(%d, %d) = %v, %t", what, up, down, got, found)
	}
}

// hasOctave checks the powers of a ratio within an octave.
func hasOctave(t *testing.T, what string, e []int, want ...int) {
	t.Helper()
	got, found := impl.IntoOctave(e)
	same(t, what+" within an octave", got, want)
	equal(t, "whether there is an octave for "+what, found, true)
}

// hasNoOctave checks that a ratio is not told within an octave.
func hasNoOctave(t *testing.T, what string, e []int) {
	t.Helper()
	if got, found := impl.IntoOctave(e); len(got) != 0 || found {
		t.Errorf("%s: IntoOctave(%v) = %v, %t", what, e, got, found)
	}
}

// hasSteps checks how many steps of an octave of n a ratio has.
func hasSteps(t *testing.T, what string, n int, e []int, want int) {
	t.Helper()
	got, found := impl.StepsBy(n, e)
	equal(t, "steps by "+what, got, want)
	equal(t, "whether there are steps by "+what, found, true)
}

// sameLists reports two lists of lists that are not the same.
func sameLists(t *testing.T, what string, got, want [][]int) {
	t.Helper()
	if len(got) != len(want) {
		t.Errorf("%s = %v, want %v", what, got, want)
		return
	}
	for i := range want {
		same(t, what, got[i], want[i])
	}
}

func TestRatioOfExamples(t *testing.T) {
	hasRatio(t, "1", []int{0, 0, 0}, 1, 1)
	hasRatio(t, "the octave", []int{1, 0, 0}, 2, 1)
	hasRatio(t, "the octave down", []int{-1, 0, 0}, 1, 2)
	hasRatio(t, "the fifth", []int{-1, 1, 0}, 3, 2)
	hasRatio(t, "the fourth", []int{2, -1, 0}, 4, 3)
	hasRatio(t, "the third", []int{-2, 0, 1}, 5, 4)
	hasRatio(t, "the low third", []int{1, 1, -1}, 6, 5)
	hasRatio(t, "the comma", []int{-4, 4, -1}, 81, 80)
	hasRatio(t, "three thirds and an octave", []int{7, 0, -3}, 128, 125)
	hasRatio(t, "twelve fifths", []int{-19, 12, 0}, 531441, 524288)
}

func TestRatioOfPowersAtTheirLimits(t *testing.T) {
	const two, three, five = 16777216, 531441, 15625
	hasRatio(t, "2 at its limit", []int{impl.MaxTwos, 0, 0}, two, 1)
	hasRatio(t, "2 at its lower limit", []int{-impl.MaxTwos, 0, 0}, 1, two)
	hasRatio(t, "3 at its limit", []int{0, impl.MaxThrees, 0}, three, 1)
	hasRatio(t, "3 at its lower limit", []int{0, -impl.MaxThrees, 0}, 1, three)
	hasRatio(t, "5 at its limit", []int{0, 0, impl.MaxFives}, five, 1)
	hasRatio(t, "5 at its lower limit", []int{0, 0, -impl.MaxFives}, 1, five)
	hasRatio(t, "all at their limits", []int{24, 12, 6}, two*three*five, 1)
	hasRatio(t, "all at their lower limits", []int{-24, -12, -6}, 1, two*three*five)
	hasRatio(t, "2 at its limit and others below", []int{24, -12, -6}, two, three*five)
	hasRatio(t, "2 at its lower limit and others above", []int{-24, 12, 6}, three*five, two)
}

func TestPowersOfExamples(t *testing.T) {
	hasPowers(t, "1", 1, 1, 0, 0, 0)
	hasPowers(t, "1 of other primes", 77, 77, 0, 0, 0)
	hasPowers(t, "1 of the greatest numbers", impl.MaxRatio, impl.MaxRatio, 0, 0, 0)
	hasPowers(t, "the fifth", 3, 2, -1, 1, 0)
	hasPowers(t, "the fifth of other primes", 21, 14, -1, 1, 0)
	hasPowers(t, "the comma", 81, 80, -4, 4, -1)
	hasPowers(t, "the comma twice told", 162, 160, -4, 4, -1)
	hasPowers(t, "twelve fifths", 531441, 524288, -19, 12, 0)
	hasPowers(t, "the greatest number", impl.MaxRatio, 1, 6, 0, 6)
	hasPowers(t, "the greatest number below", 1, impl.MaxRatio, -6, 0, -6)
	hasNoPowers(t, "a prime above", 7, 4)
	hasNoPowers(t, "a prime below", 4, 7)
	hasNoPowers(t, "two primes", 7, 11)
	hasNoPowers(t, "more of a prime above", 49, 7)
	hasNoPowers(t, "more of a prime below", 14, 98)
	hasNoPowers(t, "a great prime", 999983, 1)
	hasNoPowers(t, "one less than the greatest number", impl.MaxRatio-1, 1)
}

// TestPowersOfTooManyFives looks at numbers that are not too great, but have 5 more often
// than the powers of a ratio may.
func TestPowersOfTooManyFives(t *testing.T) {
	hasPowers(t, "5 at its limit", 15625, 1, 0, 0, 6)
	hasPowers(t, "5 at its lower limit", 1, 15625, 0, 0, -6)
	hasNoPowers(t, "5 seven times", 78125, 1)
	hasNoPowers(t, "5 seven times below", 1, 78125)
	hasNoPowers(t, "5 seven times and others", 78125*12, 7)
	hasNoPowers(t, "5 eight times", 390625, 1)
	hasNoPowers(t, "5 eight times below", 1024, 390625)
	hasPowers(t, "5 seven times, but once in both", 78125, 5, 0, 0, 6)
	hasPowers(t, "5 eight times, but twice in both", 50, 390625, 1, 0, -6)
	hasNoPowers(t, "5 eight times, but once in both", 390625, 5)
}

func TestIntoOctaveExamples(t *testing.T) {
	hasOctave(t, "1", []int{0, 0, 0}, 0, 0, 0)
	hasOctave(t, "the octave", []int{1, 0, 0}, 0, 0, 0)
	hasOctave(t, "2 at its limit", []int{impl.MaxTwos, 0, 0}, 0, 0, 0)
	hasOctave(t, "2 at its lower limit", []int{-impl.MaxTwos, 0, 0}, 0, 0, 0)
	hasOctave(t, "the fifth", []int{-1, 1, 0}, -1, 1, 0)
	hasOctave(t, "3", []int{0, 1, 0}, -1, 1, 0)
	hasOctave(t, "3 below", []int{0, -1, 0}, 2, -1, 0)
	hasOctave(t, "5", []int{0, 0, 1}, -2, 0, 1)
	hasOctave(t, "5 below", []int{0, 0, -1}, 3, 0, -1)
	hasOctave(t, "the tone", []int{5, 2, 0}, -3, 2, 0)
	hasOctave(t, "the comma", []int{24, 4, -1}, -4, 4, -1)
	hasOctave(t, "the comma upside down", []int{-24, -4, 1}, 5, -4, 1)
	hasOctave(t, "3 at its limit", []int{0, 12, 0}, -19, 12, 0)
	hasOctave(t, "3 at its lower limit", []int{0, -12, 0}, 20, -12, 0)
}

// TestIntoOctaveAtTheLimitsOfTwo looks at ratios whose power of 2 within an octave is at its
// limit, and one beyond it.
func TestIntoOctaveAtTheLimitsOfTwo(t *testing.T) {
	hasOctave(t, "at the lower limit of 2", []int{0, 11, 3}, -24, 11, 3)
	hasOctave(t, "at the lower limit of 2, told so", []int{-24, 11, 3}, -24, 11, 3)
	hasOctave(t, "at the limit of 2", []int{0, -10, -3}, 23, -10, -3)
	hasOctave(t, "at the limit of 2, told so", []int{-24, -6, -6}, 24, -6, -6)
	hasNoOctave(t, "one beyond the lower limit of 2", []int{0, 10, 4})
	hasNoOctave(t, "one beyond the lower limit of 2, with all powers of 2", []int{-24, 10, 4})
	hasNoOctave(t, "one beyond the limit of 2", []int{24, -11, -3})
	hasNoOctave(t, "all at their limits", []int{24, 12, 6})
	hasNoOctave(t, "all at their lower limits", []int{-24, -12, -6})
	hasNoOctave(t, "far beyond the limit of 2", []int{24, -12, -6})
}

func TestStepsForExamples(t *testing.T) {
	for i := range impl.MaxTones {
		equal(t, "steps for 3", impl.StepsFor(i+1, 3), threesSteps[i])
		equal(t, "steps for 5", impl.StepsFor(i+1, 5), fivesSteps[i])
	}
}

func TestStepsByExamples(t *testing.T) {
	hasSteps(t, "1", 12, []int{0, 0, 0}, 0)
	hasSteps(t, "the octave", 12, []int{1, 0, 0}, 12)
	hasSteps(t, "the octave of 7", 7, []int{1, 0, 0}, 7)
	hasSteps(t, "the fifth", 12, []int{-1, 1, 0}, 7)
	hasSteps(t, "the fifth down", 12, []int{1, -1, 0}, -7)
	hasSteps(t, "the third", 12, []int{-2, 0, 1}, 4)
	hasSteps(t, "the comma", 12, []int{-4, 4, -1}, 0)
	hasSteps(t, "the comma of 5", 5, []int{-4, 4, -1}, 0)
	hasSteps(t, "the comma of 8", 8, []int{-4, 4, -1}, 1)
	hasSteps(t, "twelve fifths of 11", 11, []int{-19, 12, 0}, -5)
	hasSteps(t, "all at their limits", 12, []int{24, 12, 6}, 24*12+12*19+6*28)
	hasSteps(t, "all at their lower limits", 12, []int{-24, -12, -6}, -24*12-12*19-6*28)
	hasSteps(t, "all at their limits of one tone", 1, []int{24, 12, 6}, 24+12*2+6*2)
}

func TestLeftOfExamples(t *testing.T) {
	for i, want := range [][2]int{
		{4, 3}, {9, 8}, {32, 27}, {81, 64}, {256, 243}, {1024, 729}, {2187, 2048}, {8192, 6561},
		{19683, 16384}, {65536, 59049}, {177147, 131072}, {531441, 524288},
	} {
		greater, lesser := impl.LeftOf(i + 1)
		equal(t, "greater number that is left", greater, want[0])
		equal(t, "lesser number that is left", lesser, want[1])
	}
}

func TestBestTonesExamples(t *testing.T) {
	for n := 1; n <= impl.MaxTones; n++ {
		want := []int{1, 2, 5, 12}
		for want[len(want)-1] > n {
			want = want[:len(want)-1]
		}
		same(t, "BestTones", impl.BestTones(n), want)
	}
}

func TestFifthsOfExamples(t *testing.T) {
	sameLists(t, "one tone", impl.FifthsOf(1), [][]int{{0, 0, 0}})
	sameLists(t, "two tones", impl.FifthsOf(2), [][]int{{0, 0, 0}, {-1, 1, 0}})
	sameLists(t, "three tones", impl.FifthsOf(3), [][]int{{0, 0, 0}, {-3, 2, 0}, {-1, 1, 0}})
	sameLists(t, "seven tones", impl.FifthsOf(7), [][]int{
		{0, 0, 0}, {-3, 2, 0}, {-6, 4, 0}, {-9, 6, 0}, {-1, 1, 0}, {-4, 3, 0}, {-7, 5, 0},
	})
	sameLists(t, "twelve tones", impl.FifthsOf(12), [][]int{
		{0, 0, 0}, {-11, 7, 0}, {-3, 2, 0}, {-14, 9, 0}, {-6, 4, 0}, {-17, 11, 0},
		{-9, 6, 0}, {-1, 1, 0}, {-12, 8, 0}, {-4, 3, 0}, {-15, 10, 0}, {-7, 5, 0},
	})
}

func TestGapsBetweenExamples(t *testing.T) {
	tone, lowTone, half, lowHalf := []int{-3, 2, 0}, []int{5, -3, 0}, []int{8, -5, 0}, []int{-11, 7, 0}
	fifth, fourth := []int{-1, 1, 0}, []int{2, -1, 0}
	sameLists(t, "one tone", impl.GapsBetween(1), [][]int{{1, 0, 0}})
	sameLists(t, "two tones", impl.GapsBetween(2), [][]int{fifth, fourth})
	sameLists(t, "three tones", impl.GapsBetween(3), [][]int{tone, fourth})
	sameLists(t, "four tones", impl.GapsBetween(4), [][]int{tone, fourth, lowTone})
	sameLists(t, "five tones", impl.GapsBetween(5), [][]int{tone, lowTone})
	sameLists(t, "six tones", impl.GapsBetween(6), [][]int{tone, lowTone, half})
	sameLists(t, "seven tones", impl.GapsBetween(7), [][]int{tone, half})
	sameLists(t, "eight tones", impl.GapsBetween(8), [][]int{lowHalf, half, tone})
	sameLists(t, "twelve tones", impl.GapsBetween(12), [][]int{lowHalf, half})
}
