package tests

import (
	"math"
	"math/big"
	"slices"
	"testing"

	"loop.example/tonesincircles/impl"
)

// The ratios here are fractions of numbers that may be as great as they like, so that they
// share no way of counting with the program.

// fraction returns the ratio of powers of 2, 3 and 5, multiplied one prime after the other.
func fraction(e []int) *big.Rat {
	out := big.NewRat(1, 1)
	for i, prime := range []int64{2, 3, 5} {
		for range max(e[i], -e[i]) {
			if e[i] > 0 {
				out.Mul(out, big.NewRat(prime, 1))
			} else {
				out.Mul(out, big.NewRat(1, prime))
			}
		}
	}
	return out
}

// raisedTo returns a number to a power.
func raisedTo(number, power int) *big.Int {
	return new(big.Int).Exp(big.NewInt(int64(number)), big.NewInt(int64(power)), nil)
}

// downward returns the powers of the ratio upside down.
func downward(e []int) []int {
	return []int{-e[0], -e[1], -e[2]}
}

// eachPowers calls a function for all powers of a ratio, until the test has failed.
func eachPowers(t *testing.T, do func(e []int)) {
	for twos := -24; twos <= 24; twos++ {
		for threes := -12; threes <= 12; threes++ {
			for fives := -6; fives <= 6 && !t.Failed(); fives++ {
				do([]int{twos, threes, fives})
			}
		}
	}
}

// toldPowers returns the powers of each ratio whose numbers are not too great.
func toldPowers(t *testing.T) map[[2]int][]int {
	out := map[[2]int][]int{}
	eachPowers(t, func(e []int) {
		ratio := fraction(e)
		up, down := int(ratio.Num().Int64()), int(ratio.Denom().Int64())
		if up <= impl.MaxRatio && down <= impl.MaxRatio {
			out[[2]int{up, down}] = e
		}
	})
	return out
}

// common returns the greatest common divisor of two numbers.
func common(a, b int) int {
	for b != 0 {
		a, b = b, a%b
	}
	return a
}

// octaveTwos returns the power of 2 for which the ratio of powers of 3 and 5 is at least 1
// and less than 2.
func octaveTwos(threes, fives int) int {
	for twos := -40; ; twos++ {
		if fraction([]int{twos, threes, fives}).Cmp(big.NewRat(1, 1)) >= 0 {
			return twos
		}
	}
}

func TestPromise41RatiosAreThoseOfThePowers(t *testing.T) {
	eachPowers(t, func(e []int) {
		ratio := fraction(e)
		hasRatio(t, "powers", e, int(ratio.Num().Int64()), int(ratio.Denom().Int64()))
	})
}

func TestPromise41RatiosAreTurnedRound(t *testing.T) {
	eachPowers(t, func(e []int) {
		up, down := impl.RatioOf(e)
		hasRatio(t, "powers below 0", downward(e), down, up)
	})
}

func TestPromise41PowersOfTheRatioAreThePowers(t *testing.T) {
	eachPowers(t, func(e []int) {
		up, down := impl.RatioOf(e)
		if up <= impl.MaxRatio && down <= impl.MaxRatio {
			hasPowers(t, "a ratio", up, down, e...)
		} else {
			hasNoPowers(t, "a ratio too great", up, down)
		}
	})
}

// tellsPowers checks PowersOf two numbers by those of all ratios, and the ratio that they make.
func tellsPowers(t *testing.T, told map[[2]int][]int, up, down int) {
	t.Helper()
	divisor := common(up, down)
	want, found := told[[2]int{up / divisor, down / divisor}]
	if !found {
		hasNoPowers(t, "numbers of other primes", up, down)
		return
	}
	hasPowers(t, "numbers", up, down, want...)
	got, _ := impl.PowersOf(up, down)
	hasRatio(t, "powers that are told", got, up/divisor, down/divisor)
}

func TestPromise42PowersTellTheRatio(t *testing.T) {
	told := toldPowers(t)
	for up := 1; up <= 400 && !t.Failed(); up++ {
		for down := 1; down <= 400; down++ {
			tellsPowers(t, told, up, down)
		}
	}
	for number := 1; number <= impl.MaxRatio && !t.Failed(); number++ {
		tellsPowers(t, told, number, 1)
		tellsPowers(t, told, 360, number)
	}
}

func TestPromise42CommonFactorsAreNoMatter(t *testing.T) {
	told := toldPowers(t)
	for ratio := range told {
		for _, factor := range []int{2, 3, 5, 6, 7, 11, 25, 30, 49, 77, 625, 1001} {
			up, down := ratio[0]*factor, ratio[1]*factor
			if up <= impl.MaxRatio && down <= impl.MaxRatio {
				tellsPowers(t, told, up, down)
			}
			if up <= impl.MaxRatio {
				tellsPowers(t, told, up, ratio[1])
				tellsPowers(t, told, ratio[1], up)
			}
		}
	}
}

func TestPromise43OctavesAreToldOnce(t *testing.T) {
	for threes := -12; threes <= 12; threes++ {
		for fives := -6; fives <= 6; fives++ {
			want := octaveTwos(threes, fives)
			for twos := -24; twos <= 24; twos++ {
				e := []int{twos, threes, fives}
				if want < -24 || want > 24 {
					hasNoOctave(t, "too many octaves away", e)
				} else {
					hasOctave(t, "powers", e, want, threes, fives)
				}
			}
		}
	}
}

func TestPromise43RatiosOfAnOctaveAreTheirOwn(t *testing.T) {
	eachPowers(t, func(e []int) {
		octave, found := impl.IntoOctave(e)
		if !found {
			return
		}
		up, down := impl.RatioOf(octave)
		if up < down || up >= 2*down {
			t.Errorf("IntoOctave(%v) = %v, %d over %d", e, octave, up, down)
		}
		same(t, "powers of 3 and 5", octave[1:], e[1:])
		hasOctave(t, "what is within an octave", octave, octave...)
	})
}

func TestPromise44StepsAreNearest(t *testing.T) {
	for _, prime := range []int{3, 5} {
		fewer := 0
		for n := 1; n <= impl.MaxTones; n++ {
			k := impl.StepsFor(n, prime)
			twice := raisedTo(prime, 2*n)
			if raisedTo(2, 2*k+1).Cmp(twice) < 0 || raisedTo(2, 2*k-1).Cmp(twice) >= 0 {
				t.Errorf("StepsFor(%d, %d) = %d is not the nearest", n, prime, k)
			}
			equal(t, "StepsFor by logarithms", k, int(math.Round(float64(n)*math.Log2(float64(prime)))))
			if k < fewer {
				t.Errorf("StepsFor(%d, %d) = %d, of fewer tones %d", n, prime, k, fewer)
			}
			fewer = k
		}
	}
}

func TestPromise45StepsAddUp(t *testing.T) {
	for n := 1; n <= impl.MaxTones; n++ {
		hasSteps(t, "the octave", n, []int{1, 0, 0}, n)
		hasSteps(t, "3", n, []int{0, 1, 0}, impl.StepsFor(n, 3))
		hasSteps(t, "5", n, []int{0, 0, 1}, impl.StepsFor(n, 5))
		eachPowers(t, func(e []int) {
			want := n*e[0] + threesSteps[n-1]*e[1] + fivesSteps[n-1]*e[2]
			hasSteps(t, "powers", n, e, want)
			hasSteps(t, "the ratio upside down", n, downward(e), -want)
		})
	}
}

func TestPromise45StepsOfTwoRatiosAddUp(t *testing.T) {
	eachPowers(t, func(e []int) {
		for _, more := range [][]int{{-1, 1, 0}, {-2, 0, 1}, {4, -1, -1}, {-4, 4, -1}} {
			both := []int{e[0] + more[0], e[1] + more[1], e[2] + more[2]}
			sum, found := impl.StepsBy(12, both)
			if !found {
				continue
			}
			first, _ := impl.StepsBy(12, e)
			second, _ := impl.StepsBy(12, more)
			equal(t, "steps of both", sum, first+second)
		}
	})
}

func TestPromise46WhatIsLeftIsAtMostHalfAnOctave(t *testing.T) {
	for n := 1; n <= impl.MaxTones; n++ {
		greater, lesser := impl.LeftOf(n)
		if greater < lesser || lesser < 1 {
			t.Errorf("LeftOf(%d) = %d, %d", n, greater, lesser)
		}
		if greater*greater > 2*lesser*lesser {
			t.Errorf("LeftOf(%d) = %d, %d is more than half an octave", n, greater, lesser)
		}
		numbers := []int{greater, lesser}
		slices.Sort(numbers)
		want := []int{int(raisedTo(3, n).Int64()), int(raisedTo(2, impl.StepsFor(n, 3)).Int64())}
		slices.Sort(want)
		same(t, "numbers of LeftOf", numbers, want)
	}
}

// leftFraction returns the greater number that is left divided by the lesser one.
func leftFraction(n int) *big.Rat {
	greater, lesser := impl.LeftOf(n)
	return big.NewRat(int64(greater), int64(lesser))
}

// isBest reports whether less is left of n tones than of all lesser numbers.
func isBest(n int) bool {
	for fewer := 1; fewer < n; fewer++ {
		if leftFraction(fewer).Cmp(leftFraction(n)) <= 0 {
			return false
		}
	}
	return true
}

func TestPromise47BetterNumbersOfTonesAreFew(t *testing.T) {
	var want []int
	for n := 1; n <= impl.MaxTones; n++ {
		if isBest(n) {
			want = append(want, n)
		}
		best := impl.BestTones(n)
		same(t, "BestTones", best, want)
		equal(t, "first of BestTones", best[0], 1)
		if more := impl.BestTones(impl.MaxTones); !slices.Equal(more[:len(best)], best) {
			t.Errorf("BestTones(12) = %v do not begin with %v", more, best)
		}
	}
}

func TestPromise48FifthsAreToldUpwards(t *testing.T) {
	for n := 1; n <= impl.MaxTones; n++ {
		fifths := impl.FifthsOf(n)
		equal(t, "number of tones", len(fifths), n)
		var threes []int
		for i, e := range fifths {
			threes = append(threes, e[1])
			same(t, "a tone of a chain", e, []int{octaveTwos(e[1], 0), e[1], 0})
			hasOctave(t, "a tone of a chain", e, e...)
			if i > 0 && fraction(fifths[i-1]).Cmp(fraction(e)) >= 0 {
				t.Errorf("FifthsOf(%d) = %v do not ascend", n, fifths)
			}
		}
		slices.Sort(threes)
		for i, power := range threes {
			equal(t, "a power of 3", power, i)
		}
	}
}

// gapsOver returns the ratios of each of a chain of tones and the octave to the one ahead of
// it, each once.
func gapsOver(fifths [][]int) []*big.Rat {
	var out []*big.Rat
	for i := range fifths {
		next := big.NewRat(2, 1)
		if i+1 < len(fifths) {
			next = fraction(fifths[i+1])
		}
		gap := next.Quo(next, fraction(fifths[i]))
		told := func(other *big.Rat) bool { return other.Cmp(gap) == 0 }
		if !slices.ContainsFunc(out, told) {
			out = append(out, gap)
		}
	}
	return out
}

func TestPromise49ThereAreAtMostThreeGaps(t *testing.T) {
	for n := 1; n <= impl.MaxTones; n++ {
		gaps := impl.GapsBetween(n)
		want := gapsOver(impl.FifthsOf(n))
		equal(t, "number of gaps", len(gaps), len(want))
		if len(gaps) > 3 {
			t.Errorf("GapsBetween(%d) = %v are more than three", n, gaps)
		}
		for i, e := range gaps {
			equal(t, "a gap", fraction(e).String(), want[i].String())
			if up, down := impl.RatioOf(e); up <= down {
				t.Errorf("gap %v of %d tones is not above 1", e, n)
			}
		}
	}
}

func TestPromise49ChainsOfTwoGaps(t *testing.T) {
	for n := 1; n <= impl.MaxTones; n++ {
		want := 3
		switch n {
		case 1:
			want = 1
		case 2, 3, 5, 7, 12:
			want = 2
		}
		equal(t, "number of gaps", len(impl.GapsBetween(n)), want)
	}
}
