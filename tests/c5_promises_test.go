package tests

import (
	"slices"
	"testing"

	"loop.example/tonesincircles/impl"
)

// primePowers returns the powers of primes that divide a circle of n, ascending.
func primePowers(n int) []int {
	return map[int][]int{
		3: {3}, 4: {2, 4}, 5: {5}, 6: {2, 3}, 7: {7}, 8: {2, 4, 8}, 9: {3, 9}, 10: {2, 5}, 11: {11}, 12: {2, 3, 4},
	}[n]
}

// primeUnder returns the prime of a power of it, up to 12.
func primeUnder(power int) int {
	return map[int]int{2: 2, 3: 3, 4: 2, 5: 5, 7: 7, 8: 2, 9: 3, 11: 11}[power]
}

// setHas returns 1 for a tone of the set, and 0 for another one.
func setHas(set, x int) int {
	if slices.Contains(tonesIn(set), x) {
		return 1
	}
	return 0
}

// allSums returns the sums of each two tones of two sets, ascending, those that are the same too.
func allSums(n, a, b int) []int {
	var sums []int
	for _, x := range tonesIn(a) {
		for _, y := range tonesIn(b) {
			sums = append(sums, round(n, x+y))
		}
	}
	slices.Sort(sums)
	return sums
}

// firstReturn returns the least number of shifts by 1, at least one, after which the set is there again.
func firstReturn(n, set int) int {
	by := 1
	for at := shifted(n, set, 1); at != set; at = shifted(n, at, 1) {
		by++
	}
	return by
}

// hasHalves reports whether two tones are half a circle apart.
func hasHalves(n, set int) bool {
	tones := tonesIn(set)
	for i, x := range tones {
		for _, y := range tones[:i] {
			if 2*stepsApart(n, x, y) == n {
				return true
			}
		}
	}
	return false
}

// tilesWith returns the sets with the tone 0 of which the sums with a set are all tones, each
// once, by trying all sets of as many tones as go into the circle.
func tilesWith(n, set int) []int {
	count := len(tonesIn(set))
	if count == 0 || n%count != 0 {
		return nil
	}
	var out []int
	for b := 1; b <= allOf(n); b += 2 {
		if count*len(tonesIn(b)) == n && slices.Equal(allSums(n, set, b), tonesIn(allOf(n))) {
			out = append(out, b)
		}
	}
	return out
}

// isFactor reports whether a set has as many tones with each two rests of a power of a prime
// that are the same when they are divided by power/prime.
func isFactor(set, power, prime int) bool {
	counts := make([]int, power)
	for _, x := range tonesIn(set) {
		counts[x%power]++
	}
	for first := range power {
		for second := range power {
			if first%(power/prime) == second%(power/prime) && counts[first] != counts[second] {
				return false
			}
		}
	}
	return true
}

// factorsIn returns the powers of primes that isFactor finds, ascending.
func factorsIn(n, set int) []int {
	var out []int
	for _, power := range primePowers(n) {
		if isFactor(set, power, primeUnder(power)) {
			out = append(out, power)
		}
	}
	return out
}

// primesTogether returns the primes of powers, multiplied.
func primesTogether(powers []int) int {
	out := 1
	for _, power := range powers {
		out *= primeUnder(power)
	}
	return out
}

// eachTwoSets calls a function for two sets of a circle, until the test has failed: for all
// of them in small circles, and for some from all parts of the great ones.
func eachTwoSets(t *testing.T, do func(n, a, b int)) {
	const few, step = 5000, 10007
	eachCircle(func(n int) {
		sets := allOf(n) + 1
		pairs := sets * sets
		// step is odd, and pairs a power of 2: the pairs are met out of order, each one once.
		for i := 0; i < min(pairs, few) && !t.Failed(); i++ {
			at := i * step % pairs
			do(n, at/sets, at%sets)
		}
	})
}

// eachTile calls a function for each set and each one of TilesOf it, until the test has failed.
func eachTile(t *testing.T, do func(n, set, tile int)) {
	eachSet(t, func(n, set int) {
		for _, tile := range impl.TilesOf(n, set) {
			do(n, set, tile)
		}
	})
}

func TestPromise12ShiftsOfMovesArePeriods(t *testing.T) {
	eachSet(t, func(n, set int) {
		shifts, turns := impl.MovesOf(n, set)
		equal(t, "shifts of MovesOf by PeriodOf", shifts*impl.PeriodOf(n, set), n)
		equal(t, "shifts of MovesOf by the first return", shifts*firstReturn(n, set), n)
		if turns != 0 && turns != shifts {
			t.Errorf("MovesOf(%d, %d) = %d, %d", n, set, shifts, turns)
		}
	})
}

func TestPromise12TurnsAreAPeriodApart(t *testing.T) {
	eachSet(t, func(n, set int) {
		period := impl.PeriodOf(n, set)
		found := 0
		for by := range n {
			if impl.TurnSet(n, set, by) != set {
				continue
			}
			found++
			equal(t, "a turn a period further", impl.TurnSet(n, set, by+period), set)
		}
		_, turns := impl.MovesOf(n, set)
		equal(t, "turns of MovesOf", turns, found)
	})
}

func TestPromise34PeriodsDivideTheCircle(t *testing.T) {
	eachSet(t, func(n, set int) {
		period := impl.PeriodOf(n, set)
		equal(t, "PeriodOf", period, firstReturn(n, set))
		if period < 1 || n%period != 0 {
			t.Fatalf("PeriodOf(%d, %d) = %d does not divide the circle", n, set, period)
		}
		equal(t, "PeriodOf the others", impl.PeriodOf(n, impl.OthersOf(n, set)), period)
		for from := range n {
			inside := 0
			for i := range period {
				inside += setHas(set, round(n, from+i))
			}
			equal(t, "tones of all periods", inside*(n/period), len(tonesIn(set)))
		}
	})
}

func TestPromise35OddRhythmsHaveAtMostHalfTheBeats(t *testing.T) {
	eachSet(t, func(n, set int) {
		odd := impl.IsOdd(n, set)
		equal(t, "IsOdd", odd, n%2 == 0 && !hasHalves(n, set))
		if odd && 2*len(tonesIn(set)) > n {
			t.Errorf("IsOdd(%d, %d) with %d tones", n, set, len(tonesIn(set)))
		}
		for by := range n {
			equal(t, "IsOdd a shift", impl.IsOdd(n, impl.ShiftSet(n, set, by)), odd)
		}
	})
}

func TestPromise36SumsGoBothWays(t *testing.T) {
	eachTwoSets(t, func(n, a, b int) {
		all := allSums(n, a, b)
		sums := setWith(all...)
		hasSums(t, "of two sets", n, a, b, sums, len(tonesIn(sums)) == len(all))
		got, different := impl.SumsOf(n, a, b)
		product := len(tonesIn(a)) * len(tonesIn(b))
		equal(t, "as many sums as the product", different, len(impl.TonesOf(n, got)) == product)
	})
}

func TestPromise37TilesMakeAllTonesOnce(t *testing.T) {
	eachTile(t, func(n, set, tile int) {
		hasSums(t, "of a set and its tile", n, set, tile, allOf(n), true)
		equal(t, "the tone 0 of a tile", tile%2, 1)
	})
}

func TestPromise37TilesAreAll(t *testing.T) {
	eachSet(t, func(n, set int) {
		same(t, "TilesOf", impl.TilesOf(n, set), tilesWith(n, set))
	})
}

func TestPromise37OneOfBothIsLoose(t *testing.T) {
	eachTile(t, func(n, set, tile int) {
		if !impl.IsLoose(n, set) && !impl.IsLoose(n, tile) {
			t.Errorf("neither %d nor its tile %d of %d is loose", set, tile, n)
		}
	})
}

func TestPromise37FactorsAreTheTones(t *testing.T) {
	eachTile(t, func(n, set, tile int) {
		equal(t, "primes of FactorsOf the set", primesTogether(impl.FactorsOf(n, set)), len(tonesIn(set)))
		equal(t, "primes of FactorsOf the tile", primesTogether(impl.FactorsOf(n, tile)), len(tonesIn(tile)))
	})
}

func TestPromise38FactorsDivideTheTones(t *testing.T) {
	eachSet(t, func(n, set int) {
		factors := impl.FactorsOf(n, set)
		same(t, "FactorsOf", factors, factorsIn(n, set))
		equal(t, "tones that are left", len(tonesIn(set))%primesTogether(factors), 0)
		for by := range n {
			same(t, "FactorsOf a shift", impl.FactorsOf(n, impl.ShiftSet(n, set, by)), factors)
			same(t, "FactorsOf a turn", impl.FactorsOf(n, impl.TurnSet(n, set, by)), factors)
		}
	})
}

func TestPromise39LooseSetsAreTheSameAfterLessThanACircle(t *testing.T) {
	eachSet(t, func(n, set int) {
		loose := impl.IsLoose(n, set)
		equal(t, "IsLoose", loose, firstReturn(n, set) < n)
		shifts, _ := impl.MovesOf(n, set)
		equal(t, "IsLoose by MovesOf", loose, shifts > 1)
	})
}

// isCanon checks the voices that have a beat at each time, and what they tell of the sums.
func isCanon(t *testing.T, n, a, b int) {
	t.Helper()
	canon := impl.CanonOf(n, a, b)
	want := make([]int, n)
	for _, sum := range allSums(n, a, b) {
		want[sum]++
	}
	same(t, "CanonOf", canon, want)
	beats, once := 0, true
	for _, voices := range canon {
		beats += voices
		once = once && voices == 1
	}
	equal(t, "beats of CanonOf together", beats, len(tonesIn(a))*len(tonesIn(b)))
	sums, different := impl.SumsOf(n, a, b)
	equal(t, "each beat once", once, sums == allOf(n) && different)
}

func TestPromise40CanonsHaveAllBeats(t *testing.T) {
	eachTwoSets(t, func(n, a, b int) {
		isCanon(t, n, a, b)
	})
}

func TestPromise40CanonsOfTilesHaveEachBeatOnce(t *testing.T) {
	eachTile(t, func(n, set, tile int) {
		isCanon(t, n, set, tile)
		once := slices.Repeat([]int{1}, n)
		same(t, "CanonOf a set and its tile", impl.CanonOf(n, set, tile), once)
		same(t, "CanonOf a tile and its set", impl.CanonOf(n, tile, set), once)
	})
}
