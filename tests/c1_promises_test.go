package tests

import (
	"slices"
	"testing"

	"loop.example/tonesincircles/impl"
)

func TestSetsAreNumbersBelowAll(t *testing.T) {
	eachCircle(func(n int) {
		for set := -5; set <= 2*allOf(n); set++ {
			if impl.ValidSet(n, set) != (set >= 0 && set <= allOf(n)) {
				t.Errorf("ValidSet(%d, %d) = %t", n, set, impl.ValidSet(n, set))
			}
		}
	})
}

func TestPromise1SetsHaveOthers(t *testing.T) {
	eachSet(t, func(n, set int) {
		others := impl.OthersOf(n, set)
		if !impl.ValidSet(n, others) {
			t.Fatalf("OthersOf(%d, %d) = %d is no set", n, set, others)
		}
		tones := append(tonesIn(set), tonesIn(others)...)
		slices.Sort(tones)
		same(t, "tones of both", tones, tonesIn(allOf(n)))
	})
}

func TestPromise2TonesAreToldOnce(t *testing.T) {
	eachSet(t, func(n, set int) {
		same(t, "TonesOf", impl.TonesOf(n, set), tonesIn(set))
	})
}

func TestPromise3ShiftsGoBack(t *testing.T) {
	eachSet(t, func(n, set int) {
		for by := -impl.MaxShift; by <= impl.MaxShift; by++ {
			got := impl.ShiftSet(n, set, by)
			if got != shifted(n, set, by) {
				t.Fatalf("ShiftSet(%d, %d, %d) = %d", n, set, by, got)
			}
			if back := impl.ShiftSet(n, got, -by); back != set {
				t.Fatalf("ShiftSet(%d, %d, %d) back = %d", n, set, by, back)
			}
		}
		equal(t, "once round", impl.ShiftSet(n, set, n), set)
	})
}

func TestPromise4TurnedTwiceIsAsBefore(t *testing.T) {
	eachSet(t, func(n, set int) {
		for by := -impl.MaxShift; by <= impl.MaxShift; by++ {
			got := impl.TurnSet(n, set, by)
			if got != turned(n, set, by) {
				t.Fatalf("TurnSet(%d, %d, %d) = %d", n, set, by, got)
			}
			if impl.TurnSet(n, got, by) != set {
				t.Fatalf("TurnSet(%d, %d, %d) twice = %d", n, set, by, impl.TurnSet(n, got, by))
			}
			if impl.ShiftSet(n, impl.TurnSet(n, set, 0), by) != got {
				t.Fatalf("TurnSet(%d, %d, %d) is no shift of TurnSet by 0", n, set, by)
			}
		}
	})
}

func TestPromise5GapsOfOthersDifferByTheSame(t *testing.T) {
	eachSet(t, func(n, set int) {
		want := impl.GapsOf(n, set)
		more := n - 2*len(tonesIn(set))
		for i := range want {
			if 2*(i+1) == n {
				want[i] += more / 2
			} else {
				want[i] += more
			}
		}
		same(t, "GapsOf OthersOf", impl.GapsOf(n, impl.OthersOf(n, set)), want)
	})
}

func TestPromise6GapsAreAllPairs(t *testing.T) {
	eachSet(t, func(n, set int) {
		tones := tonesIn(set)
		want := make([]int, n/2)
		for i := range tones {
			for j := range i {
				want[stepsApart(n, tones[i], tones[j])-1]++
			}
		}
		got := impl.GapsOf(n, set)
		same(t, "GapsOf", got, want)
		pairs := 0
		for _, g := range got {
			pairs += g
		}
		equal(t, "pairs", pairs, len(tones)*(len(tones)-1)/2)
	})
}

func TestPromise7CommonTonesAreGaps(t *testing.T) {
	eachSet(t, func(n, set int) {
		gaps := impl.GapsOf(n, set)
		for by := -impl.MaxShift; by <= impl.MaxShift; by++ {
			want := 0
			switch apart := stepsApart(n, 0, round(n, by)); {
			case apart == 0:
				want = len(tonesIn(set))
			case 2*apart == n:
				want = 2 * gaps[apart-1]
			default:
				want = gaps[apart-1]
			}
			if got := impl.CommonOf(n, set, by); got != want {
				t.Fatalf("CommonOf(%d, %d, %d) = %d, want %d", n, set, by, got, want)
			}
		}
	})
}

func TestPromise8KindsHaveOneLeastSet(t *testing.T) {
	eachSet(t, func(n, set int) {
		least := set
		for by := range n {
			least = min(least, shifted(n, set, by), turned(n, set, by))
		}
		prime := impl.PrimeOf(n, set)
		equal(t, "PrimeOf", prime, least)
		equal(t, "PrimeOf PrimeOf", impl.PrimeOf(n, prime), prime)
		same(t, "GapsOf PrimeOf", impl.GapsOf(n, prime), impl.GapsOf(n, set))
		for by := range n {
			equal(t, "PrimeOf a shift", impl.PrimeOf(n, impl.ShiftSet(n, set, by)), prime)
			equal(t, "PrimeOf a turn", impl.PrimeOf(n, impl.TurnSet(n, set, by)), prime)
		}
	})
}

func TestPromise9KindsAreAllSets(t *testing.T) {
	eachCircle(func(n int) {
		for k := 0; k <= n; k++ {
			primes := impl.PrimesOf(n, k)
			sets := 0
			for i, p := range primes {
				equal(t, "tones of PrimesOf", len(tonesIn(p)), k)
				equal(t, "PrimeOf one of PrimesOf", impl.PrimeOf(n, p), p)
				if i > 0 && primes[i-1] >= p {
					t.Errorf("PrimesOf(%d, %d) = %v do not ascend", n, k, primes)
				}
				shifts, turns := impl.MovesOf(n, p)
				if shifts < 1 || 2*n%(shifts+turns) != 0 || 2*n/(shifts+turns) != setsLike(n, p) {
					t.Errorf("the kind of %d of %d has moves %d and %d", p, n, shifts, turns)
					continue
				}
				sets += 2 * n / (shifts + turns)
			}
			equal(t, "sets of all kinds", sets, choose(n, k))
		}
	})
}

// setsLike returns how many sets there are among all shifts and turns of a set.
func setsLike(n, set int) int {
	found := map[int]bool{}
	for by := range n {
		found[shifted(n, set, by)] = true
		found[turned(n, set, by)] = true
	}
	return len(found)
}

// areTwins tells by the lists of tones what AreTwins must tell.
func areTwins(n, a, b int) bool {
	for by := range n {
		if shifted(n, a, by) == b || turned(n, a, by) == b {
			return false
		}
	}
	return slices.Equal(pairsApart(n, a), pairsApart(n, b))
}

// pairsApart returns how far the tones of all pairs are apart, ascending.
func pairsApart(n, set int) []int {
	var out []int
	tones := tonesIn(set)
	for i := range tones {
		for j := range i {
			out = append(out, stepsApart(n, tones[i], tones[j]))
		}
	}
	slices.Sort(out)
	return out
}

func TestPromise10TwinsAreTwinsBothWays(t *testing.T) {
	for n := 3; n <= 8; n++ {
		for a := 0; a <= allOf(n); a++ {
			for b := 0; b <= a; b++ {
				want := areTwins(n, a, b)
				if impl.AreTwins(n, a, b) != want || impl.AreTwins(n, b, a) != want {
					t.Fatalf("AreTwins(%d, %d, %d) is not %t both ways", n, a, b, want)
				}
			}
		}
	}
	a, b := setWith(0, 1, 4, 6), setWith(0, 1, 3, 7)
	for x := range 12 {
		for y := range 12 {
			equal(t, "twins shifted", impl.AreTwins(12, impl.ShiftSet(12, a, x), impl.ShiftSet(12, b, y)), true)
			equal(t, "twins turned", impl.AreTwins(12, impl.TurnSet(12, a, x), impl.ShiftSet(12, b, y)), true)
		}
	}
	eachSet(t, func(n, set int) {
		for by := range n {
			if impl.AreTwins(n, set, impl.TurnSet(n, set, by)) || impl.AreTwins(n, set, impl.ShiftSet(n, set, by)) {
				t.Fatalf("%d of %d is a twin of its own kind", set, n)
			}
		}
	})
}

func TestPromise11PairsOfTwinsAreTwins(t *testing.T) {
	eachCircle(func(n int) {
		for k := 0; k <= n; k++ {
			var want [][]int
			primes := impl.PrimesOf(n, k)
			for i, a := range primes {
				for _, b := range primes[i+1:] {
					if areTwins(n, a, b) {
						want = append(want, []int{a, b})
					}
				}
			}
			got := impl.TwinsOf(n, k)
			if !slices.EqualFunc(got, want, slices.Equal) {
				t.Fatalf("TwinsOf(%d, %d) = %v, want %v", n, k, got, want)
			}
			for _, pair := range got {
				equal(t, "AreTwins of a pair", impl.AreTwins(n, pair[0], pair[1]), true)
			}
		}
	})
}

// TestPromise12TurnsAreNoneOrAsManyAsShifts also counts the moves of MovesOf one by one.
func TestPromise12TurnsAreNoneOrAsManyAsShifts(t *testing.T) {
	eachSet(t, func(n, set int) {
		wantShifts, wantTurns := 0, 0
		for by := range n {
			if shifted(n, set, by) == set {
				wantShifts++
			}
			if turned(n, set, by) == set {
				wantTurns++
			}
		}
		shifts, turns := impl.MovesOf(n, set)
		equal(t, "shifts", shifts, wantShifts)
		equal(t, "turns", turns, wantTurns)
		if shifts < 1 || n%shifts != 0 || turns != 0 && turns != shifts {
			t.Errorf("MovesOf(%d, %d) = %d, %d", n, set, shifts, turns)
		}
	})
}
