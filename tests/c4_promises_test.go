package tests

import (
	"slices"
	"testing"

	"loop.example/tonesincircles/impl"
)

// pairedFrom returns how far tones go in order to those of another list that begins at a
// place, and these.
func pairedFrom(n int, from, to []int, place int) (int, []int) {
	sum := 0
	var goals []int
	for i, x := range from {
		goal := to[(i+place)%len(to)]
		goals = append(goals, goal)
		sum += stepsApart(n, x, goal)
	}
	return sum, goals
}

// bestInOrder returns the least sum of all places, and the goals by the first such place.
func bestInOrder(n, a, b int) (int, []int) {
	from, to := tonesIn(a), tonesIn(b)
	best, goals := pairedFrom(n, from, to, 0)
	for place := range to {
		if sum, tones := pairedFrom(n, from, to, place); sum < best {
			best, goals = sum, tones
		}
	}
	return best, goals
}

// bestPaired returns the least sum of all ways to pair tones, whether they cross or not:
// least[taken] is that of the first tones with those that are taken.
func bestPaired(n, a, b int) int {
	from, to := tonesIn(a), tonesIn(b)
	least := make([]int, 1<<len(to))
	for taken := 1; taken < len(least); taken++ {
		least[taken] = -1
		x := from[len(tonesIn(taken))-1]
		for _, last := range tonesIn(taken) {
			sum := least[taken-1<<last] + stepsApart(n, x, to[last])
			if least[taken] == -1 || sum < least[taken] {
				least[taken] = sum
			}
		}
	}
	return least[len(least)-1]
}

// nearSets returns the sets in which one tone is 1 more or less, by trying all tones for each one.
func nearSets(n, set int) []int {
	var out []int
	tones := tonesIn(set)
	for i, x := range tones {
		for y := range n {
			if stepsApart(n, x, y) == 1 && !slices.Contains(tones, y) {
				moved := slices.Clone(tones)
				moved[i] = y
				out = append(out, setWith(moved...))
			}
		}
	}
	slices.Sort(out)
	return out
}

// stepsFrom returns how many steps lead from a set to each one of as many tones.
func stepsFrom(n, set int) map[int]int {
	steps := map[int]int{set: 0}
	for last := []int{set}; len(last) > 0; {
		var next []int
		for _, at := range last {
			for _, near := range nearSets(n, at) {
				if _, known := steps[near]; !known {
					steps[near] = steps[at] + 1
					next = append(next, near)
				}
			}
		}
		last = next
	}
	return steps
}

// firstPath returns the first one, set by set, of all paths by which so many steps lead to
// a set, the path so far ahead of it; nil if there is none.
func firstPath(n int, path []int, b, steps int) []int {
	at := path[len(path)-1]
	if steps == 0 && at == b {
		return path
	}
	if steps == 0 {
		return nil
	}
	for _, near := range nearSets(n, at) {
		if whole := firstPath(n, append(slices.Clone(path), near), b, steps-1); whole != nil {
			return whole
		}
	}
	return nil
}

// setsByTones returns the sets of a circle of n with each number of tones.
func setsByTones(n int) [][]int {
	out := make([][]int, n+1)
	for set := range allOf(n) + 1 {
		count := len(tonesIn(set))
		out[count] = append(out[count], set)
	}
	return out
}

// eachPair calls a function for pairs of sets of as many tones, at least one, until the test
// has failed: for all pairs if there are few of them, and for some of the others, from all
// parts of the circle, so that tests end soon.
func eachPair(t *testing.T, do func(n, a, b int)) {
	const few, step = 1300, 997
	eachCircle(func(n int) {
		for _, sets := range setsByTones(n)[1:] {
			pairs := len(sets) * len(sets)
			// step is a prime and no factor of pairs: the pairs are met out of order, each one once.
			for i := 0; i < min(pairs, few) && !t.Failed(); i++ {
				at := i * step % pairs
				do(n, sets[at/len(sets)], sets[at%len(sets)])
			}
		}
	})
}

func TestPromise29VoicesNeedNotCross(t *testing.T) {
	eachPair(t, func(n, a, b int) {
		far, goals := impl.FarOf(n, a, b)
		equal(t, "the least of all ways to pair", far, bestPaired(n, a, b))
		want, tones := bestInOrder(n, a, b)
		equal(t, "FarOf", far, want)
		same(t, "goals of FarOf", goals, tones)
		back, _ := impl.FarOf(n, b, a)
		equal(t, "FarOf the other way", back, far)
	})
}

func TestPromise29GoalsAreAllTones(t *testing.T) {
	eachPair(t, func(n, a, b int) {
		far, goals := impl.FarOf(n, a, b)
		sum := 0
		for i, x := range tonesIn(a) {
			sum += stepsApart(n, x, goals[i])
		}
		equal(t, "how far the goals are", sum, far)
		slices.Sort(goals)
		same(t, "goals, ascending", goals, tonesIn(b))
	})
}

func TestPromise30NearSetsAreNearBothWays(t *testing.T) {
	eachSet(t, func(n, set int) {
		near := impl.NearOf(n, set)
		same(t, "NearOf", near, nearSets(n, set))
		for _, other := range near {
			if !slices.Contains(impl.NearOf(n, other), set) {
				t.Errorf("NearOf(%d, %d) has not %d", n, other, set)
			}
			far, _ := impl.FarOf(n, set, other)
			equal(t, "FarOf a near set", far, 1)
			far, _ = impl.FarOf(n, other, set)
			equal(t, "FarOf from a near set", far, 1)
		}
	})
}

func TestPromise31StepsAreAsManyAsVoicesMove(t *testing.T) {
	eachCircle(func(n int) {
		for _, sets := range setsByTones(n)[1:] {
			// Some sets are enough to begin with in the great circles, but all of the others are reached.
			for i := 0; i < len(sets) && !t.Failed(); i += 1 + len(sets)/8 {
				steps := stepsFrom(n, sets[i])
				equal(t, "sets that are reached", len(steps), len(sets))
				for b, want := range steps {
					far, _ := impl.FarOf(n, sets[i], b)
					equal(t, "StepsTo", impl.StepsTo(n, sets[i], b), want)
					equal(t, "FarOf and StepsTo", far, want)
					equal(t, "StepsTo the other way", impl.StepsTo(n, b, sets[i]), want)
				}
			}
		}
	})
}

func TestPromise32PathsAreShortest(t *testing.T) {
	eachPair(t, func(n, a, b int) {
		path := impl.PathTo(n, a, b)
		steps := impl.StepsTo(n, a, b)
		if len(path) != steps+1 || path[0] != a || path[steps] != b {
			t.Fatalf("PathTo(%d, %d, %d) = %v, want %d steps", n, a, b, path, steps)
		}
		for i, next := range path[1:] {
			if !slices.Contains(nearSets(n, path[i]), next) {
				t.Errorf("PathTo(%d, %d, %d) = %v goes from %d to %d", n, a, b, path, path[i], next)
			}
		}
	})
}

func TestPromise32PathsHaveTheLesserSetsFirst(t *testing.T) {
	for n := 3; n <= 6; n++ {
		for a := 1; a <= allOf(n); a++ {
			for b, steps := range stepsFrom(n, a) {
				same(t, "PathTo", impl.PathTo(n, a, b), firstPath(n, []int{a}, b, steps))
			}
		}
	}
	for _, c := range [][3]int{
		{12, setWith(0, 4, 7), setWith(2, 5, 9)}, {12, setWith(0, 6), setWith(3, 9)}, {11, setWith(0, 1, 2), setWith(2, 3, 4)},
		{10, setWith(1, 5, 8), setWith(0, 3, 6)}, {12, major, shifted(12, major, 10)}, {9, setWith(0, 8), setWith(3, 4)},
	} {
		steps := stepsFrom(c[0], c[1])[c[2]]
		same(t, "PathTo", impl.PathTo(c[0], c[1], c[2]), firstPath(c[0], []int{c[1]}, c[2], steps))
	}
}

func TestPromise33SmoothShiftsAreNearest(t *testing.T) {
	eachSet(t, func(n, set int) {
		if set == 0 {
			return
		}
		wantBy, wantFar := 0, 0
		for by := 1; by < n; by++ {
			far, _ := bestInOrder(n, set, shifted(n, set, by))
			if wantBy == 0 || far < wantFar {
				wantBy, wantFar = by, far
			}
		}
		isSmooth(t, "of all shifts", n, set, wantBy, wantFar)
		by, far := impl.SmoothOf(n, set)
		again, _ := impl.FarOf(n, set, impl.ShiftSet(n, set, by))
		equal(t, "FarOf the shift", again, far)
		if far > len(tonesIn(set)) {
			t.Errorf("SmoothOf(%d, %d) goes %d far", n, set, far)
		}
	})
}
