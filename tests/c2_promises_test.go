package tests

import (
	"slices"
	"strconv"
	"strings"
	"testing"

	"loop.example/tonesincircles/impl"
)

// spread returns the set of as many tones as k, counting how often k goes into each number.
func spread(n, k, m int) int {
	var tones []int
	for i := range k {
		tone := 0
		for left := i*n + m; left >= k; left -= k {
			tone++
		}
		tones = append(tones, round(n, tone))
	}
	return setWith(tones...)
}

// sizesBetween returns the distances of some steps, going up tone by tone until as many
// tones of the set are passed.
func sizesBetween(n, set, steps int) []int {
	found := map[int]bool{}
	tones := tonesIn(set)
	for _, from := range tones {
		size := 0
		for passed := 0; passed < steps; {
			size++
			if slices.Contains(tones, round(n, from+size)) {
				passed++
			}
		}
		found[size] = true
	}
	var sizes []int
	for size := range n {
		if found[size] {
			sizes = append(sizes, size)
		}
	}
	return sizes
}

// rowDistances returns the distances by which one goes from some tone through the whole
// set, passing no tone twice.
func rowDistances(n, set int) []int {
	tones := tonesIn(set)
	var out []int
	for g := 1; g < n; g++ {
		for _, x := range tones {
			row := []int{}
			for len(row) < len(tones) {
				row = append(row, round(n, x+len(row)*g))
			}
			slices.Sort(row)
			if slices.Equal(row, tones) {
				out = append(out, g)
				break
			}
		}
	}
	return out
}

// less returns the distances that are left of a circle, ascending.
func less(n int, sizes []int) []int {
	var out []int
	for _, size := range sizes {
		out = append(out, n-size)
	}
	slices.Reverse(out)
	return out
}

// beatText returns beats as a text of a letter for each.
func beatText(beats []int) string {
	text := ""
	for _, beat := range beats {
		text += strconv.Itoa(beat)
	}
	return text
}

// beatsTogether puts groups of beats together, each as a text of its own.
func beatsTogether(n, k int) string {
	first, second := slices.Repeat([]string{"1"}, k), slices.Repeat([]string{"0"}, n-k)
	for len(second) > 1 && len(first) > 0 {
		var pairs []string
		for len(first) > 0 && len(second) > 0 {
			pairs = append(pairs, first[0]+second[0])
			first, second = first[1:], second[1:]
		}
		first, second = pairs, append(first, second...)
	}
	return strings.Join(first, "") + strings.Join(second, "")
}

// eachSpread calls a function for all numbers that SpreadOf takes.
func eachSpread(do func(n, k, m int)) {
	eachCircle(func(n int) {
		for k := 1; k <= n; k++ {
			for m := range n {
				do(n, k, m)
			}
		}
	})
}

func TestPromise13SpreadTonesAreEven(t *testing.T) {
	eachSpread(func(n, k, m int) {
		set := impl.SpreadOf(n, k, m)
		equal(t, "SpreadOf", set, spread(n, k, m))
		equal(t, "tones of SpreadOf", len(impl.TonesOf(n, set)), k)
		equal(t, "IsEven SpreadOf", impl.IsEven(n, set), true)
		equal(t, "kind of SpreadOf", impl.PrimeOf(n, set), impl.PrimeOf(n, impl.SpreadOf(n, k, 0)))
	})
}

func TestPromise14SizesGoRound(t *testing.T) {
	eachSet(t, func(n, set int) {
		count := len(tonesIn(set))
		for steps := 1; steps < count; steps++ {
			sizes := impl.SizesOf(n, set, steps)
			same(t, "SizesOf", sizes, sizesBetween(n, set, steps))
			same(t, "SizesOf all other steps", impl.SizesOf(n, set, count-steps), less(n, sizes))
			for by := range n {
				same(t, "SizesOf a shift", impl.SizesOf(n, impl.ShiftSet(n, set, by), steps), sizes)
			}
		}
	})
}

func TestPromise15EvenSetsAreSpread(t *testing.T) {
	even := map[[2]int]bool{}
	eachSpread(func(n, k, m int) {
		for by := range n {
			even[[2]int{n, impl.ShiftSet(n, impl.SpreadOf(n, k, m), by)}] = true
		}
	})
	eachSet(t, func(n, set int) {
		want := even[[2]int{n, set}]
		if impl.IsEven(n, set) != want {
			t.Fatalf("IsEven(%d, %d) is not %t", n, set, want)
		}
		if others := impl.OthersOf(n, set); want && others != 0 {
			equal(t, "IsEven OthersOf", impl.IsEven(n, others), true)
		}
	})
}

// TestIsEvenBySizes tells even sets by what the document says of their sizes.
func TestIsEvenBySizes(t *testing.T) {
	eachSet(t, func(n, set int) {
		want := set != 0
		for steps := 1; steps < len(tonesIn(set)); steps++ {
			sizes := sizesBetween(n, set, steps)
			want = want && sizes[len(sizes)-1]-sizes[0] <= 1
		}
		if impl.IsEven(n, set) != want {
			t.Fatalf("IsEven(%d, %d) is not %t", n, set, want)
		}
	})
}

func TestPromise16SetsOfTwoSizesAreRows(t *testing.T) {
	eachSet(t, func(n, set int) {
		want := len(tonesIn(set)) >= 2
		for steps := 1; steps < len(tonesIn(set)); steps++ {
			want = want && len(sizesBetween(n, set, steps)) == 2
		}
		if impl.IsDouble(n, set) != want {
			t.Fatalf("IsDouble(%d, %d) is not %t", n, set, want)
		}
		if want && len(impl.RowsOf(n, set)) == 0 {
			t.Fatalf("RowsOf(%d, %d) are none, and its steps have two sizes", n, set)
		}
	})
}

func TestPromise17RowsGoBothWays(t *testing.T) {
	eachSet(t, func(n, set int) {
		rows := impl.RowsOf(n, set)
		same(t, "RowsOf", rows, rowDistances(n, set))
		same(t, "RowsOf, the other way", less(n, rows), rows)
		for by := range n {
			same(t, "RowsOf a shift", impl.RowsOf(n, impl.ShiftSet(n, set, by)), rows)
			same(t, "RowsOf a turn", impl.RowsOf(n, impl.TurnSet(n, set, by)), rows)
		}
	})
}

// deep reports whether the tones of all pairs are as often each distance apart as no other.
func deep(n, set int) bool {
	apart := pairsApart(n, set)
	often := map[int]bool{}
	for distance := 1; distance <= n/2; distance++ {
		pairs := 0
		for _, d := range apart {
			if d == distance {
				pairs++
			}
		}
		often[pairs] = true
	}
	return len(often) == n/2
}

func TestPromise18DeepSetsHaveAsManyKindsOfCommonTones(t *testing.T) {
	eachSet(t, func(n, set int) {
		want := deep(n, set)
		if impl.IsDeep(n, set) != want {
			t.Fatalf("IsDeep(%d, %d) is not %t", n, set, want)
		}
		equal(t, "IsDeep PrimeOf", impl.IsDeep(n, impl.PrimeOf(n, set)), want)
		if !want {
			return
		}
		common := map[int]bool{}
		shifts := 0
		for by := 1; 2*by < n; by++ {
			common[impl.CommonOf(n, set, by)] = true
			shifts++
		}
		equal(t, "different numbers of common tones", len(common), shifts)
	})
}

func TestPromise19BeatsAreEven(t *testing.T) {
	eachCircle(func(n int) {
		for k := 1; k <= n; k++ {
			beats := impl.BeatsOf(n, k)
			equal(t, "BeatsOf", beatText(beats), beatsTogether(n, k))
			equal(t, "length of BeatsOf", len(beats), n)
			equal(t, "first of BeatsOf", beats[0], 1)
			var places []int
			for i, beat := range beats {
				if beat == 1 {
					places = append(places, i)
				}
			}
			equal(t, "beats of BeatsOf", len(places), k)
			equal(t, "IsEven the places", impl.IsEven(n, setWith(places...)), true)
		}
	})
}
