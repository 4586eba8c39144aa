package tests

import (
	"slices"
	"testing"

	"loop.example/tonesincircles/impl"
)

// spoil overwrites a list and what may be behind it.
func spoil(list []int) {
	list = list[:cap(list)]
	for i := range list {
		list[i] = -7
	}
}

func TestListsAreNew(t *testing.T) {
	for name, call := range map[string]func() []int{
		"TonesOf":   func() []int { return impl.TonesOf(12, 2741) },
		"GapsOf":    func() []int { return impl.GapsOf(12, 2741) },
		"PrimesOf":  func() []int { return impl.PrimesOf(12, 4) },
		"SizesOf":   func() []int { return impl.SizesOf(12, 2741, 3) },
		"RowsOf":    func() []int { return impl.RowsOf(12, 2741) },
		"BeatsOf":   func() []int { return impl.BeatsOf(12, 7) },
		"RoundOf":   func() []int { return impl.RoundOf(5, "LR") },
		"TriadsIn":  func() []int { return impl.TriadsIn(2741) },
		"NearOf":    func() []int { return impl.NearOf(12, 2741) },
		"PathTo":    func() []int { return impl.PathTo(12, 145, 548) },
		"TilesOf":   func() []int { return impl.TilesOf(12, 65) },
		"FactorsOf": func() []int { return impl.FactorsOf(12, 4095) },
		"CanonOf":   func() []int { return impl.CanonOf(12, 2741, 145) },
		"BestTones": func() []int { return impl.BestTones(12) },
		"PowersOf": func() []int {
			e, _ := impl.PowersOf(81, 80)
			return e
		},
		"IntoOctave": func() []int {
			e, _ := impl.IntoOctave([]int{5, 2, 0})
			return e
		},
		"FarOf": func() []int {
			_, goals := impl.FarOf(12, 145, 2180)
			return goals
		},
	} {
		first := call()
		want := slices.Clone(first)
		spoil(first)
		same(t, name+" again", call(), want)
	}
}

// shareNoMemory spoils each list of a result, and looks at the others and at the next result.
func shareNoMemory(t *testing.T, what string, call func() [][]int) {
	t.Helper()
	want := call()
	for i := range want {
		got := call()
		spoil(got[i])
		for j := range got {
			if j != i {
				same(t, "another one of "+what, got[j], want[j])
			}
		}
		same(t, what+" again", call()[i], want[i])
	}
}

func TestListsOfListsShareNoMemory(t *testing.T) {
	shareNoMemory(t, "TwinsOf", func() [][]int { return impl.TwinsOf(12, 6) })
	shareNoMemory(t, "FifthsOf", func() [][]int { return impl.FifthsOf(12) })
	shareNoMemory(t, "GapsBetween", func() [][]int { return impl.GapsBetween(6) })
}

// TestPowersAreLeft looks at powers that are within an octave, so that what is returned is
// the same list, but a new one.
func TestPowersAreLeft(t *testing.T) {
	fifth := []int{-1, 1, 0}
	impl.RatioOf(fifth)
	impl.StepsBy(12, fifth)
	octave, _ := impl.IntoOctave(fifth)
	same(t, "powers that were given", fifth, []int{-1, 1, 0})
	spoil(octave)
	same(t, "powers that were given, when the result is spoilt", fifth, []int{-1, 1, 0})
	high := []int{7, 1, 0}
	impl.IntoOctave(high)
	same(t, "powers of another octave", high, []int{7, 1, 0})
}
