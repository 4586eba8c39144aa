package tests

import (
	"slices"
	"testing"

	"loop.example/tonesincircles/impl"
)

// spoil overwrites a list and what may be behind it.
func spoil(list []int) {
	list = list[:cap(list)]
	for i := range list {
		list[i] = -7
	}
}

func TestListsAreNew(t *testing.T) {
	for name, call := range map[string]func() []int{
		"TonesOf":   func() []int { return impl.TonesOf(12, 2741) },
		"GapsOf":    func() []int { return impl.GapsOf(12, 2741) },
		"PrimesOf":  func() []int { return impl.PrimesOf(12, 4) },
		"SizesOf":   func() []int { return impl.SizesOf(12, 2741, 3) },
		"RowsOf":    func() []int { return impl.RowsOf(12, 2741) },
		"BeatsOf":   func() []int { return impl.BeatsOf(12, 7) },
		"RoundOf":   func() []int { return impl.RoundOf(5, "LR") },
		"TriadsIn":  func() []int { return impl.TriadsIn(2741) },
		"NearOf":    func() []int { return impl.NearOf(12, 2741) },
		"PathTo":    func() []int { return impl.PathTo(12, 145, 548) },
		"TilesOf":   func() []int { return impl.TilesOf(12, 65) },
		"FactorsOf": func() []int { return impl.FactorsOf(12, 4095) },
		"CanonOf":   func() []int { return impl.CanonOf(12, 2741, 145) },
		"FarOf": func() []int {
			_, goals := impl.FarOf(12, 145, 2180)
			return goals
		},
	} {
		first := call()
		want := slices.Clone(first)
		spoil(first)
		same(t, name+" again", call(), want)
	}
}

func TestPairsOfTwinsShareNoMemory(t *testing.T) {
	want := impl.TwinsOf(12, 6)
	for i := range want {
		got := impl.TwinsOf(12, 6)
		spoil(got[i])
		for j := range got {
			if j != i {
				same(t, "another pair", got[j], want[j])
			}
		}
	}
}
