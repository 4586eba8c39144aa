package tests

import (
	"strings"
	"testing"

	"loop.example/tonesincircles/impl"
)

// A circle of 12 tones has these sets: steps of one size, of two, and of three.
var (
	wholeTones    = setWith(0, 2, 4, 6, 8, 10)
	major         = setWith(0, 2, 4, 5, 7, 9, 11)
	harmonicMinor = setWith(0, 2, 3, 5, 7, 8, 11)
)

func TestSpreadOfExamples(t *testing.T) {
	equal(t, "7 of 12", impl.SpreadOf(12, 7, 0), setWith(0, 1, 3, 5, 6, 8, 10))
	equal(t, "7 of 12 from 5", impl.SpreadOf(12, 7, 5), major)
	equal(t, "5 of 12 from 11", impl.SpreadOf(12, 5, 11), setWith(2, 4, 7, 9, 11))
	equal(t, "3 of 8", impl.SpreadOf(8, 3, 0), setWith(0, 2, 5))
	equal(t, "3 of 8 from 7", impl.SpreadOf(8, 3, 7), setWith(2, 5, 7))
	equal(t, "one of each size", impl.SpreadOf(12, 6, 0), wholeTones)
	equal(t, "too little to go on", impl.SpreadOf(12, 6, 5), wholeTones)
	equal(t, "just enough to go on", impl.SpreadOf(12, 6, 6), setWith(1, 3, 5, 7, 9, 11))
	equal(t, "one tone", impl.SpreadOf(12, 1, 0), setWith(0))
	equal(t, "one tone from the last", impl.SpreadOf(12, 1, 11), setWith(11))
	equal(t, "all tones", impl.SpreadOf(12, 12, 0), 4095)
	equal(t, "all tones from the last", impl.SpreadOf(3, 3, 2), 7)
}

func TestSizesOfExamples(t *testing.T) {
	for i, want := range [][]int{{1, 2}, {3, 4}, {5, 6}, {6, 7}, {8, 9}, {10, 11}} {
		same(t, "two sizes", impl.SizesOf(12, major, i+1), want)
	}
	same(t, "three sizes", impl.SizesOf(12, harmonicMinor, 1), []int{1, 2, 3})
	same(t, "three sizes, all steps but one", impl.SizesOf(12, harmonicMinor, 6), []int{9, 10, 11})
	same(t, "three sizes far from each other", impl.SizesOf(12, setWith(0, 1, 5), 1), []int{1, 4, 7})
	same(t, "the greatest size first", impl.SizesOf(12, setWith(0, 7, 8), 1), []int{1, 4, 7})
	same(t, "one size", impl.SizesOf(12, setWith(0, 4, 8), 1), []int{4})
	same(t, "one size, two steps", impl.SizesOf(12, setWith(0, 4, 8), 2), []int{8})
	same(t, "half a circle", impl.SizesOf(12, setWith(5, 11), 1), []int{6})
	same(t, "two tones next to each other", impl.SizesOf(12, setWith(0, 11), 1), []int{1, 11})
	for steps := 1; steps < 5; steps++ {
		same(t, "all tones", impl.SizesOf(5, 31, steps), []int{steps})
	}
}

func TestIsEvenExamples(t *testing.T) {
	equal(t, "two sizes", impl.IsEven(12, major), true)
	equal(t, "one size", impl.IsEven(12, wholeTones), true)
	equal(t, "one tone", impl.IsEven(12, setWith(7)), true)
	equal(t, "one tone of 3", impl.IsEven(3, setWith(2)), true)
	equal(t, "all tones", impl.IsEven(12, 4095), true)
	equal(t, "all tones of 3", impl.IsEven(3, 7), true)
	equal(t, "three sizes", impl.IsEven(12, harmonicMinor), false)
	equal(t, "three sizes for three steps only", impl.IsEven(12, setWith(0, 2, 3, 5, 7, 9, 11)), false)
	equal(t, "three sizes for two steps, and two for one", impl.IsEven(12, setWith(0, 1, 2, 4, 6, 8, 10)), false)
	equal(t, "sizes 2 apart", impl.IsEven(12, setWith(0, 5)), false)
	equal(t, "sizes 1 apart", impl.IsEven(11, setWith(0, 5)), true)
	equal(t, "no tones", impl.IsEven(12, 0), false)
	equal(t, "no tones of 3", impl.IsEven(3, 0), false)
}

func TestIsDoubleExamples(t *testing.T) {
	equal(t, "major", impl.IsDouble(12, major), true)
	equal(t, "two tones", impl.IsDouble(12, setWith(0, 1)), true)
	equal(t, "sizes far from each other", impl.IsDouble(12, setWith(0, 1, 2)), true)
	equal(t, "half a circle", impl.IsDouble(12, setWith(0, 6)), false)
	equal(t, "one size", impl.IsDouble(12, wholeTones), false)
	equal(t, "one size for some steps", impl.IsDouble(12, setWith(0, 1, 6, 7)), false)
	equal(t, "three sizes", impl.IsDouble(12, harmonicMinor), false)
	equal(t, "three sizes for three steps only", impl.IsDouble(12, setWith(0, 2, 3, 5, 7, 9, 11)), false)
	equal(t, "three sizes for two steps, and two for one", impl.IsDouble(12, setWith(0, 1, 2, 4, 6, 8, 10)), false)
	equal(t, "one tone", impl.IsDouble(12, setWith(3)), false)
	equal(t, "no tones", impl.IsDouble(12, 0), false)
	equal(t, "all tones", impl.IsDouble(12, 4095), false)
}

func TestRowsOfExamples(t *testing.T) {
	same(t, "fifths", impl.RowsOf(12, major), []int{5, 7})
	same(t, "one distance round the circle", impl.RowsOf(12, setWith(0, 4, 8)), []int{4, 8})
	same(t, "half a circle", impl.RowsOf(12, setWith(1, 7)), []int{6})
	same(t, "two tones", impl.RowsOf(12, setWith(3, 5)), []int{2, 10})
	same(t, "two rows of 5", impl.RowsOf(5, setWith(0, 1, 2, 3)), []int{1, 2, 3, 4})
	same(t, "one tone", impl.RowsOf(5, setWith(4)), []int{1, 2, 3, 4})
	same(t, "all tones", impl.RowsOf(12, 4095), []int{1, 5, 7, 11})
	same(t, "all tones of 5", impl.RowsOf(5, 31), []int{1, 2, 3, 4})
	same(t, "three sizes", impl.RowsOf(12, harmonicMinor), nil)
	same(t, "no row", impl.RowsOf(12, setWith(0, 1, 4)), nil)
	same(t, "no tones", impl.RowsOf(12, 0), nil)
}

func TestIsDeepExamples(t *testing.T) {
	equal(t, "major", impl.IsDeep(12, major), true)
	equal(t, "a part of a row", impl.IsDeep(12, setWith(0, 1, 2, 3, 4, 5)), true)
	equal(t, "a triad", impl.IsDeep(12, setWith(0, 4, 7)), false)
	equal(t, "three sizes", impl.IsDeep(12, harmonicMinor), false)
	equal(t, "no tones", impl.IsDeep(12, 0), false)
	equal(t, "one tone", impl.IsDeep(12, setWith(5)), false)
	equal(t, "all tones", impl.IsDeep(12, 4095), false)
	equal(t, "all tones of 4", impl.IsDeep(4, 15), true)
	equal(t, "one tone of 4", impl.IsDeep(4, setWith(1)), false)
	// In a circle of 3 there is only one distance.
	for set := range 8 {
		equal(t, "3 tones", impl.IsDeep(3, set), true)
	}
}

func TestBeatsOfExamples(t *testing.T) {
	for _, want := range []string{
		"100", "110", "111",
		"1000", "1010", "1110", "1111",
		"10100", "10101",
		"100100", "111110",
		"1001000", "1011011",
		"10010010", "10110110", "10111011",
		"101010100", "101010101",
		"1001010010",
		"10001000100", "10101010100",
		"100000000000", "100000100000", "100010001000", "100101001010", "101010101010",
		"101101011010", "101101101101", "101111101111", "111111111110", "111111111111",
	} {
		beats := strings.Count(want, "1")
		equal(t, "BeatsOf", beatText(impl.BeatsOf(len(want), beats)), want)
	}
}
