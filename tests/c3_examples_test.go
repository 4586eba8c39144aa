package tests

import (
	"strings"
	"testing"

	"loop.example/tonesincircles/impl"
)

func TestLimitsOfTriads(t *testing.T) {
	equal(t, "MaxWord", impl.MaxWord, 8)
}

func TestValidTriadExamples(t *testing.T) {
	for triad := -30; triad < 60; triad++ {
		equal(t, "ValidTriad", impl.ValidTriad(triad), triad >= 0 && triad <= 23)
	}
}

func TestTriadSetExamples(t *testing.T) {
	equal(t, "the first one", impl.TriadSet(0), setWith(0, 4, 7))
	equal(t, "the first low one", impl.TriadSet(1), setWith(0, 3, 7))
	equal(t, "round the circle", impl.TriadSet(18), setWith(9, 1, 4))
	equal(t, "a low one round the circle", impl.TriadSet(19), setWith(9, 0, 4))
	equal(t, "the last one", impl.TriadSet(23), setWith(11, 2, 6))
}

func TestTriadOfExamples(t *testing.T) {
	for _, c := range []struct {
		tones []int
		want  int
	}{{[]int{0, 4, 7}, 0}, {[]int{0, 3, 7}, 1}, {[]int{0, 4, 9}, 19}, {[]int{2, 6, 11}, 23}, {[]int{3, 6, 11}, 22}} {
		triad, found := impl.TriadOf(setWith(c.tones...))
		equal(t, "TriadOf", triad, c.want)
		equal(t, "TriadOf found", found, true)
	}
}

func TestWalkOfExamples(t *testing.T) {
	for _, c := range []struct {
		from int
		word string
		want int
	}{
		{0, "P", 1}, {1, "P", 0}, {0, "L", 9}, {9, "L", 0}, {1, "L", 16}, {16, "L", 1},
		{0, "R", 19}, {19, "R", 0}, {1, "R", 6}, {6, "R", 1},
		{22, "P", 23}, {23, "P", 22}, {22, "L", 7}, {23, "L", 14}, {22, "R", 17}, {23, "R", 4},
		{0, "LPL", 17}, {0, "PR", 6}, {0, "RP", 18}, {0, "PL", 16}, {0, "LP", 8},
		{0, "LRLRLRLR", 8}, {0, "PLRPLRPL", 16}, {23, "PPPPPPPP", 23},
	} {
		equal(t, "WalkOf by "+c.word, impl.WalkOf(c.from, c.word), c.want)
	}
}

func TestWordsOfNoSteps(t *testing.T) {
	for triad := range 24 {
		equal(t, "WalkOf", impl.WalkOf(triad, ""), triad)
		same(t, "RoundOf", impl.RoundOf(triad, ""), nil)
		word, found := impl.WayOf(triad, triad)
		equal(t, "WayOf", word, "")
		equal(t, "WayOf found", found, true)
	}
}

func TestShiftTriadExamples(t *testing.T) {
	equal(t, "by none", impl.ShiftTriad(13, 0), 13)
	equal(t, "more than once round", impl.ShiftTriad(1, 14), 5)
	equal(t, "downwards", impl.ShiftTriad(0, -1), 22)
	equal(t, "a low one upwards", impl.ShiftTriad(23, 1), 1)
	equal(t, "by the greatest shift", impl.ShiftTriad(0, 50), 4)
	equal(t, "by the least shift", impl.ShiftTriad(1, -50), 21)
}

func TestTurnTriadExamples(t *testing.T) {
	equal(t, "by none", impl.TurnTriad(0, 0), 11)
	equal(t, "a low one by none", impl.TurnTriad(11, 0), 0)
	equal(t, "by 7", impl.TurnTriad(0, 7), 1)
	equal(t, "a low one by 7", impl.TurnTriad(1, 7), 0)
	equal(t, "below 0", impl.TurnTriad(0, -1), 9)
	equal(t, "by the greatest", impl.TurnTriad(0, 50), 15)
	equal(t, "by the least", impl.TurnTriad(1, -50), 6)
}

func TestRoundOfExamples(t *testing.T) {
	same(t, "P and L", impl.RoundOf(0, "PL"), []int{0, 1, 16, 17, 8, 9})
	same(t, "P and R", impl.RoundOf(0, "PR"), []int{0, 1, 6, 7, 12, 13, 18, 19})
	same(t, "L, P and R", impl.RoundOf(0, "LPR"), []int{0, 9, 8, 3, 18, 19})
	same(t, "from a low one", impl.RoundOf(9, "PL"), []int{9, 8, 17, 16, 1, 0})
	same(t, "there and back", impl.RoundOf(5, "PP"), []int{5, 4})
	// The first triad is passed twice before it is behind all steps.
	same(t, "past the first one", impl.RoundOf(0, "PPP"), []int{0, 1, 0, 1, 0, 1})
	same(t, "the longest word", impl.RoundOf(1, "PPPPPPPP"), []int{1, 0, 1, 0, 1, 0, 1, 0})
}

func TestRoundsOfOneStep(t *testing.T) {
	for triad := range 24 {
		for _, letter := range "LPR" {
			want := []int{triad, stepFrom(triad, letter)}
			same(t, "RoundOf "+string(letter), impl.RoundOf(triad, string(letter)), want)
		}
	}
	same(t, "P", impl.RoundOf(0, "P"), []int{0, 1})
	same(t, "L", impl.RoundOf(0, "L"), []int{0, 9})
	same(t, "R", impl.RoundOf(0, "R"), []int{0, 19})
	same(t, "R from a low one", impl.RoundOf(23, "R"), []int{23, 4})
}

func TestWayOfExamples(t *testing.T) {
	for _, c := range []struct {
		from, to int
		want     string
	}{
		{0, 0, ""}, {0, 1, "P"}, {0, 9, "L"}, {0, 19, "R"}, {0, 16, "PL"}, {0, 6, "PR"}, {0, 17, "LPL"},
		// PRL leads there too.
		{0, 11, "PLR"},
		// RPRP leads there too.
		{0, 12, "PRPR"},
		{0, 22, "LPLR"}, {1, 2, "LRL"}, {23, 22, "P"},
	} {
		word, found := impl.WayOf(c.from, c.to)
		equal(t, "WayOf", word, c.want)
		equal(t, "WayOf found", found, true)
	}
}

// TestLongestWays looks at the two triads of each one that five steps lead to, and no fewer.
func TestLongestWays(t *testing.T) {
	for root := range 12 {
		high, low := 2*root, 2*root+1
		word, _ := impl.WayOf(high, 2*round(12, root+10)+1)
		equal(t, "the longest way", word, "LPRPR")
		word, _ = impl.WayOf(low, 2*round(12, root+2))
		equal(t, "the longest way from a low one", word, "LPRPR")
	}
	often := 0
	for a := range 24 {
		for b := range 24 {
			word, _ := impl.WayOf(a, b)
			if len(word) > 5 || strings.Trim(word, "LPR") != "" {
				t.Errorf("WayOf(%d, %d) = %q", a, b, word)
			}
			if len(word) == 5 {
				often++
			}
		}
	}
	equal(t, "ways of five steps", often, 24)
}

func TestTriadsInExamples(t *testing.T) {
	same(t, "major", impl.TriadsIn(major), []int{0, 5, 9, 10, 14, 19})
	same(t, "one triad", impl.TriadsIn(setWith(0, 4, 7)), []int{0})
	same(t, "one low triad", impl.TriadsIn(setWith(11, 2, 6)), []int{23})
	same(t, "two triads", impl.TriadsIn(setWith(0, 4, 7, 9)), []int{0, 19})
	same(t, "two tones", impl.TriadsIn(setWith(0, 7)), nil)
	same(t, "no triad", impl.TriadsIn(wholeTones), nil)
	same(t, "no tones", impl.TriadsIn(0), nil)
	var all []int
	for triad := range 24 {
		all = append(all, triad)
	}
	same(t, "all tones", impl.TriadsIn(4095), all)
}
