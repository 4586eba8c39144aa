package tests

import (
	"strings"
	"testing"

	"loop.example/tonesincircles/impl"
)

// badTriads are numbers that are no triad.
func badTriads() []int {
	return append(hugeNumbers(), -1, -2, -24, 24, 25, 47, 48)
}

// longWords are words of steps only, but of too many.
func longWords() []string {
	return []string{"PPPPPPPPP", "LRLRLRLRL", "LPRLPRLPRL", strings.Repeat("R", 24), strings.Repeat("PL", 5000)}
}

// strangeWords have a letter that is no step. The low byte of \u0150 and \u014c is that of P
// and L, and \xff is no letter at all.
func strangeWords() []string {
	return []string{
		"X", "p", "l", "r", "M", "O", "Q", "S", "K", "0", " ", "\x00", "\n", "\xff", "\u0150", "\u014c", "\uff30", "\ufffd",
		"XP", "PX", "P ", " P", "PLx", "P\x00", "PL\xff", "L,R", "P\u0150", "XPPPPPPP", "PPPPPPPX", "PPPPPPPPX", "XPPPPPPPP",
	}
}

// badWords are all words that are no text of steps.
func badWords() []string {
	return append(longWords(), strangeWords()...)
}

func TestNumbersThatAreNoTriad(t *testing.T) {
	for _, bad := range badTriads() {
		equal(t, "ValidTriad", impl.ValidTriad(bad), false)
		equal(t, "TriadSet", impl.TriadSet(bad), -1)
		for _, word := range append(badWords(), "", "P", "L", "R", "PL", "LRLRLRLR") {
			equal(t, "WalkOf by "+word, impl.WalkOf(bad, word), -1)
			same(t, "RoundOf "+word, impl.RoundOf(bad, word), nil)
		}
		for _, by := range append(badShifts(), 0, 1, -1, 12, -24, impl.MaxShift, -impl.MaxShift) {
			equal(t, "ShiftTriad", impl.ShiftTriad(bad, by), -1)
			equal(t, "TurnTriad", impl.TurnTriad(bad, by), -1)
		}
	}
}

func TestWaysOfNumbersThatAreNoTriad(t *testing.T) {
	noWay := func(a, b int) {
		word, found := impl.WayOf(a, b)
		if word != "" || found {
			t.Errorf("WayOf(%d, %d) = %q, %t", a, b, word, found)
		}
	}
	for _, bad := range badTriads() {
		noWay(bad, bad)
		noWay(bad, -1)
		for triad := range 24 {
			noWay(triad, bad)
			noWay(bad, triad)
		}
	}
}

func TestSetsThatAreNoTriads(t *testing.T) {
	noTriad := func(set int) {
		if triad, found := impl.TriadOf(set); triad != 0 || found {
			t.Errorf("TriadOf(%d) = %d, %t", set, triad, found)
		}
	}
	// -1 is TriadSet of no triad.
	for _, set := range append(hugeNumbers(), -1, 4096, -4096, 4096+setWith(0, 4, 7), 4096+setWith(2, 6, 11)) {
		noTriad(set)
	}
	for _, tones := range [][]int{{}, {0}, {0, 7}, {0, 4, 8}, {0, 3, 6}, {0, 4, 6}, {0, 4, 7, 10}, {0, 3, 4, 7}} {
		noTriad(setWith(tones...))
	}
	noTriad(4095)
}

func TestWordsThatAreNoSteps(t *testing.T) {
	for triad := range 24 {
		for _, word := range badWords() {
			equal(t, "WalkOf by "+word, impl.WalkOf(triad, word), -1)
			same(t, "RoundOf "+word, impl.RoundOf(triad, word), nil)
		}
	}
}

func TestShiftsOfTriadsThatAreTooGreat(t *testing.T) {
	for triad := range 24 {
		for _, by := range badShifts() {
			equal(t, "ShiftTriad", impl.ShiftTriad(triad, by), -1)
			equal(t, "TurnTriad", impl.TurnTriad(triad, by), -1)
		}
	}
}

func TestTriadsInNumbersThatAreNoSet(t *testing.T) {
	for _, set := range append(hugeNumbers(), -1, -4096, 4096, 4097, 8191, 4096+setWith(0, 4, 7), 1<<40-1) {
		same(t, "TriadsIn", impl.TriadsIn(set), nil)
	}
}
