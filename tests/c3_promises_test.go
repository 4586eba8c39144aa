package tests

import (
	"slices"
	"testing"

	"loop.example/tonesincircles/impl"
)

// tonesOfTriad returns the tones of a triad, the root first, then the third and the fifth.
func tonesOfTriad(triad int) []int {
	root, third := triad/2, 4
	if triad%2 == 1 {
		third = 3
	}
	return []int{root, round(12, root+third), round(12, root+7)}
}

// keptTones returns the two tones of a triad that a step keeps.
func keptTones(triad int, letter rune) []int {
	tones, low := tonesOfTriad(triad), triad%2 == 1
	switch {
	case letter == 'P':
		return []int{tones[0], tones[2]}
	case letter == 'L' && low, letter == 'R' && !low:
		return tones[:2]
	}
	return tones[1:]
}

// holds reports whether all of some tones are among others.
func holds(tones, some []int) bool {
	for _, x := range some {
		if !slices.Contains(tones, x) {
			return false
		}
	}
	return true
}

// stepFrom looks for the only other triad that has the tones that a step keeps.
func stepFrom(triad int, letter rune) int {
	kept := keptTones(triad, letter)
	return slices.IndexFunc(allTriads(), func(other int) bool {
		return other != triad && holds(tonesOfTriad(other), kept)
	})
}

// allTriads returns the triads, ascending.
func allTriads() []int {
	var out []int
	for triad := range 24 {
		out = append(out, triad)
	}
	return out
}

// eachWord calls a function for all words that begin with one that leads to a triad, and
// that have so many letters more at most, with the triads to which they lead.
func eachWord(word string, at int, more int, do func(word string, at int)) {
	do(word, at)
	if more == 0 {
		return
	}
	for _, letter := range "LPR" {
		eachWord(word+string(letter), stepFrom(at, letter), more-1, do)
	}
}

// wordsOf returns all words of so many letters, in the alphabet's order.
func wordsOf(letters int) []string {
	var out []string
	eachWord("", 0, letters, func(word string, _ int) {
		if len(word) == letters {
			out = append(out, word)
		}
	})
	return out
}

// someWords are short words of all kinds, and some of the longest ones.
func someWords() []string {
	out := []string{"LRLRLRLR", "PLRPLRPL", "PRPRPRPR", "LLPPRRLP", "PPPPPPPP", "RRPLPRLL"}
	for letters := range 5 {
		out = append(out, wordsOf(letters)...)
	}
	return out
}

// eachTriadAndShift calls a function for all triads and all numbers by which they are shifted.
func eachTriadAndShift(t *testing.T, do func(triad, by int)) {
	for triad := range 24 {
		for by := -impl.MaxShift; by <= impl.MaxShift && !t.Failed(); by++ {
			do(triad, by)
		}
	}
}

func TestPromise20TriadsHaveThreeTones(t *testing.T) {
	for triad := -100; triad < 200; triad++ {
		set := impl.TriadSet(triad)
		if triad < 0 || triad > 23 {
			equal(t, "TriadSet of no triad", set, -1)
			continue
		}
		equal(t, "TriadSet", set, setWith(tonesOfTriad(triad)...))
		equal(t, "tones of TriadSet", len(impl.TonesOf(12, set)), 3)
	}
}

func TestPromise21TriadsAreReadBack(t *testing.T) {
	for triad := range 24 {
		back, found := impl.TriadOf(impl.TriadSet(triad))
		equal(t, "TriadOf TriadSet", back, triad)
		equal(t, "TriadOf TriadSet found", found, true)
	}
}

func TestPromise22TonesOfTriadsAreReadBack(t *testing.T) {
	triads := 0
	for set := -5; set < 2*4096; set++ {
		triad, found := impl.TriadOf(set)
		want := slices.IndexFunc(allTriads(), func(triad int) bool {
			return setWith(tonesOfTriad(triad)...) == set
		})
		if want == -1 {
			if triad != 0 || found {
				t.Errorf("TriadOf(%d) = %d, %t", set, triad, found)
			}
			continue
		}
		equal(t, "TriadOf", triad, want)
		equal(t, "TriadOf found", found, true)
		equal(t, "TriadSet TriadOf", impl.TriadSet(triad), set)
		triads++
	}
	equal(t, "sets that are triads", triads, 24)
}

func TestPromise23EachStepKeepsTwoTones(t *testing.T) {
	for triad := range 24 {
		for _, step := range []string{"P", "L", "R"} {
			next := impl.WalkOf(triad, step)
			both := impl.TriadSet(triad) & impl.TriadSet(next)
			equal(t, "tones that are left", len(tonesIn(both)), 2)
			equal(t, "the same step back", impl.WalkOf(next, step), triad)
			equal(t, "the same step twice", impl.WalkOf(triad, step+step), triad)
		}
	}
}

func TestPromise23StepsInTwoPartsAreSteps(t *testing.T) {
	for triad := range 24 {
		eachWord("", triad, impl.MaxWord, func(word string, want int) {
			if got := impl.WalkOf(triad, word); got != want {
				t.Fatalf("WalkOf(%d, %q) = %d, want %d", triad, word, got, want)
			}
			for cut := range len(word) + 1 {
				if got := impl.WalkOf(impl.WalkOf(triad, word[:cut]), word[cut:]); got != want {
					t.Fatalf("WalkOf(%d, %q) and then %q = %d, want %d", triad, word[:cut], word[cut:], got, want)
				}
			}
		})
	}
}

func TestPromise24ShiftsGoWithSteps(t *testing.T) {
	words := someWords()
	eachTriadAndShift(t, func(triad, by int) {
		got := impl.ShiftTriad(triad, by)
		equal(t, "ShiftTriad", got, 2*round(12, triad/2+by)+triad%2)
		equal(t, "TriadSet ShiftTriad", impl.TriadSet(got), impl.ShiftSet(12, impl.TriadSet(triad), by))
		for _, word := range words {
			equal(t, "WalkOf ShiftTriad by "+word, impl.WalkOf(got, word), impl.ShiftTriad(impl.WalkOf(triad, word), by))
		}
	})
}

func TestPromise25TurnsGoWithSteps(t *testing.T) {
	words := someWords()
	eachTriadAndShift(t, func(triad, by int) {
		got := impl.TurnTriad(triad, by)
		equal(t, "TriadSet TurnTriad", impl.TriadSet(got), turned(12, setWith(tonesOfTriad(triad)...), by))
		equal(t, "low ones and others", got%2, 1-triad%2)
		for _, word := range words {
			equal(t, "WalkOf TurnTriad by "+word, impl.WalkOf(got, word), impl.TurnTriad(impl.WalkOf(triad, word), by))
		}
	})
}

// roundFrom returns the triads that are passed until all steps of a word lead to the first one.
func roundFrom(triad int, word string) []int {
	out := []int{triad}
	for {
		for _, letter := range word {
			out = append(out, stepFrom(out[len(out)-1], letter))
		}
		if last := len(out) - 1; out[last] == triad {
			return out[:last]
		}
	}
}

func TestPromise26RoundsClose(t *testing.T) {
	for triad := range 24 {
		for _, word := range someWords() {
			if word == "" {
				continue
			}
			got := impl.RoundOf(triad, word)
			same(t, "RoundOf "+word, got, roundFrom(triad, word))
			for i, at := range got {
				next := got[(i+1)%len(got)]
				equal(t, "a step of "+word, impl.WalkOf(at, word[i%len(word):i%len(word)+1]), next)
			}
		}
	}
}

func TestPromise26RoundsOfTwoStepsAreSoLong(t *testing.T) {
	for word, want := range map[string]int{"PL": 6, "LP": 6, "PR": 8, "RP": 8, "LR": 24, "RL": 24} {
		for triad := range 24 {
			passed := impl.RoundOf(triad, word)
			equal(t, "triads of RoundOf "+word, len(passed), want)
			slices.Sort(passed)
			equal(t, "different triads of RoundOf "+word, len(slices.Compact(passed)), want)
		}
	}
}

// firstWays returns the first word that leads from one triad to each one, of all words with
// the shorter ones first, and those that are as long in the alphabet's order.
func firstWays(from int) map[int]string {
	ways := map[int]string{}
	for letters := 0; len(ways) < 24; letters++ {
		for _, word := range wordsOf(letters) {
			to := from
			for _, letter := range word {
				to = stepFrom(to, letter)
			}
			if _, known := ways[to]; !known {
				ways[to] = word
			}
		}
	}
	return ways
}

func TestPromise27WaysAreShortest(t *testing.T) {
	for a := range 24 {
		want := firstWays(a)
		for b := range 24 {
			word, found := impl.WayOf(a, b)
			equal(t, "WayOf", word, want[b])
			equal(t, "WayOf found", found, true)
			equal(t, "WalkOf WayOf", impl.WalkOf(a, word), b)
			back, _ := impl.WayOf(b, a)
			equal(t, "steps of the way back", len(back), len(word))
		}
	}
}

func TestPromise28TriadsInASetAreShiftedWithIt(t *testing.T) {
	for set := 0; set < 4096 && !t.Failed(); set++ {
		var want []int
		for triad := range 24 {
			if holds(tonesIn(set), tonesOfTriad(triad)) {
				want = append(want, triad)
			}
		}
		got := impl.TriadsIn(set)
		same(t, "TriadsIn", got, want)
		for _, triad := range got {
			equal(t, "tones of a triad in the set", impl.TriadSet(triad)&set, impl.TriadSet(triad))
		}
		for by := range 12 {
			equal(t, "triads in a shifted set", len(impl.TriadsIn(impl.ShiftSet(12, set, by))), len(got))
		}
	}
}
