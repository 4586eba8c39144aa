package tests

import (
	"math/bits"
	"slices"
	"strconv"
	"strings"
	"testing"

	"loop.example/tonesincircles/impl"
)

// setWords are the words that ask about the tones of a set.
var setWords = []string{"prime", "gaps", "triads", "even", "tiles"}

// answers checks the answer to a line, alone and between others.
func answers(t *testing.T, line, want string) {
	t.Helper()
	equal(t, strconv.Quote(line), impl.RunDesk([]string{line}), want+"\n")
	equal(t, strconv.Quote(line)+" between others", impl.RunDesk([]string{"way 0-1", line, "even 0"}), "P\n"+want+"\nyes\n")
}

// joinedNumbers writes numbers with commas between them.
func joinedNumbers(numbers []int) string {
	out := ""
	for i, number := range numbers {
		if i > 0 {
			out += ","
		}
		out += strconv.Itoa(number)
	}
	return out
}

func TestDeskExamples(t *testing.T) {
	answers(t, "prime 2,6,9", "0,3,7")
	answers(t, "prime 11", "0")
	answers(t, "prime 0,2,4,5,7,9,11", "0,1,3,5,6,8,10")
	answers(t, "gaps 0,4,7", "0,0,1,1,1,0")
	answers(t, "gaps 3", "0,0,0,0,0,0")
	answers(t, "gaps 0,2,4,5,7,9,11", "2,5,4,3,6,1")
	answers(t, "triads 0,3,4,7", "0,1")
	answers(t, "triads 0,4,9", "19")
	answers(t, "triads 0,1,2", "")
	answers(t, "triads 5", "")
	answers(t, "even 0,2,4,5,7,9,11", "yes")
	answers(t, "even 0,1,2", "no")
	answers(t, "even 10", "yes")
	answers(t, "tiles 0,6", "32")
	answers(t, "tiles 7", "1")
	answers(t, "tiles 0,1,2,3,4", "0")
	answers(t, "tiles 0,1,2,3,4,5,6,7,8,9,10,11", "1")
	answers(t, "way 0-17", "LPL")
	answers(t, "way 0-0", "")
	answers(t, "way 23-22", "P")
	answers(t, "way 0-10", "RL")
	answers(t, "way 10-0", "LR")
}

func TestDeskTakesTonesInEachOrder(t *testing.T) {
	for _, tones := range []string{"0,4,7", "0,7,4", "4,0,7", "4,7,0", "7,0,4", "7,4,0"} {
		answers(t, "prime "+tones, "0,3,7")
		answers(t, "gaps "+tones, "0,0,1,1,1,0")
		answers(t, "triads "+tones, "0")
		answers(t, "even "+tones, "no")
		answers(t, "tiles "+tones, "0")
	}
	answers(t, "even 11,10,9,8,7,6,5,4,3,2,1,0", "yes")
}

// TestDeskTellsAllSets asks with each word about each set of at least one tone.
func TestDeskTellsAllSets(t *testing.T) {
	for set := 1; set <= allOf(12) && !t.Failed(); set++ {
		tones := joinedNumbers(tonesIn(set))
		even := "no"
		if impl.IsEven(12, set) {
			even = "yes"
		}
		want := joinedNumbers(tonesIn(impl.PrimeOf(12, set))) + "\n" +
			joinedNumbers(impl.GapsOf(12, set)) + "\n" +
			joinedNumbers(impl.TriadsIn(set)) + "\n" +
			even + "\n" +
			strconv.Itoa(len(impl.TilesOf(12, set))) + "\n"
		var lines []string
		for _, word := range setWords {
			lines = append(lines, word+" "+tones)
		}
		equal(t, "answers to "+tones, impl.RunDesk(lines), want)
	}
}

func TestDeskTellsAllWays(t *testing.T) {
	for a := range 24 {
		for b := range 24 {
			way, _ := impl.WayOf(a, b)
			answers(t, "way "+strconv.Itoa(a)+"-"+strconv.Itoa(b), way)
		}
	}
}

// wrongTones are texts without spaces that do not tell tones of a circle of 12.
func wrongTones() []string {
	return []string{
		"", ",", ",,", "0,", ",0", "0,,4", "0,4,7,", ",0,4,7", "x", "0x", "x0", "0,x", "P", "yes",
		"0,0", "4,7,4", "11,11", "0,1,2,3,4,5,6,7,8,9,10,11,0", "12", "0,12", "12,0", "13", "24", "100", "0,4,71",
		"00", "01", "007", "0,04", "010", "+0", "+4", "0,+4", "-0", "-1", "0,-1", "-4", "--1", "0-4", "0-17",
		"0x1", "1e0", "1.0", "1_1", "1_0", "0;4", "0.4", "0\t", "\t0", "0,\t4", "0\n", "\n", "0\r", "0,4\n", "\x00", "0\x00", "\xff",
		"\u0660", "\uff10", "0\u00a04", "0\u20034", "(0)", "{0,4}", "0,4,7;", "\"0\"", "0/4",
		"4294967296", "18446744073709551616", "9223372036854775808", "-9223372036854775808", "99999999999999999999",
		"0,18446744073709551620", strings.Repeat("0", 100), strings.Repeat("0,", 5000) + "0", strings.Repeat(",", 5000),
	}
}

func TestDeskOfWrongTones(t *testing.T) {
	for _, text := range wrongTones() {
		for _, word := range setWords {
			answers(t, word+" "+text, "wrong")
		}
	}
}

func TestDeskOfWrongTriads(t *testing.T) {
	for _, text := range []string{
		"", "-", "--", "0", "3", "0-", "-0", "-0-1", "0-1-", "0--1", "0-1-2", "0-0-0", "1-24", "24-1", "24-24", "0-25", "0-100",
		"0,1", "0-1,2", "0+1", "+0-1", "0-+1", "00-1", "0-01", "0-001", "-1-2", "1--2", "--1", "x-1", "1-x", "P", "LPL", "P-L",
		"0\u20131", "0\u22121", "0_1", "0-1\n", "0\t-1", "0-\t1", "\n", "0x1-2", "1e1-2", "0-1_1", "0/1",
		"4294967296-1", "0-4294967296", "18446744073709551616-0", "0-18446744073709551617", strings.Repeat("-", 5000),
	} {
		answers(t, "way "+text, "wrong")
	}
}

func TestDeskOfOtherLines(t *testing.T) {
	for _, line := range []string{
		"", " ", "  ", "\n", "help", "walk 1", "walk ", "primes 0", "prim 0", "Prime 0", "PRIME 0", "prime0", "prime,0", "prime\t0",
		"gap 0", "triad 0,4,7", "evens 0", "tile 0", "ways 0-1", "Way 0-1", "way0-1", "0,4,7", "0-17", "0", " 0",
		"prime: 0", "prime=0", "\u00a0prime 0", "prime\u00a00", "what", "wrong", "wrong 0", "what 0", "yes", "LPL",
	} {
		answers(t, line, "what")
	}
}

func TestDeskOfSpacesAtOddPlaces(t *testing.T) {
	for _, word := range append([]string{"way"}, setWords...) {
		text := "0,4,7"
		if word == "way" {
			text = "0-17"
		}
		answers(t, word, "what")
		answers(t, word+" ", "wrong")
		for _, line := range []string{
			word + "  ", " " + word, " " + word + " ", " " + word + " " + text, word + "  " + text, word + " " + text + " ",
			word + text, text + " " + word, word + " " + text + " " + text, word + " x y", word + " x ", word + "  x",
			word + " 0 ,4", word + " 0, 4", word + " 0 -1", word + " 0- 1", word + " 0 - 1", word + " " + word + " " + text,
		} {
			answers(t, line, "what")
		}
	}
}

// manyLines returns so many lines, each with an answer of its own kind or none.
func manyLines(count int) []string {
	kinds := []string{
		"prime 2,6,9", "way 0-17", "gaps 0,0", "", "triads 0,1", "even 0,3", "tiles 0,6", "help", "way 5-5", "way 24-0", "gaps 1,2", "even ", "a\nb",
	}
	var lines []string
	for i := range count {
		lines = append(lines, kinds[i%len(kinds)])
	}
	return lines
}

func TestDeskOfTooManyLines(t *testing.T) {
	equal(t, "no lines", impl.RunDesk(nil), "")
	equal(t, "an empty list of lines", impl.RunDesk([]string{}), "")
	equal(t, "empty lines up to the limit", impl.RunDesk(make([]string, impl.MaxDesk)), strings.Repeat("what\n", impl.MaxDesk))
	equal(t, "lines up to the limit", strings.Count(impl.RunDesk(manyLines(impl.MaxDesk)), "\n"), impl.MaxDesk)
	for _, count := range []int{impl.MaxDesk + 1, impl.MaxDesk + 2, 1000} {
		equal(t, "too many lines", impl.RunDesk(manyLines(count)), "")
		equal(t, "too many empty lines", impl.RunDesk(make([]string, count)), "")
	}
}

func TestPromise50EachLineHasAnAnswer(t *testing.T) {
	for count := range impl.MaxDesk + 1 {
		lines := manyLines(count)
		all := impl.RunDesk(lines)
		equal(t, "number of answers", strings.Count(all, "\n"), count)
		together := ""
		for first := range count {
			some := impl.RunDesk(lines[:first])
			equal(t, "answers to the first lines", some, together)
			if !strings.HasPrefix(all, some) {
				t.Errorf("the answers to %d lines do not begin with those to %d", count, first)
			}
			together += impl.RunDesk(lines[first : first+1])
		}
		equal(t, "all answers", all, together)
	}
}

func TestDeskLeavesItsLines(t *testing.T) {
	lines := manyLines(impl.MaxDesk)
	want := slices.Clone(lines)
	impl.RunDesk(lines)
	if !slices.Equal(lines, want) {
		t.Errorf("lines were changed to %q", lines)
	}
}

// TestDeskOfTextsPutTogether tries all short texts of few letters behind each word, and finds
// by trying all sets and pairs of triads which of them are right.
func TestDeskOfTextsPutTogether(t *testing.T) {
	rightTones, rightWays := map[string]bool{}, map[string]bool{}
	for set := 1; set <= allOf(12); set++ {
		if bits.OnesCount(uint(set)) <= 2 {
			tones := tonesIn(set)
			rightTones[joinedNumbers(tones)] = true
			slices.Reverse(tones)
			rightTones[joinedNumbers(tones)] = true
		}
	}
	for a := range 24 {
		for b := range 24 {
			rightWays[strconv.Itoa(a)+"-"+strconv.Itoa(b)] = true
		}
	}
	texts := []string{""}
	for range 4 {
		for _, text := range texts {
			for _, letter := range []string{"0", "1", "2", "9", ",", "-", "+"} {
				texts = append(texts, text+letter)
			}
		}
	}
	slices.Sort(texts)
	for _, text := range slices.Compact(texts) {
		evenIsWrong := impl.RunDesk([]string{"even " + text}) == "wrong\n"
		wayIsWrong := impl.RunDesk([]string{"way " + text}) == "wrong\n"
		equal(t, "whether wrong: even "+text, evenIsWrong, !rightTones[text])
		equal(t, "whether wrong: way "+text, wayIsWrong, !rightWays[text])
	}
}
