package tests

import (
	"math"
	"math/big"
	"slices"
	"strings"
	"testing"

	"loop.example/oneletter/impl"
)

const (
	// solveSigns are more numbers than tell whether one of many sets here solves two small ones.
	solveSigns = 900
	// solveMost is the greatest number that SolveHas is asked about, and SolveTwo.
	solveMost = 500
)

// roundsOf puts in what has to be in a set, from no number on, until nothing comes in any more.
func roundsOf(round func(set *big.Int) *big.Int) *big.Int {
	set := new(big.Int)
	for {
		more := round(set)
		if more.Cmp(set) == 0 {
			return set
		}
		set = more
	}
}

// knownLeast keeps what leastOf found.
var knownLeast = map[[2]string]*big.Int{}

// leastOf returns the numbers less than solveSigns of the least set that solves two sets.
func leastOf(s string, t string) *big.Int {
	key := [2]string{s, t}
	if knownLeast[key] == nil {
		a, b := numbersUpTo(s, solveSigns), bigOf(t, solveSigns)
		knownLeast[key] = roundsOf(func(set *big.Int) *big.Int { return withSums(b, a, set) })
	}
	return knownLeast[key]
}

// withSums returns the numbers less than solveSigns of a set, and of the sums of a number of a list and one of another set.
func withSums(first *big.Int, list []int, second *big.Int) *big.Int {
	out := new(big.Int).Set(first)
	for _, n := range list {
		out.Or(out, new(big.Int).Lsh(second, uint(n)))
	}
	return out.And(out, allNumbers())
}

// allNumbers returns all numbers less than solveSigns.
func allNumbers() *big.Int {
	one := big.NewInt(1)
	return new(big.Int).Sub(new(big.Int).Lsh(one, solveSigns), one)
}

// leastWanted returns the tidy text of the least set that solves two small sets, and true, if neither it nor the star is too long.
func leastWanted(s string, t string) (string, bool) {
	star, fits := starWanted(s)
	if !fits || !isSmall(star) {
		return "", false
	}
	return textOfBig(leastOf(s, t), solveSigns)
}

// hasZero reports whether 0 is in a set.
func hasZero(s string) bool {
	return unroll(s, 1)[:1] == "1"
}

// mostWanted returns the tidy text of the greatest set that solves two small sets, and true, if it may be told.
func mostWanted(s string, t string) (string, bool) {
	if hasZero(s) {
		return "(1)", true
	}
	return leastWanted(s, t)
}

// oneWanted reports whether just one set solves two small sets.
func oneWanted(s string, t string) bool {
	return !hasZero(s) || leastOf(s, t).Cmp(allNumbers()) == 0
}

// solves reports whether a small set has just the numbers of t and all sums of a number of s and one of its own.
func solves(s string, t string, x string) bool {
	set := bigOf(x, solveSigns)
	return isSmall(x) && withSums(bigOf(t, solveSigns), numbersUpTo(s, solveSigns), set).Cmp(set) == 0
}

// solveExample is two small sets with the least and the greatest set that solves them, each empty if it may not be told, and whether there is just one.
type solveExample struct {
	s, t, least, most string
	one               bool
}

// solveExamples are small sets of all kinds: first ones with 0 and without it, with just 0, and with no number, with second ones that leave all numbers, and others.
func solveExamples() []solveExample {
	return []solveExample{
		{"001(0)", "1(0)", "(10)", "(10)", true}, {"001(0)", "01(0)", "(01)", "(01)", true}, {"001(0)", "11(0)", "(1)", "(1)", true}, {"01(0)", "1(0)", "(1)", "(1)", true}, {"01(0)", "0001(0)", "000(1)", "000(1)", true}, {"0001010(0)", "1(0)", "10010110(1)", "10010110(1)", true},
		{longer("001(0)"), longer("1(0)"), "(10)", "(10)", true}, {"(01)", "1(0)", "(1)", "(1)", true}, {"0(1)", "01(0)", "0(1)", "0(1)", true}, {"0(01)", "01(0)", "(01)", "(01)", true}, {"0(01)", "(100)", "10(1)", "10(1)", true}, {"01(0)", "(1)", "(1)", "(1)", true},
		// No number is in the first set.
		{"(0)", "0011(0)", "0011(0)", "0011(0)", true}, {"(0)", "(01)", "(01)", "(01)", true}, {"000(00)", "0101(01)", "(01)", "(01)", true}, {"(0)", "1(0)", "1(0)", "1(0)", true}, {"(0)", "(1)", "(1)", "(1)", true}, {"(0)", "(0)", "(0)", "(0)", true}, {longer("(0)"), "00000001(00000001)", "(00000001)", "(00000001)", true}, {"(0)", "00000000(10000001)", "00000000(10000001)", "00000000(10000001)", true},
		// Just 0 is in it.
		{"1(0)", "01(0)", "01(0)", "(1)", false}, {"1(0)", "1(0)", "1(0)", "(1)", false}, {"1(0)", "(0)", "(0)", "(1)", false}, {"1(0)", "(1)", "(1)", "(1)", true}, {"100(00)", "0(1)", "0(1)", "(1)", false}, {"1(0)", "111(11)", "(1)", "(1)", true}, {"1(0)", "11111111(11111110)", "11111111(11111110)", "(1)", false}, {"1(0)", "11111111(0)", "11111111(0)", "(1)", false}, {"1(0)", "11111110(1)", "11111110(1)", "(1)", false},
		// 0 and others are in it.
		{"11(0)", "1(0)", "(1)", "(1)", true}, {"11(0)", "01(0)", "0(1)", "(1)", false}, {"11(0)", "11(0)", "(1)", "(1)", true}, {"101(0)", "1(0)", "(10)", "(1)", false}, {"101(0)", "01(0)", "(01)", "(1)", false}, {"101(0)", "11(0)", "(1)", "(1)", true}, {"101(0)", "1001(0)", "10(1)", "(1)", false}, {"1001(0)", "111(0)", "(1)", "(1)", true}, {"1001(0)", "11(0)", "(110)", "(1)", false}, {"1001(0)", "(01)", "010(1)", "(1)", false},
		{"(1)", "1(0)", "(1)", "(1)", true}, {"(1)", "01(0)", "0(1)", "(1)", false}, {"(1)", "00000001(0)", "0000000(1)", "(1)", false}, {"(10)", "1(0)", "(10)", "(1)", false}, {"(10)", "11(0)", "(1)", "(1)", true}, {"(10)", "(01)", "(01)", "(1)", false}, {longer("101(0)"), longer("11(0)"), "(1)", "(1)", true}, {longer("101(0)"), longer("1(0)"), "(10)", "(1)", false}, {longer("(1)"), longer("(1)"), "(1)", "(1)", true},
		// No number is in the second set.
		{"01(0)", "(0)", "(0)", "(0)", true}, {"(01)", "000(00)", "(0)", "(0)", true}, {"11(0)", "(0)", "(0)", "(1)", false}, {"(1)", "(0)", "(0)", "(1)", false}, {"(10000000)", "(0)", "(0)", "(1)", false}, {"(00000001)", "(0)", "", "", true},
		// Parts of 8 signs.
		{"00000001(0)", "1(0)", "(1000000)", "(1000000)", true}, {"10000001(0)", "1(0)", "(1000000)", "(1)", false}, {"10000001(0)", "1111111(0)", "(1)", "(1)", true}, {"10000001(0)", "1111110(0)", "(1111110)", "(1)", false}, {"10000001(0)", "0111111(1)", "0(1)", "(1)", false}, {"(10000000)", "1(0)", "(10000000)", "(1)", false}, {"(10000000)", "11111111(0)", "(1)", "(1)", true}, {"(10000000)", "11111110(0)", "(11111110)", "(1)", false}, {"(10000000)", "(11111110)", "(11111110)", "(1)", false}, {"(10000000)", "01111111(10000000)", "0(1)", "(1)", false}, {"00000000(1)", "11111111(0)", "(1)", "(1)", true}, {"10000000(1)", "11111111(0)", "(1)", "(1)", true}, {"10000000(1)", "01111111(0)", "011111110(1)", "(1)", false}, {"10000000(1)", "11111110(0)", "11111110(1)", "(1)", false},
		// The least number greater than 0 is 15, the greatest one that it may be.
		{"00000000(00000001)", "(1)", "", "", true}, {"10000000(00000001)", "(1)", "", "(1)", true}, {"10000000(00000001)", "1(0)", "", "(1)", false}, {"10000000(00000001)", "11111111(11111110)", "", "(1)", true}, {"10000000(00000001)", "11111111(11111101)", "", "(1)", false}, {"10000000(00000001)", "01111111(1)", "", "(1)", false},
		// Stars of a tail of 8 signs, and of 9, 12, and more than 60.
		{"00100000(01)", "1(0)", "10101010(1)", "10101010(1)", true}, {"00010000(0111)", "1(0)", "", "", true}, {"10010000(0111)", "1(0)", "", "(1)", false}, {"10010000(0111)", "111(0)", "", "(1)", true}, {"00010001(0)", "1(0)", "", "", true}, {"10010001(0)", "1(0)", "", "(1)", false}, {"10010001(0)", "111(0)", "", "(1)", true}, {"10010001(0)", "(1)", "", "(1)", true}, {"10010001(0)", "(0)", "", "(1)", false}, {"00010001(0)", "(0)", "", "", true}, {"00(00000001)", "1(0)", "", "", true}, {"10(00000001)", "1(0)", "", "(1)", false}, {"10(00000001)", "(1)", "", "(1)", true},
		// A star of a tail of 8 signs with a sum that is too long.
		{"00000000(0000001)", "1(0)", "10000000(0000001)", "10000000(0000001)", true}, {"00000000(0000001)", "00000000(00000001)", "", "", true}, {"10000000(0000001)", "00000000(00000001)", "", "(1)", false},
	}
}

// equations are pairs of small sets of all kinds.
func equations() [][2]string {
	var out [][2]string
	for _, texts := range [][]string{smallTexts(2, 2), smallSets()} {
		for i, s := range texts {
			for k, t := range texts {
				if i%7 == k%7 || len(s) < 6 && len(t) < 6 {
					out = append(out, [2]string{s, t})
				}
			}
		}
	}
	// Second sets that leave few numbers out, or none.
	for _, s := range smallSets() {
		out = append(out, [2]string{s, "(1)"}, [2]string{s, "11111111(0)"}, [2]string{s, "11111110(1)"}, [2]string{s, "11111111(11111110)"})
	}
	for _, c := range solveExamples() {
		out = append(out, [2]string{c.s, c.t})
	}
	return out
}

// checkNoEquations checks what is asked of two sets of which one, or both, are none, or not small.
func checkNoEquations(t *testing.T, name string, fails func(s string, t string) bool) {
	t.Helper()
	for _, bad := range badTexts() {
		for _, other := range []string{"(0)", "1(0)", "(1)", "01(0)", "11(0)", "00000001(00000001)", bad, ""} {
			if !fails(bad, other) || !fails(other, bad) {
				t.Errorf("%s of %q and %q does not fail", name, bad, other)
			}
		}
	}
}

func TestP70Least(t *testing.T) {
	made, failed := 0, 0
	for _, e := range equations() {
		want, fits := leastWanted(e[0], e[1])
		text, ok := impl.SolveLeast(e[0], e[1])
		if ok != fits || text != want {
			t.Fatalf("SolveLeast%q is %q %v, not %q %v", e, text, ok, want, fits)
		}
		if !ok {
			failed++
			continue
		}
		made++
		if !impl.SetBelow(e[1], text) {
			t.Fatalf("SolveLeast%q is %q, without some of the second set", e, text)
		}
		if most, okMost := impl.SolveMost(e[0], e[1]); !okMost || !impl.SetBelow(text, most) {
			t.Fatalf("SolveLeast%q is %q, SolveMost %q %v", e, text, most, okMost)
		}
		if impl.SolveIs(e[0], e[1], text) != isSmall(text) {
			t.Fatalf("SolveLeast%q is %q, of which SolveIs tells %v", e, text, !isSmall(text))
		}
	}
	if made < 1000 || failed < 300 {
		t.Errorf("just %d were made, and %d failed", made, failed)
	}
}

func TestP70LeastExamples(t *testing.T) {
	for _, c := range solveExamples() {
		if text, ok := impl.SolveLeast(c.s, c.t); ok != (c.least != "") || text != c.least {
			t.Errorf("SolveLeast(%q, %q) is %q %v, not %q", c.s, c.t, text, ok, c.least)
		}
	}
	checkNoEquations(t, "SolveLeast", func(s string, t string) bool {
		text, ok := impl.SolveLeast(s, t)
		return !ok && text == ""
	})
}

// TestP70LeastLengths checks the examples of stars and results that are as long as they may be, and just longer.
func TestP70LeastLengths(t *testing.T) {
	for _, c := range []struct {
		s          string
		tail, ring int
	}{
		{"00100000(01)", 8, 1}, {"0001010(0)", 8, 1}, {"10010110(1)", 8, 1}, {"(10000000)", 0, 8}, {"0(00000001)", 0, 8}, {"00000000(0000001)", 8, 7}, {"00010000(0111)", 9, 1}, {"10010000(0111)", 9, 1}, {"00010001(0)", 12, 1},
	} {
		star, _ := impl.StarOf(c.s)
		if tail, ring, ok := impl.SetSizes(star); !ok || tail != c.tail || ring != c.ring {
			t.Errorf("the star of %q is %q", c.s, star)
		}
		text, ok := impl.SolveLeast(c.s, "1(0)")
		if ok != (c.tail <= 8 && c.ring <= 8) || ok && text != star {
			t.Errorf("SolveLeast(%q, 0) is %q %v, and the star %q", c.s, text, ok, star)
		}
	}
	long := 0
	for _, s := range []string{"0(0000001)", "00000000(0000001)", "10000000(0000001)", "(10000000)"} {
		for _, e := range smallSets() {
			want, fits := textOfBig(leastOf(s, e), solveSigns)
			if text, ok := impl.SolveLeast(s, e); ok != fits || text != want {
				t.Errorf("SolveLeast(%q, %q) is %q %v, not %q %v", s, e, text, ok, want, fits)
			}
			if !fits {
				long++
			}
		}
	}
	if long < 2 {
		t.Errorf("just %d results of small stars were too long", long)
	}
}

// thirdSets are sets that may solve two small sets: the least set and what must be in it with some more numbers, with one sign changed, and others.
func thirdSets(s string, t string) []string {
	out := []string{"(0)", "(1)", "0(1)", "1(0)", s, t}
	for _, more := range []string{"(0)", "1(0)", "01(0)", "0001(0)", "(01)", "00000001(0)", "(00100)", "00000000(00000001)"} {
		either := new(big.Int).Or(bigOf(t, solveSigns), bigOf(more, solveSigns))
		set := roundsOf(func(set *big.Int) *big.Int { return withSums(either, numbersUpTo(s, solveSigns), set) })
		text, ok := textOfBig(set, solveSigns)
		if !ok {
			continue
		}
		out = append(out, text)
		for i, sign := range text {
			if more == "(0)" && sign != '(' && sign != ')' && len(text) < 20 {
				out = append(out, text[:i]+flip(text[i])+text[i+1:])
			}
		}
	}
	return out
}

// tidyTexts returns all tidy set texts whose tails and rings have at most these numbers of signs.
func tidyTexts(tail int, ring int) []string {
	return slices.DeleteFunc(smallTexts(tail, ring), func(s string) bool { return tidyByTryingTable(s) != s })
}

func TestP71Is(t *testing.T) {
	held, not, between := 0, 0, 0
	for i, e := range equations() {
		if i%3 > 0 {
			continue
		}
		least, okLeast := impl.SolveLeast(e[0], e[1])
		most, okMost := impl.SolveMost(e[0], e[1])
		for _, x := range thirdSets(e[0], e[1]) {
			want := solves(e[0], e[1], x)
			if impl.SolveIs(e[0], e[1], x) != want {
				t.Fatalf("SolveIs%q of %q is not %v", e, x, want)
			}
			if !want {
				not++
				continue
			}
			held++
			if okLeast && !impl.SetBelow(least, x) || okMost && !impl.SetBelow(x, most) {
				t.Fatalf("SolveIs%q holds of %q, SolveLeast is %q %v and SolveMost %q %v", e, x, least, okLeast, most, okMost)
			}
			if !impl.SetSame(x, least) && !impl.SetSame(x, most) {
				between++
			}
		}
	}
	if held < 1000 || not < 5000 || between < 300 {
		t.Errorf("of the sets %d solved, %d of them between the least and the greatest one, and %d did not", held, between, not)
	}
}

// TestP71IsAll goes through all small texts of few signs, so that none is left out by the way in which others are found.
func TestP71IsAll(t *testing.T) {
	texts := tidyTexts(2, 2)
	for _, s := range texts {
		for _, e := range texts {
			for _, x := range texts {
				if want := solves(s, e, x); impl.SolveIs(s, e, x) != want {
					t.Fatalf("SolveIs(%q, %q, %q) is not %v", s, e, x, want)
				}
			}
		}
	}
}

func TestP71IsExamples(t *testing.T) {
	for _, c := range []struct {
		s, t, x string
		want    bool
	}{
		{"001(0)", "1(0)", "(10)", true}, {"001(0)", "1(0)", "1010(10)", true}, {"001(0)", "1(0)", longer("(10)"), true}, {longer("001(0)"), longer("1(0)"), "(10)", true}, {"001(0)", "1(0)", "(1)", false}, {"001(0)", "1(0)", "(01)", false}, {"001(0)", "1(0)", "1(0)", false}, {"001(0)", "1(0)", "101(0)", false}, {"001(0)", "1(0)", "1011(10)", false}, {"001(0)", "1(0)", "(0)", false},
		{"(0)", "01(0)", "01(0)", true}, {"(0)", "01(0)", "011(0)", false}, {"(0)", "01(0)", "(0)", false}, {"(0)", "01(0)", "(1)", false}, {"(0)", "(0)", "(0)", true}, {"(0)", "(0)", "000(00)", true}, {"(0)", "(0)", "1(0)", false}, {"(0)", "(1)", "(1)", true},
		// With just 0 in the first set each set solves that has all of the second one.
		{"1(0)", "01(0)", "01(0)", true}, {"1(0)", "01(0)", "011(0)", true}, {"1(0)", "01(0)", "11(0)", true}, {"1(0)", "01(0)", "(01)", true}, {"1(0)", "01(0)", "(1)", true}, {"1(0)", "01(0)", "1(0)", false}, {"1(0)", "01(0)", "(10)", false}, {"1(0)", "01(0)", "(0)", false}, {"1(0)", "(0)", "(0)", true}, {"1(0)", "(0)", "00000001(00000010)", true}, {"1(0)", "(1)", "(1)", true}, {"1(0)", "(1)", "0(1)", false},
		// With 0 and others in it some sets between the least one and all numbers solve.
		{"101(0)", "1(0)", "(10)", true}, {"101(0)", "1(0)", "(1)", true}, {"101(0)", "1(0)", "11(1)", true}, {"101(0)", "1(0)", "10(1)", true}, {"101(0)", "1(0)", "1010(1)", true}, {"101(0)", "1(0)", "101010(1)", true}, {"101(0)", "1(0)", "1011(10)", false}, {"101(0)", "1(0)", "11(10)", false}, {"101(0)", "1(0)", "0(1)", false}, {"101(0)", "1(0)", "1(0)", false}, {"101(0)", "1(0)", "(0)", false},
		{"101(0)", "(0)", "(0)", true}, {"101(0)", "(0)", "(01)", true}, {"101(0)", "(0)", "(10)", true}, {"101(0)", "(0)", "0000000(10)", true}, {"101(0)", "(0)", "(100)", false}, {"1001(0)", "1(0)", "(110)", true}, {"1001(0)", "1(0)", "(100)", true}, {"1001(0)", "01(0)", "01(001)", true}, {"1001(0)", "01(0)", "01(010)", false}, {"11(0)", "01(0)", "0(1)", true}, {"11(0)", "01(0)", "(1)", true}, {"11(0)", "01(0)", "00(1)", false}, {"(1)", "00001(0)", "000(1)", true}, {"(1)", "00001(0)", "00000(1)", false}, {"(10)", "1(0)", "10101(1)", true},
		// Parts of 8 signs, and of 9.
		{"(10000000)", "(10000000)", "(10000000)", true}, {"(10000000)", "(10000000)", "(11000000)", true}, {"(10000000)", "(10000000)", "(1)", true}, {"0(00000001)", "1(0)", "(10000000)", true}, {"0(00000001)", "1(0)", "(11000000)", false}, {"10000000(1)", "1(0)", "10000000(1)", true}, {"10000000(1)", "1(0)", "10000001(1)", true}, {"00000000(1)", "1(0)", "10000000(1)", true}, {"00000000(1)", "1(0)", "10000001(1)", false}, {"00010000(0111)", "1(0)", "100100100(1)", false}, {"10010000(0111)", "1(0)", "100100100(1)", false}, {"10010000(0111)", "1(0)", "10010010(1)", true}, {"10010000(0111)", "1(0)", "(1)", true}, {"1(0)", "(0)", "000000001(0)", false}, {"1(0)", "(0)", "(000000001)", false}, {"1(0)", "(0)", "00000001(0)", true}, {"1(0)", "(0)", "(00000001)", true},
		// The sum of the first and the third set is too long.
		{"00000001(00000010)", "(0)", "0000000(0000001)", false}, {"00000000(00000001)", "(1)", "00000000(0000001)", false}, {"10000000(00000001)", "(0)", "00000000(0000001)", false}, {"00000001(00000010)", "0000000(0000001)", "0000000(0000001)", false},
		// The least set is not told.
		{"10000000(00000001)", "1(0)", "(1)", true}, {"10000000(00000001)", "1(0)", "1000000(1)", true}, {"10000000(00000001)", "1(0)", "10000000(00000001)", false}, {"00010001(0)", "1(0)", "(1)", false},
	} {
		if impl.SolveIs(c.s, c.t, c.x) != c.want || solves(c.s, c.t, c.x) != c.want {
			t.Errorf("SolveIs(%q, %q, %q) is not %v, or the test takes it for other", c.s, c.t, c.x, c.want)
		}
	}
}

func TestP71IsFails(t *testing.T) {
	checkNoEquations(t, "SolveIs", func(s string, t string) bool {
		for _, x := range []string{"(0)", "1(0)", "(1)", s, t, ""} {
			if impl.SolveIs(s, t, x) {
				return false
			}
		}
		return true
	})
	for _, bad := range badTexts() {
		for _, e := range [][2]string{{"(0)", "(0)"}, {"1(0)", "(0)"}, {"1(0)", "1(0)"}, {"(1)", "(1)"}, {"(0)", "(1)"}, {"11(0)", "(0)"}, {"01(0)", "(0)"}} {
			if impl.SolveIs(e[0], e[1], bad) {
				t.Errorf("SolveIs%q holds of %q", e, bad)
			}
		}
	}
}

// noSolveNumbers are numbers that SolveHas is not asked about, and SolveTwo neither.
func noSolveNumbers() []int {
	return []int{-1, -2, -500, -501, 501, 502, 510, 512, 1000, 2000, 1 << 32, math.MaxInt, math.MinInt, math.MinInt + 1}
}

func TestP72Has(t *testing.T) {
	made, failed := 0, 0
	for i, e := range equations() {
		text, ok := impl.SolveLeast(e[0], e[1])
		if ok {
			made++
		} else {
			failed++
		}
		for n := range solveMost + 1 {
			if i%29 > 0 && 24 < n && n < 498 && n%37 > 0 {
				continue
			}
			is := impl.SolveHas(e[0], e[1], n)
			if is != (leastOf(e[0], e[1]).Bit(n) == 1) || ok && is != impl.SetHas(text, n) {
				t.Fatalf("SolveHas%q of %d is %v, SolveLeast %q %v", e, n, is, text, ok)
			}
		}
		for _, n := range noSolveNumbers() {
			if impl.SolveHas(e[0], e[1], n) {
				t.Fatalf("SolveHas%q of %d holds", e, n)
			}
		}
	}
	if made < 1000 || failed < 300 {
		t.Errorf("just %d were made, and %d failed", made, failed)
	}
}

func TestP72HasExamples(t *testing.T) {
	for _, c := range []struct {
		s, t string
		n    int
		want bool
	}{
		{"001(0)", "1(0)", 0, true}, {"001(0)", "1(0)", 1, false}, {"001(0)", "1(0)", 500, true}, {"001(0)", "1(0)", 499, false}, {"001(0)", "1(0)", 502, false}, {"(1)", "(1)", 0, true}, {"(1)", "(1)", 500, true}, {"(1)", "(1)", 501, false}, {"(1)", "(1)", -1, false}, {"1(0)", "(1)", 501, false}, {"(0)", "(1)", -1, false},
		{"1(0)", "01(0)", 0, false}, {"1(0)", "01(0)", 1, true}, {"1(0)", "01(0)", 2, false}, {"1(0)", "01(0)", 500, false}, {"1(0)", "(0)", 0, false}, {"1(0)", "(0)", 500, false}, {"(1)", "(0)", 0, false}, {"(1)", "(0)", 500, false}, {"(1)", "00000001(0)", 6, false}, {"(1)", "00000001(0)", 7, true}, {"101(0)", "1(0)", 1, false}, {"101(0)", "1(0)", 3, false}, {"101(0)", "1(0)", 4, true}, {"(0)", "1(0)", 0, true}, {"(0)", "1(0)", 500, false}, {"(0)", "(0)", 0, false}, {"01(0)", "1(0)", 500, true},
		// Here SolveLeast fails.
		{"00010001(0)", "1(0)", 0, true}, {"00010001(0)", "1(0)", 11, false}, {"00010001(0)", "1(0)", 12, true}, {"10010001(0)", "1(0)", 11, false}, {"10010001(0)", "1(0)", 500, true}, {"10010001(0)", "1(0)", 501, false}, {"10010001(0)", "1(0)", -1, false}, {"00000000(00000001)", "1(0)", 0, true}, {"00000000(00000001)", "1(0)", 15, true}, {"00000000(00000001)", "1(0)", 112, false}, {"00000000(00000001)", "1(0)", 113, true}, {"10000000(00000001)", "1(0)", 112, false}, {"10000000(00000001)", "1(0)", 500, true}, {"10000000(00000001)", "1(0)", 501, false}, {"10000000(00000001)", "1(0)", -1, false}, {"10000000(00000001)", "01(0)", 0, false}, {"10000000(00000001)", "01(0)", 113, false}, {"10000000(00000001)", "(0)", 0, false}, {"10000000(00000001)", "(0)", 500, false}, {"00000000(0000001)", "00000000(00000001)", 70, false}, {"00000000(0000001)", "00000000(00000001)", 71, true}, {"00000000(0000001)", "00000000(00000001)", 63, true}, {"00000000(0000001)", "00000000(00000001)", 0, false}, {"00000000(0000001)", "00000000(00000001)", 500, true}, {"00000000(0000001)", "00000000(00000001)", 501, false},
	} {
		if impl.SolveHas(c.s, c.t, c.n) != c.want {
			t.Errorf("SolveHas(%q, %q, %d) is not %v", c.s, c.t, c.n, c.want)
		}
	}
	checkNoEquations(t, "SolveHas", func(s string, t string) bool {
		for _, n := range []int{-1, 0, 1, 8, 9, 60, 500, 501} {
			if impl.SolveHas(s, t, n) {
				return false
			}
		}
		return true
	})
}

func TestP73Most(t *testing.T) {
	all, others, failed := 0, 0, 0
	for _, e := range equations() {
		want, fits := mostWanted(e[0], e[1])
		text, ok := impl.SolveMost(e[0], e[1])
		if ok != fits || text != want {
			t.Fatalf("SolveMost%q is %q %v, not %q %v", e, text, ok, want, fits)
		}
		if least, okLeast := impl.SolveLeast(e[0], e[1]); !hasZero(e[0]) && (text != least || ok != okLeast) {
			t.Fatalf("SolveMost%q is %q %v, SolveLeast %q %v", e, text, ok, least, okLeast)
		}
		if ok && isSmall(text) && !impl.SolveIs(e[0], e[1], text) {
			t.Fatalf("SolveMost%q is %q, of which SolveIs does not hold", e, text)
		}
		switch {
		case !ok:
			failed++
		case text == "(1)":
			all++
		default:
			others++
		}
	}
	if all < 500 || others < 300 || failed < 100 {
		t.Errorf("just %d were all numbers, %d were others, and %d failed", all, others, failed)
	}
}

func TestP73MostExamples(t *testing.T) {
	for _, c := range solveExamples() {
		if text, ok := impl.SolveMost(c.s, c.t); ok != (c.most != "") || text != c.most {
			t.Errorf("SolveMost(%q, %q) is %q %v, not %q", c.s, c.t, text, ok, c.most)
		}
	}
	checkNoEquations(t, "SolveMost", func(s string, t string) bool {
		text, ok := impl.SolveMost(s, t)
		return !ok && text == ""
	})
}

func TestP74One(t *testing.T) {
	counts := map[[3]bool]int{}
	for _, e := range equations() {
		want := oneWanted(e[0], e[1])
		if impl.SolveOne(e[0], e[1]) != want {
			t.Fatalf("SolveOne%q is not %v", e, want)
		}
		least, okLeast := impl.SolveLeast(e[0], e[1])
		most, okMost := impl.SolveMost(e[0], e[1])
		counts[[3]bool{want, hasZero(e[0]), okLeast}]++
		if okLeast && okMost && (least == most) != want {
			t.Fatalf("SolveOne%q is %v, SolveLeast %q and SolveMost %q", e, want, least, most)
		}
	}
	// Without 0 there is always just one.
	for _, kind := range [][3]bool{{true, true, true}, {true, true, false}, {false, true, true}, {false, true, false}, {true, false, true}, {true, false, false}} {
		if counts[kind] < 20 {
			t.Errorf("just %d were so: one, 0 in the first set, and a least set: %v", counts[kind], kind)
		}
	}
}

// TestP74OneBySets counts sets that solve among all texts of few signs.
func TestP74OneBySets(t *testing.T) {
	texts, thirds := tidyTexts(1, 2), tidyTexts(4, 2)
	for _, s := range texts {
		for _, e := range texts {
			solved := 0
			for _, x := range thirds {
				if solves(s, e, x) {
					solved++
				}
			}
			if one := impl.SolveOne(s, e); one && solved > 1 || !one && solved < 2 {
				t.Fatalf("SolveOne(%q, %q) is %v, but %d sets solve", s, e, one, solved)
			}
		}
	}
}

func TestP74OneExamples(t *testing.T) {
	for _, c := range solveExamples() {
		if impl.SolveOne(c.s, c.t) != c.one || oneWanted(c.s, c.t) != c.one {
			t.Errorf("SolveOne(%q, %q) is not %v, or the test takes it for other", c.s, c.t, c.one)
		}
	}
	// Of the numbers that must come from the second set, just one is left out.
	for size := 1; size <= 7; size++ {
		first := "1" + strings.Repeat("0", size-1) + "1(0)"
		for left := -1; left < size; left++ {
			second := strings.Repeat("1", size) + "(0)"
			if left >= 0 {
				second = second[:left] + "0" + second[left+1:]
			}
			if impl.SolveOne(first, second) != (left < 0) {
				t.Errorf("SolveOne(%q, %q) is not %v", first, second, left < 0)
			}
		}
	}
	for left := range 16 {
		second := strings.Repeat("1", left) + "0" + strings.Repeat("1", 15-left)
		for _, first := range []string{"1(0)", "10000000(00000001)"} {
			// What is left out but not less than 15 comes from a sum with 15.
			want := first != "1(0)" && left == 15
			if impl.SolveOne(first, second[:8]+"("+second[8:]+")") != want {
				t.Errorf("SolveOne(%q, %q) is not %v", first, second, want)
			}
		}
	}
	checkNoEquations(t, "SolveOne", func(s string, t string) bool { return !impl.SolveOne(s, t) })
}

// leastOfTwo returns the numbers less than solveSigns of the least set X with its Y, both found together.
func leastOfTwo(s string, t string) *big.Int {
	a, b, y := numbersUpTo(s, solveSigns), bigOf(t, solveSigns), new(big.Int)
	return roundsOf(func(x *big.Int) *big.Int {
		y = new(big.Int).Or(y, new(big.Int).Lsh(x, 1))
		return withSums(b, a, y)
	})
}

// countBits returns how many numbers less than n a set has.
func countBits(set *big.Int, n int) int {
	many := 0
	for i := range n {
		many += int(set.Bit(i))
	}
	return many
}

func TestP75Two(t *testing.T) {
	for i, e := range equations() {
		x := leastOfTwo(e[0], e[1])
		before := 0
		for n := range solveMost + 1 {
			if i%29 > 0 && 3 < n && n < 499 && n%71 > 1 {
				continue
			}
			many, ok := impl.SolveTwo(e[0], e[1], n)
			if !ok || many != countBits(x, n) {
				t.Fatalf("SolveTwo%q of %d is %d %v, not %d", e, n, many, ok, countBits(x, n))
			}
			if second, _ := impl.SetCount(e[1], n); many < second || many > n {
				t.Fatalf("SolveTwo%q of %d is %d, and the second set has %d", e, n, many, second)
			}
			if i%29 == 0 && (many < before || many > before+1) {
				t.Fatalf("SolveTwo%q of %d is %d, and of one less %d", e, n, many, before)
			}
			before = many
		}
	}
}

func TestP75TwoExamples(t *testing.T) {
	for _, c := range []struct {
		s, t    string
		n, want int
	}{
		{"001(0)", "1(0)", 0, 0}, {"001(0)", "1(0)", 1, 1}, {"001(0)", "1(0)", 3, 1}, {"001(0)", "1(0)", 4, 2}, {"001(0)", "1(0)", 500, 167}, {"01(0)", "1(0)", 500, 250}, {"01(0)", "1(0)", 499, 250}, {"01(0)", "11(0)", 500, 500}, {"01(0)", "001(0)", 500, 249},
		// With 0 in the first set X has with each number the next one.
		{"1(0)", "1(0)", 0, 0}, {"1(0)", "1(0)", 1, 1}, {"1(0)", "1(0)", 2, 2}, {"1(0)", "1(0)", 500, 500}, {"1(0)", "01(0)", 0, 0}, {"1(0)", "01(0)", 1, 0}, {"1(0)", "01(0)", 2, 1}, {"1(0)", "01(0)", 500, 499}, {"1(0)", "00000001(0)", 500, 493}, {"1(0)", "(0)", 500, 0}, {"1(0)", "(1)", 500, 500}, {"11(0)", "01(0)", 500, 499}, {"(1)", "001(0)", 500, 498}, {"(1)", "(0)", 500, 0}, {"(10)", "0001(0)", 500, 497}, {"101(0)", "1(0)", 1, 1}, {"101(0)", "(0)", 1, 0},
		{"(0)", "0011(0)", 500, 2}, {"(0)", "0011(0)", 3, 1}, {"(0)", "0011(0)", 2, 0}, {"(0)", "(01)", 500, 250}, {"(0)", "(0)", 500, 0}, {"(0)", "(1)", 500, 500}, {"000(00)", "(1)", 1, 1}, {"(01)", "1(0)", 500, 250}, {"(01)", "(0)", 500, 0}, {"0(01)", "1(0)", 500, 497}, {"0(01)", "1(0)", 5, 2}, {"0(01)", "1(0)", 6, 3}, {"0(1)", "1(0)", 500, 499}, {"0(1)", "1(0)", 2, 1}, {"0(1)", "1(0)", 3, 2},
		{"00000001(0)", "1(0)", 500, 63}, {"00000001(0)", "1(0)", 8, 1}, {"00000001(0)", "1(0)", 9, 2}, {"00000000(00000001)", "1(0)", 17, 2}, {"00000000(00000001)", "1(0)", 500, 62}, {"10000000(00000001)", "1(0)", 500, 500}, {longer("001(0)"), longer("1(0)"), 500, 167}, {longer("1(0)"), longer("01(0)"), 500, 499},
	} {
		if many, ok := impl.SolveTwo(c.s, c.t, c.n); !ok || many != c.want {
			t.Errorf("SolveTwo(%q, %q, %d) is %d %v, not %d", c.s, c.t, c.n, many, ok, c.want)
		}
		for _, n := range noSolveNumbers() {
			if many, ok := impl.SolveTwo(c.s, c.t, n); ok || many != 0 {
				t.Errorf("SolveTwo(%q, %q, %d) is %d %v", c.s, c.t, n, many, ok)
			}
		}
	}
	checkNoEquations(t, "SolveTwo", func(s string, t string) bool {
		for _, n := range []int{-1, 0, 1, 8, 60, 500, 501} {
			if many, ok := impl.SolveTwo(s, t, n); ok || many != 0 {
				return false
			}
		}
		return true
	})
}
