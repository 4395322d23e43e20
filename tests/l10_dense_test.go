package tests

import (
	"math"
	"slices"
	"strings"
	"testing"

	"loop.example/oneletter/impl"
)

const (
	// farOut is a number behind all tails, which begins no round of most rings.
	farOut = 1237
	// farSpan is how many numbers have all that comes again by rings of 60, once or more often, in one piece.
	farSpan = 200
	// countMost is the greatest number that DenseCount is asked about.
	countMost = 1000
)

// ringOf returns the signs in the brackets.
func ringOf(s string) string {
	return s[strings.Index(s, "(")+1 : len(s)-1]
}

// signsFarOut returns so many signs of a set from farOut on.
func signsFarOut(s string, size int) string {
	return unroll(s, farOut+size)[farOut : farOut+size]
}

// denseTexts are set texts of all kinds, many of which are not tidy.
func denseTexts() []string {
	out := append(append(smallTexts(0, 9), smallTexts(3, 4)...), longTexts()...)
	return append(append(out, edgeTexts()...), allShares()...)
}

// allShares are texts whose rings have each number of signs, and each number of ones among them.
func allShares() []string {
	var out []string
	for ring := 1; ring <= 60; ring++ {
		for ones := range ring + 1 {
			out = append(out, "("+ones60[:ones]+zeros60[:ring-ones]+")")
		}
	}
	return out
}

// otherTexts returns texts of sets that are the same far out: another tail, the ring begun at another sign, and rounds of it more than once.
func otherTexts(s string) []string {
	ring := ringOf(s)
	half := len(ring) / 2
	out := []string{"(" + ring + ")", "0(" + ring + ")", "1(" + ring + ")", zeros60 + "(" + ring + ")", ones60 + "(" + ring + ")"}
	out = append(out, "("+ring[half:]+ring[:half]+")", "("+ring[1:]+ring[:1]+")", "("+ring[len(ring)-1:]+ring[:len(ring)-1]+")")
	for _, times := range []int{2, 3, 60 / len(ring)} {
		if times*len(ring) <= 60 {
			out = append(out, "("+strings.Repeat(ring, times)+")", "10("+strings.Repeat(ring, times)+")")
		}
	}
	return out
}

// lowestByTrying returns a fraction with the least lower part that it may have.
func lowestByTrying(upper int, lower int) (int, int) {
	least := 1
	for upper*least%lower != 0 {
		least++
	}
	return upper * least / lower, least
}

func TestP85Of(t *testing.T) {
	for _, s := range denseTexts() {
		for _, round := range []int{len(ringOf(s)), len(ringOf(tidyByTryingTable(s))), 7 * len(ringOf(s))} {
			ones := strings.Count(signsFarOut(s, round), "1")
			wantUpper, wantLower := lowestByTrying(ones, round)
			if upper, lower, ok := impl.DenseOf(s); !ok || upper != wantUpper || lower != wantLower {
				t.Fatalf("DenseOf(%q) is %d %d %v, not %d %d", s, upper, lower, ok, wantUpper, wantLower)
			}
		}
	}
}

func TestP85OfByList(t *testing.T) {
	for _, s := range append(smallTexts(2, 5), edgeTexts()...) {
		_, ring, _ := impl.SetSizes(s)
		from, _ := impl.SetCount(s, 100)
		to, _ := impl.SetCount(s, 100+ring)
		upper, lower, ok := impl.DenseOf(s)
		if !ok || upper*ring != (to-from)*lower {
			t.Fatalf("DenseOf(%q) is %d %d %v, but %d of %d are in the set", s, upper, lower, ok, to-from, ring)
		}
		for divisor := 2; divisor <= lower; divisor++ {
			if upper%divisor == 0 && lower%divisor == 0 {
				t.Fatalf("DenseOf(%q) is %d %d, not in lowest terms", s, upper, lower)
			}
		}
	}
}

// denseExample is the density of a set.
type denseExample struct {
	s            string
	upper, lower int
}

func TestP85Examples(t *testing.T) {
	last := zeros60[1:] + "1"
	for _, c := range []denseExample{
		{"(0)", 0, 1}, {"000(00)", 0, 1}, {"1(0)", 0, 1}, {"111(000)", 0, 1}, {ones60 + "(" + zeros60 + ")", 0, 1}, {last + "(0)", 0, 1}, {zeros60 + "(" + zeros60 + ")", 0, 1},
		{"(1)", 1, 1}, {"11(111)", 1, 1}, {"0(1)", 1, 1}, {"000(111)", 1, 1}, {"01(11)", 1, 1}, {zeros60 + "(" + ones60 + ")", 1, 1}, {ones60 + "(" + ones60 + ")", 1, 1},
		{"11(001)", 1, 3}, {"(01)", 1, 2}, {"(10)", 1, 2}, {"0101(01)", 1, 2}, {"(0101)", 1, 2}, {"11(0101)", 1, 2}, {"(0011)", 1, 2}, {"(000111)", 1, 2}, {"(0110)", 1, 2},
		{"(011011)", 2, 3}, {"(001001)", 1, 3}, {"(001010)", 1, 3}, {"(001111)", 2, 3}, {"(110000)", 1, 3}, {"(0001)", 1, 4}, {"(1110)", 3, 4}, {"(01010)", 2, 5}, {"0000(11101)", 4, 5}, {"(00100111)", 1, 2}, {"(11011111)", 7, 8},
		{"(" + last + ")", 1, 60}, {"(" + ones60[1:] + "0)", 59, 60}, {"(" + lateRing + ")", 1, 59}, {"(" + ones60[2:] + "0)", 58, 59}, {zeros60 + "(" + last + ")", 1, 60}, {ones60 + "(" + lateRing + ")", 1, 59},
		{"(" + ones60[:30] + zeros60[:30] + ")", 1, 2}, {"(" + ones60[:36] + zeros60[:24] + ")", 3, 5}, {"(" + ones60[:42] + zeros60[:18] + ")", 7, 10}, {"(" + ones60[:40] + zeros60[:20] + ")", 2, 3}, {"(" + ones60[:7] + zeros60[:49] + ")", 1, 8}, {"(" + strings.Repeat("01", 30) + ")", 1, 2}, {"(" + strings.Repeat("00111", 12) + ")", 3, 5},
	} {
		for _, s := range append(otherTexts(c.s), c.s) {
			if upper, lower, ok := impl.DenseOf(s); !ok || upper != c.upper || lower != c.lower {
				t.Errorf("DenseOf(%q) is %d %d %v, not %d %d", s, upper, lower, ok, c.upper, c.lower)
			}
		}
	}
	for _, s := range noTexts() {
		if upper, lower, ok := impl.DenseOf(s); ok || upper != 0 || lower != 0 {
			t.Errorf("DenseOf(%q) is %d %d %v", s, upper, lower, ok)
		}
	}
}

func TestP85OfOther(t *testing.T) {
	for _, s := range denseTexts() {
		other, _ := impl.MakeOther(s)
		upper, lower, ok := impl.DenseOf(s)
		rest, lowerOther, okOther := impl.DenseOf(other)
		if !ok || !okOther || lower != lowerOther || upper+rest != lower {
			t.Fatalf("DenseOf(%q) is %d %d %v, and of the others %d %d %v", s, upper, lower, ok, rest, lowerOther, okOther)
		}
	}
}

// checkLess checks DenseLess for all pairs of some texts, by how many numbers of a common round are in each set.
func checkLess(t *testing.T, texts []string) {
	t.Helper()
	less, same := 0, 0
	for _, a := range texts {
		for _, b := range texts {
			round := len(ringOf(a)) * len(ringOf(b))
			first := strings.Count(signsFarOut(a, round), "1")
			second := strings.Count(signsFarOut(b, round), "1")
			is, back := impl.DenseLess(a, b), impl.DenseLess(b, a)
			if is != (first < second) || is && back {
				t.Fatalf("DenseLess(%q, %q) is %v, and turned round %v; of %d numbers %d and %d are in the sets", a, b, is, back, round, first, second)
			}
			aUpper, aLower, _ := impl.DenseOf(a)
			bUpper, bLower, _ := impl.DenseOf(b)
			if is != (aUpper*bLower < bUpper*aLower) || !is && !back && (aUpper != bUpper || aLower != bLower) {
				t.Fatalf("DenseLess(%q, %q) is %v, and turned round %v, but the fractions are %d %d and %d %d", a, b, is, back, aUpper, aLower, bUpper, bLower)
			}
			if is {
				less++
			}
			if !is && !back && len(ringOf(a)) != len(ringOf(b)) {
				same++
			}
		}
	}
	if less == 0 || same == 0 {
		t.Errorf("%d pairs were less, and %d the same by unlike rings", less, same)
	}
}

func TestP86Less(t *testing.T) {
	checkLess(t, smallTexts(2, 4))
	checkLess(t, append(longTexts(), edgeTexts()...))
	var near []string
	for _, s := range allShares() {
		if ring := len(ringOf(s)); ring == 1 || ring == 2 || ring == 29 || ring == 30 || ring >= 58 {
			near = append(near, s)
		}
	}
	checkLess(t, near)
}

func TestP86Examples(t *testing.T) {
	last := zeros60[1:] + "1"
	for _, c := range []struct {
		s, t       string
		is, turned bool
	}{
		{"(0)", "(0)", false, false}, {"(0)", "1(0)", false, false}, {"(0)", ones60 + "(00)", false, false}, {"1(0)", "0(1)", true, false}, {"(1)", "(1)", false, false}, {"(1)", "0(1)", false, false}, {"(11)", zeros60 + "(111)", false, false},
		{"(0)", "(1)", true, false}, {ones60 + "(0)", zeros60 + "(1)", true, false}, {ones60 + "(0)", zeros60 + "(" + last + ")", true, false}, {"(" + ones60[1:] + "0)", zeros60 + "(1)", true, false},
		{"(01)", "(10)", false, false}, {"(01)", "(0101)", false, false}, {"(01)", "(0011)", false, false}, {"(01)", "(000111)", false, false}, {"(01)", "(" + ones60[:30] + zeros60[:30] + ")", false, false}, {"(001)", "(001010)", false, false}, {"(0011)", "(010110)", false, false}, {"(011)", "111(" + ones60[:40] + zeros60[:20] + ")", false, false},
		{"(001)", "(01)", true, false}, {"(01)", "(011)", true, false}, {"(0011)", "(011)", true, false}, {"(00011)", "(01)", true, false}, {"(000111)", "(011)", true, false}, {"(010)", "(0110)", true, false}, {"(001111)", "(1110)", true, false}, {"(" + last + ")", "(" + lateRing + ")", true, false}, {"(" + ones60[2:] + "0)", "(" + ones60[1:] + "0)", true, false},
		{"(" + ones60[:29] + zeros60[:30] + ")", "(01)", true, false}, {"(01)", "(" + ones60[:30] + zeros60[:29] + ")", true, false}, {"(" + ones60[:29] + zeros60[:30] + ")", "(" + ones60[:30] + zeros60[:30] + ")", true, false}, {"(" + ones60[:20] + zeros60[:40] + ")", "(" + ones60[:20] + zeros60[:39] + ")", true, false},
	} {
		for _, s := range append(otherTexts(c.s), c.s) {
			for _, u := range append(otherTexts(c.t), c.t) {
				if is, turned := impl.DenseLess(s, u), impl.DenseLess(u, s); is != c.is || turned != c.turned {
					t.Errorf("DenseLess(%q, %q) is %v, and turned round %v", s, u, is, turned)
				}
			}
		}
	}
	for _, s := range noTexts() {
		for _, o := range append(noTexts(), "(0)", "(1)", "01(10)", "("+last+")") {
			if impl.DenseLess(s, o) || impl.DenseLess(o, s) {
				t.Errorf("DenseLess holds of %q and %q", s, o)
			}
		}
	}
}

// countNumbers are numbers that DenseCount is asked about.
func countNumbers() []int {
	return []int{0, 1, 2, 3, 4, 5, 7, 12, 29, 30, 31, 58, 59, 60, 61, 62, 119, 120, 121, 180, 499, 500, 501, 940, 998, 999, countMost}
}

// noCountNumbers are numbers that DenseCount is not asked about.
func noCountNumbers() []int {
	return []int{-1, -2, -60, -countMost, countMost + 1, countMost + 2, 1060, 2 * countMost, 1 << 32, 1<<32 + 5, math.MinInt, math.MinInt + 1, math.MaxInt, math.MaxInt - 1}
}

func TestP87Count(t *testing.T) {
	added := 0
	for _, s := range append(append(smallTexts(2, 3), longTexts()...), edgeTexts()...) {
		for _, n := range countNumbers() {
			ahead, _ := impl.SetCount(s, n)
			for _, k := range countNumbers() {
				want := strings.Count(signsOf(s)[n:n+k], "1")
				count, ok := impl.DenseCount(s, n, k)
				if !ok || count != want {
					t.Fatalf("DenseCount(%q, %d, %d) is %d %v, not %d", s, n, k, count, ok, want)
				}
				all, ok := impl.SetCount(s, n+k)
				if ok {
					added++
				}
				if ok && all != ahead+count {
					t.Fatalf("DenseCount(%q, %d, %d) is %d, but SetCount goes from %d to %d", s, n, k, count, ahead, all)
				}
			}
		}
	}
	if added < 10000 {
		t.Errorf("just %d were held against SetCount", added)
	}
}

// densePart is how many of the k numbers from n on are in a set.
type densePart struct {
	s          string
	n, k, want int
}

func TestP87CountExamples(t *testing.T) {
	last := zeros60[1:] + "1"
	for _, c := range []densePart{
		{"(1)", 0, 0, 0}, {"(1)", 0, 1, 1}, {"(1)", 1000, 0, 0}, {"(1)", 0, 1000, 1000}, {"(1)", 1000, 1, 1}, {"(1)", 1, 1000, 1000}, {"(1)", 1000, 1000, 1000}, {"(0)", 0, 0, 0}, {"(0)", 0, 1000, 0}, {"000(00)", 1000, 1000, 0},
		{"1(0)", 0, 1, 1}, {"1(0)", 0, 1000, 1}, {"1(0)", 1, 1000, 0}, {"01(0)", 0, 1, 0}, {"01(0)", 0, 2, 1}, {"01(0)", 1, 1, 1}, {"01(0)", 2, 1000, 0}, {last + "(0)", 59, 1, 1}, {last + "(0)", 0, 59, 0}, {last + "(0)", 0, 60, 1}, {last + "(0)", 60, 1000, 0},
		{"11(001)", 0, 2, 2}, {"11(001)", 0, 5, 3}, {"11(001)", 1, 4, 2}, {"11(001)", 1, 3, 1}, {"11(001)", 2, 3, 1}, {"11(001)", 2, 2, 0}, {"11(001)", 3, 3, 1}, {"11(001)", 0, 8, 4}, {"11(001)", 1, 1000, 334}, {"11(001)", 1000, 1000, 334}, {"11(001)", 999, 1000, 333}, {"11(001)", 998, 3, 1}, {"11(001)", 1000, 1, 1}, {"11(001)", 999, 1, 0},
		{"(01)", 0, 1000, 500}, {"(01)", 1, 999, 500}, {"(01)", 0, 999, 499}, {"(01)", 1000, 1, 0}, {"(01)", 1000, 2, 1}, {"(01)", 1000, 1000, 500}, {"0(1)", 0, 1000, 999}, {"0(1)", 0, 1, 0}, {"0(1)", 1, 1, 1}, {ones60 + "(0)", 0, 1000, 60}, {ones60 + "(0)", 30, 1000, 30}, {zeros60 + "(1)", 30, 60, 30}, {zeros60 + "(1)", 0, 60, 0}, {zeros60 + "(1)", 0, 61, 1}, {zeros60 + "(1)", 1000, 1000, 1000},
		{"(" + last + ")", 0, 1000, 16}, {"(" + last + ")", 1000, 1000, 17}, {"(" + last + ")", 59, 1, 1}, {"(" + last + ")", 59, 60, 1}, {"(" + last + ")", 59, 61, 2}, {"(" + last + ")", 60, 59, 0}, {zeros60 + "(" + last + ")", 1, 119, 1}, {zeros60 + "(" + last + ")", 1, 118, 0}, {ones60 + "(" + last + ")", 59, 61, 2},
	} {
		if count, ok := impl.DenseCount(c.s, c.n, c.k); !ok || count != c.want {
			t.Errorf("DenseCount(%q, %d, %d) is %d %v, not %d", c.s, c.n, c.k, count, ok, c.want)
		}
	}
}

func TestP87CountFails(t *testing.T) {
	check := func(s string, n int, k int) {
		t.Helper()
		if count, ok := impl.DenseCount(s, n, k); ok || count != 0 {
			t.Errorf("DenseCount(%q, %d, %d) is %d %v", s, n, k, count, ok)
		}
	}
	for _, s := range []string{"(0)", "(1)", "1(0)", "11(001)", zeros60 + "(1)", ones60 + "(" + ones60 + ")"} {
		for _, bad := range noCountNumbers() {
			for _, n := range append(noCountNumbers(), 0, 1, 2, 60, 999, countMost) {
				check(s, bad, n)
				check(s, n, bad)
			}
		}
	}
	for _, s := range noTexts() {
		for _, n := range []int{-1, 0, 1, 2, 60, countMost, countMost + 1} {
			for _, k := range []int{-1, 0, 1, 2, 60, countMost, countMost + 1} {
				check(s, n, k)
			}
		}
	}
}

// gapByWalking returns the greatest difference of two numbers of a set that follow each other far out, and true, if there are any.
func gapByWalking(s string) (int, bool) {
	most, before := 0, -1
	for n, sign := range signsFarOut(s, farSpan) {
		if sign == '0' {
			continue
		}
		if before >= 0 {
			most = max(most, n-before)
		}
		before = n
	}
	return most, before >= 0
}

// runByWalking returns the greatest number of numbers of a set one behind the other far out, -1 for all.
func runByWalking(s string) int {
	most, run := 0, 0
	for _, sign := range signsFarOut(s, farSpan) {
		if sign == '0' {
			run = 0
			continue
		}
		run++
		most = max(most, run)
	}
	if most == farSpan {
		return -1
	}
	return most
}

func TestP88Gap(t *testing.T) {
	for _, s := range denseTexts() {
		want, has := gapByWalking(s)
		if gap, ok := impl.DenseGap(s); ok != has || gap != want {
			t.Fatalf("DenseGap(%q) is %d %v, not %d %v", s, gap, ok, want, has)
		}
		if impl.SetEnds(s) == has {
			t.Fatalf("SetEnds(%q) is %v", s, has)
		}
	}
}

func TestP88GapBySetFrom(t *testing.T) {
	for _, s := range append(smallTexts(2, 5), edgeTexts()...) {
		gap, ok := impl.DenseGap(s)
		n, has := impl.SetFrom(s, 500)
		if ok != has {
			t.Fatalf("DenseGap(%q) is %d %v, SetFrom of 500 %d %v", s, gap, ok, n, has)
		}
		var steps []int
		for has && n < 900 {
			next, _ := impl.SetFrom(s, n+1)
			steps = append(steps, next-n)
			n = next
		}
		if has && gap != slices.Max(steps) {
			t.Fatalf("DenseGap(%q) is %d, but SetFrom steps by %v", s, gap, steps)
		}
	}
}

func TestP88Examples(t *testing.T) {
	last := zeros60[1:] + "1"
	checkCounts(t, "DenseGap", impl.DenseGap, withOtherTexts([]countExample{
		{"(1)", 1}, {"11(111)", 1}, {"0(1)", 1}, {"01(1)", 1}, {"000(11)", 1}, {zeros60 + "(" + ones60 + ")", 1}, {"1" + zeros60[1:] + "(1)", 1},
		{"11(001)", 3}, {"(001)", 3}, {"(010)", 3}, {"(100)", 3}, {"(001001)", 3}, {"(01)", 2}, {"(10)", 2}, {"0101(01)", 2}, {"100000(01)", 2}, {"(0101)", 2}, {"(011)", 2}, {"(110)", 2}, {"(0011)", 3}, {"(1001)", 3}, {"(0110)", 3},
		{"(01010)", 3}, {"(00100)", 5}, {"(001000100)", 5}, {"(0100010)", 4}, {"(1000010)", 5}, {"(0010100)", 5}, {"(0001010001)", 4}, {"(10100001)", 5}, {"(00010010)", 5}, {"1000000001(01)", 2}, {"(1100000)", 6},
		{"(" + last + ")", 60}, {last + "(" + last + ")", 60}, {zeros60 + "(" + last + ")", 60}, {"(" + lateRing + ")", 59}, {"(" + zeros60[:30] + "1" + zeros60[:29] + ")", 60}, {"(1" + zeros60[:58] + "1)", 59}, {"(" + zeros60[:29] + "11" + zeros60[:29] + ")", 59}, {"(" + ones60[1:] + "0)", 2}, {"(" + zeros60[:20] + "1" + zeros60[:39] + ")", 60},
		{"(" + zeros60[:10] + "1" + zeros60[:15] + "1" + zeros60[:10] + ")", 21}, {"(" + zeros60[:5] + "1" + zeros60[:15] + "1" + zeros60[:5] + ")", 16},
	}))
	for _, c := range []string{"(0)", "(00)", "000(00)", "1(0)", "11(0)", "101(000)", last + "(0)", ones60 + "(0)", ones60 + "(" + zeros60 + ")", zeros60 + "(" + zeros60 + ")"} {
		if gap, ok := impl.DenseGap(c); ok || gap != 0 {
			t.Errorf("DenseGap(%q) is %d %v", c, gap, ok)
		}
	}
}

// withOtherTexts returns examples of which the same is told for other tails, and for rings begun elsewhere and more than once.
func withOtherTexts(examples []countExample) []countExample {
	out := slices.Clone(examples)
	for _, c := range examples {
		for _, s := range otherTexts(c.s) {
			out = append(out, countExample{s, c.want})
		}
	}
	return out
}

func TestP89Run(t *testing.T) {
	for _, s := range denseTexts() {
		want := runByWalking(s)
		run, ok := impl.DenseRun(s)
		if !ok || run != want {
			t.Fatalf("DenseRun(%q) is %d %v, not %d", s, run, ok, want)
		}
		other, _ := impl.MakeOther(s)
		if (run == -1) != impl.SetEnds(other) || (run == 0) != impl.SetEnds(s) {
			t.Fatalf("DenseRun(%q) is %d; SetEnds is %v, and of the others %v", s, run, impl.SetEnds(s), impl.SetEnds(other))
		}
	}
}

func TestP89RunFarOut(t *testing.T) {
	for _, s := range append(smallTexts(2, 5), edgeTexts()...) {
		run, _ := impl.DenseRun(s)
		// Rows of one number more than the run must not come, even far out; rows of as many must.
		found := false
		for n := 1000000; n < 1000000+farSpan; n++ {
			size := 0
			for size < farSpan && impl.SetHas(s, n+size) {
				size++
			}
			found = found || size == run || size == farSpan && run == -1
			if run >= 0 && size > run || run == -1 && size < farSpan {
				t.Fatalf("DenseRun(%q) is %d, but from %d on there are %d", s, run, n, size)
			}
		}
		if !found {
			t.Fatalf("DenseRun(%q) is %d, but there are none so far out", s, run)
		}
	}
}

func TestP89Examples(t *testing.T) {
	last := zeros60[1:] + "1"
	checkCounts(t, "DenseRun", impl.DenseRun, withOtherTexts([]countExample{
		{"(1)", -1}, {"11(111)", -1}, {"0(1)", -1}, {"01(1)", -1}, {"000(11)", -1}, {zeros60 + "(" + ones60 + ")", -1}, {ones60 + "(" + ones60 + ")", -1},
		{"(0)", 0}, {"000(00)", 0}, {"1(0)", 0}, {"111(00)", 0}, {last + "(0)", 0}, {ones60 + "(" + zeros60 + ")", 0}, {zeros60 + "(" + zeros60 + ")", 0},
		{"11(001)", 1}, {"(001)", 1}, {"(01)", 1}, {"1111(01)", 1}, {"(0101)", 1}, {"(011)", 2}, {"(101)", 2}, {"(110)", 2}, {"(011011)", 2}, {"(1011)", 3}, {"(1001)", 2}, {"(0110)", 2}, {"(1101)", 3}, {"(10101)", 2},
		{"(110111)", 5}, {"(1110111)", 6}, {"(0111010)", 3}, {"(11011100)", 3}, {"(11011101)", 3}, {"(1101110111)", 5}, {"(10110001)", 2}, {"(0110111)", 3},
		{"(" + last + ")", 1}, {zeros60 + "(" + last + ")", 1}, {ones60 + "(" + last + ")", 1}, {"(" + lateRing + ")", 1}, {"(" + ones60[1:] + "0)", 59}, {"(0" + ones60[1:] + ")", 59}, {"(" + ones60[2:] + "0)", 58}, {"(" + ones60[:30] + "0" + ones60[:29] + ")", 59}, {"(0" + ones60[:58] + "0)", 58}, {ones60 + "(" + ones60[:20] + "0" + ones60[:39] + ")", 59},
		{"(" + ones60[:10] + "0" + ones60[:15] + "0" + ones60[:10] + ")", 20}, {"(" + ones60[:5] + "0" + ones60[:15] + "0" + ones60[:5] + ")", 15},
	}))
}

func TestP88P89GapIsRunOfOtherAndOne(t *testing.T) {
	for _, s := range denseTexts() {
		other, _ := impl.MakeOther(s)
		gap, ok := impl.DenseGap(s)
		run, _ := impl.DenseRun(other)
		if ok && gap != run+1 || !ok && run != -1 {
			t.Fatalf("DenseGap(%q) is %d %v, but DenseRun of the others %d", s, gap, ok, run)
		}
	}
}
