package tests

import (
	"math"
	"slices"
	"strings"
	"testing"

	"loop.example/oneletter/impl"
)

const (
	// pairSpan is how many numbers all pairs of rests of two sets are found by: tails of 60, and a round of 59 times 60.
	pairSpan = 60 + 59*60
	// restSigns are more numbers than tell rests of a set apart.
	restSigns = 200
)

// restOf returns the first signs of the rest of a set by a number.
func restOf(s string, k int) string {
	return signsOf(s)[k : k+restSigns]
}

// numbersUpTo returns the numbers of a set that are less than size.
func numbersUpTo(s string, size int) []int {
	var list []int
	for n, sign := range signsOf(s)[:size] {
		if sign == '1' {
			list = append(list, n)
		}
	}
	return list
}

// someInside reports whether n and some number of a list together are in the set that signs tell.
func someInside(signs string, list []int, n int) bool {
	return slices.ContainsFunc(list, func(k int) bool { return signs[n+k] == '1' })
}

// allInside reports whether n and each number of a list together are in the set that signs tell.
func allInside(signs string, list []int, n int) bool {
	return !slices.ContainsFunc(list, func(k int) bool { return signs[n+k] == '0' })
}

// restTexts are set texts of all kinds, few enough to take all pairs of them.
func restTexts() []string {
	var out []string
	for i, s := range longTexts() {
		if i%5 == 0 {
			out = append(out, s)
		}
	}
	return append(append(out, edgeTexts()...), "1(0)", "01(0)", "11(0)", "1(10)", "(001)", "(0101)", "000000(001)", "11(0101)")
}

// checkRests checks what is made of each two of many sets, by one number after the other.
func checkRests(t *testing.T, name string, made makesPair, holds func(signs string, list []int, n int) bool) {
	t.Helper()
	check := func(span int, texts []string) {
		for _, b := range texts {
			list := numbersUpTo(b, span)
			for _, a := range texts {
				want, fits := wanted(restSigns, func(n int) bool { return holds(signsOf(a), list, n) })
				if text, ok := made(a, b); !ok || !fits || text != want {
					t.Fatalf("%s(%q, %q) is %q %v, not %q", name, a, b, text, ok, want)
				}
			}
		}
	}
	check(50, smallTexts(2, 3))
	check(pairSpan, restTexts())
	checkPairNoTexts(t, name, made)
}

func TestP43Some(t *testing.T) {
	checkRests(t, "RestSome", impl.RestSome, someInside)
	last := zeros60[1:] + "1"
	checkPairExamples(t, "RestSome", impl.RestSome, []pairExample{
		{"(0)", "(0)", "(0)"}, {"000(00)", "000(00)", "(0)"}, {"(0)", "(1)", "(0)"}, {"000(00)", "(01)", "(0)"}, {"(1)", "(0)", "(0)"}, {"11(01)", "000(00)", "(0)"}, {zeros60 + "(" + zeros60 + ")", "1(0)", "(0)"}, {"1(0)", zeros60 + "(" + zeros60 + ")", "(0)"},
		{"(1)", "(1)", "(1)"}, {"(1)", "1(0)", "(1)"}, {"(1)", last + "(0)", "(1)"}, {"(1)", "(" + last + ")", "(1)"}, {"1(0)", "(1)", "1(0)"}, {"01(0)", "(1)", "11(0)"}, {"(001)", "(1)", "(1)"}, {last + "(0)", "(1)", ones60 + "(0)"},
		{"1(0)", "1(0)", "1(0)"}, {"1(0)", "0(1)", "(0)"}, {"1(0)", "(10)", "1(0)"}, {"1(0)", "(01)", "(0)"}, {"0101(01)", "1(0)", "(01)"}, {"010(0)", "100(0)", "01(0)"}, {"(001001)", "1(00)", "(001)"},
		{"0001(0)", "011(0)", "011(0)"}, {"0001(0)", "0(1)", "111(0)"}, {"0001(0)", "000001(0)", "(0)"}, {"0001(0)", "00001(1)", "(0)"}, {"0001(0)", "00000(10)", "(0)"}, {"0001(0)", "0001(0)", "1(0)"},
		{"01(10)", "01(0)", "1(10)"}, {"(01)", "(01)", "(10)"}, {"(01)", "(10)", "(01)"}, {"(01)", "11(0)", "(1)"}, {"(0001)", "(01)", "(10)"}, {"(0001)", "(001)", "(1)"}, {"(0011)", "0001(0)", "(1001)"}, {"0(1)", "01(0)", "(1)"},
		{last + "(0)", last + "(0)", "1(0)"}, {last + "(0)", "1(0)", last + "(0)"}, {last + "(0)", zeros60 + "(1)", "(0)"}, {zeros60 + "(1)", last + "(0)", "0(1)"}, {zeros60 + "(1)", zeros60 + "(1)", "(1)"},
		{"(" + last + ")", "1(0)", "(" + last + ")"}, {"(" + last + ")", "(" + last + ")", "(1" + zeros60[1:] + ")"}, {"(" + last + ")", last + "(0)", "(1" + zeros60[1:] + ")"}, {"(" + last + ")", "(01)", "(10)"},
		{zeros60 + "(" + last + ")", "(1)", "(1)"}, {ones60 + "(0)", "0(1)", ones60[1:] + "(0)"}, {ones60 + "(" + last + ")", "1(0)", ones60[1:] + "(1" + last[:59] + ")"},
	})
}

func TestP44All(t *testing.T) {
	checkRests(t, "RestAll", impl.RestAll, allInside)
	last := zeros60[1:] + "1"
	checkPairExamples(t, "RestAll", impl.RestAll, []pairExample{
		{"(0)", "(0)", "(1)"}, {"000(00)", "000(00)", "(1)"}, {"(0)", "(1)", "(0)"}, {"000(00)", "(01)", "(0)"}, {"(1)", "(0)", "(1)"}, {"11(01)", "000(00)", "(1)"}, {zeros60 + "(" + zeros60 + ")", "1(0)", "(0)"}, {"1(0)", zeros60 + "(" + zeros60 + ")", "(1)"},
		{"(1)", "(1)", "(1)"}, {"(1)", "1(0)", "(1)"}, {"(1)", last + "(0)", "(1)"}, {"(1)", "(" + last + ")", "(1)"}, {"1(0)", "(1)", "(0)"}, {"0(1)", "(1)", "0(1)"}, {"01(1)", "0(1)", "(1)"}, {"(110)", "(1)", "(0)"}, {zeros60 + "(1)", "(1)", zeros60 + "(1)"},
		{"1(0)", "1(0)", "1(0)"}, {"1(0)", "11(0)", "(0)"}, {"1(0)", "(10)", "(0)"}, {"0101(01)", "1(0)", "(01)"}, {"010(0)", "100(0)", "01(0)"}, {"(001001)", "1(00)", "(001)"},
		{"0011(0)", "011(0)", "01(0)"}, {"0011(0)", "0111(0)", "(0)"}, {"0011(0)", "000001(0)", "(0)"}, {"0010(1)", "00001(0)", "(1)"}, {"0010(1)", "0011(0)", "00(1)"}, {"1110(0)", "11(0)", "11(0)"},
		{"01(10)", "01(0)", "1(10)"}, {"(01)", "(01)", "(10)"}, {"(01)", "(10)", "(01)"}, {"(01)", "11(0)", "(0)"}, {"(0111)", "(01)", "(10)"}, {"(0111)", "(001)", "(0)"}, {"(0011)", "0001(0)", "(1001)"}, {"(0101)", "0(01)", "(01)"},
		{ones60 + "(0)", last + "(0)", "1(0)"}, {ones60 + "(0)", ones60 + "(0)", "1(0)"}, {ones60 + "(0)", "11(0)", ones60[1:] + "(0)"}, {ones60 + "(0)", "(" + last + ")", "(0)"}, {zeros60 + "(1)", last + "(0)", "0(1)"}, {zeros60 + "(1)", zeros60 + "(1)", "(1)"},
		{"(" + last + ")", "1(0)", "(" + last + ")"}, {"(" + last + ")", "(" + last + ")", "(1" + zeros60[1:] + ")"}, {"(" + last + ")", last + "(0)", "(1" + zeros60[1:] + ")"}, {"(" + last + ")", "(01)", "(0)"},
	})
}

func TestP43P44OfRingsWithoutCommonDivisor(t *testing.T) {
	a, b := "("+lateRing+")", "("+zeros60[1:]+"1)"
	notA, notB := "("+ones60[2:]+"0)", "("+ones60[1:]+"0)"
	for _, tail := range []string{"", zeros60, ones60} {
		for _, c := range [][3]string{{a, b, notA}, {b, a, notB}} {
			// The last number of each round of 59 times 60 is the only one of its rest.
			if text, ok := impl.RestSome(zeros60+c[0], tail+c[1]); !ok || text != "(1)" {
				t.Errorf("RestSome(%q, %q) is %q %v", zeros60+c[0], tail+c[1], text, ok)
			}
			if text, ok := impl.RestAll(ones60+c[2], tail+c[1]); !ok || text != "(0)" {
				t.Errorf("RestAll(%q, %q) is %q %v", ones60+c[2], tail+c[1], text, ok)
			}
		}
	}
	for _, c := range []pairExample{{a, zeros60[2:] + "1(0)", "(1" + zeros60[2:] + ")"}, {b, zeros60[2:] + "1(0)", "(01" + zeros60[2:] + ")"}} {
		if text, ok := impl.RestSome(c.s, c.t); !ok || text != c.want {
			t.Errorf("RestSome(%q, %q) is %q %v, not %q", c.s, c.t, text, ok, c.want)
		}
	}
}

// manyRests returns how many of the rests by the first numbers of a set are different, found by comparing signs.
func manyRests(s string) int {
	found := map[string]bool{}
	for k := range 200 {
		found[restOf(s, k)] = true
	}
	return len(found)
}

// oneRestTexts are set texts of all kinds, many of which are not tidy.
func oneRestTexts() []string {
	return append(append(smallTexts(3, 4), longTexts()...), edgeTexts()...)
}

func TestP45Many(t *testing.T) {
	for _, s := range oneRestTexts() {
		many, ok := impl.RestMany(s)
		tail, ring, _ := impl.SetSizes(s)
		if !ok || many != tail+ring || many != manyRests(s) || many != len(tidyByTryingTable(s))-2 {
			t.Fatalf("RestMany(%q) is %d %v, not %d; the sizes are %d and %d", s, many, ok, manyRests(s), tail, ring)
		}
		found := map[string]int{}
		for k := range many {
			text, ok := impl.RestText(s, k)
			if first, known := found[text]; !ok || known {
				t.Fatalf("of %q the rests by %d and %d are the same, %q %v", s, first, k, text, ok)
			}
			found[text] = k
		}
		if text, _ := impl.RestText(s, many); found[text] != tail {
			t.Fatalf("of %q the rest by %d is that by %d", s, many, found[text])
		}
	}
}

// countExample is the number that is asked of a set.
type countExample struct {
	s    string
	want int
}

// checkCounts checks the number that is asked of some sets, and that nothing is told of what is no set text.
func checkCounts(t *testing.T, name string, asked func(s string) (int, bool), examples []countExample) {
	t.Helper()
	for _, c := range examples {
		if n, ok := asked(c.s); !ok || n != c.want {
			t.Errorf("%s(%q) is %d %v, not %d", name, c.s, n, ok, c.want)
		}
	}
	for _, s := range noTexts() {
		if n, ok := asked(s); ok || n != 0 {
			t.Errorf("%s(%q) is %d %v", name, s, n, ok)
		}
	}
}

func TestP45ManyExamples(t *testing.T) {
	last := zeros60[1:] + "1"
	checkCounts(t, "RestMany", impl.RestMany, []countExample{
		{"(0)", 1}, {"(1)", 1}, {"000(00)", 1}, {ones60 + "(" + ones60 + ")", 1}, {"1(0)", 2}, {"10(00)", 2}, {"0(1)", 2}, {"01(0)", 3}, {"11(01)", 3}, {"11(0101)", 3},
		{"(01)", 2}, {"(0101)", 2}, {"0101(01)", 2}, {"010(10)", 2}, {"1(01)", 2}, {"(011011)", 3}, {"0011011(011)", 4}, {strings.Repeat("01", 30) + "(" + strings.Repeat("01", 30) + ")", 2},
		{last + "(0)", 61}, {zeros60 + "(1)", 61}, {ones60 + "(0)", 61}, {"(" + last + ")", 60}, {last + "(" + last + ")", 60}, {zeros60 + "(" + last + ")", 120}, {ones60 + "(" + last + ")", 119}, {"1(1" + zeros60[1:] + ")", 61},
		{"(" + lateRing + ")", 59}, {"0(" + lateRing + ")", 60}, {ones60 + "(1" + zeros60[1:] + ")", 120},
	})
}

func TestP49RoundExamples(t *testing.T) {
	last := zeros60[1:] + "1"
	checkCounts(t, "RestRound", impl.RestRound, []countExample{
		{"(0)", 1}, {"(1)", 1}, {"000(00)", 1}, {ones60 + "(" + ones60 + ")", 1}, {"1(0)", 1}, {"0(1)", 1}, {"01(0)", 1}, {"11(01)", 2}, {"11(0101)", 2}, {last + "(0)", 1}, {zeros60 + "(1)", 1},
		{"(01)", 2}, {"(0101)", 2}, {"0101(01)", 2}, {"010(10)", 2}, {"1(01)", 2}, {"(011011)", 3}, {"(01010)", 5}, {"(0110)", 4}, {strings.Repeat("01", 30) + "(" + strings.Repeat("01", 30) + ")", 2},
		{"(" + last + ")", 60}, {last + "(" + last + ")", 60}, {ones60 + "(" + last + ")", 60}, {"(" + lateRing + ")", 59}, {ones60 + "(" + lateRing + ")", 59}, {"(" + strings.Repeat(last[30:], 2) + ")", 30},
	})
}

func TestP49Round(t *testing.T) {
	for _, s := range oneRestTexts() {
		round, ok := impl.RestRound(s)
		_, ring, _ := impl.SetSizes(s)
		if !ok || round != ring {
			t.Fatalf("RestRound(%q) is %d %v, the ring %d", s, round, ok, ring)
		}
		for _, k := range []int{60, 61, 77, 119, 120, 121, 500, 1000 - round} {
			for less := 1; less < round; less++ {
				if restOf(s, k+less) == restOf(s, k) || impl.RestSame(s, k, k+less) {
					t.Fatalf("RestRound(%q) is %d, but the rests by %d and %d are the same", s, round, k, k+less)
				}
			}
			if restOf(s, k+round) != restOf(s, k) || !impl.RestSame(s, k, k+round) {
				t.Fatalf("RestRound(%q) is %d, but the rests by %d and %d are not the same", s, round, k, k+round)
			}
		}
	}
}

// restNumbers are numbers by which rests are taken: all small ones, and some up to the greatest one.
func restNumbers() []int {
	out := []int{}
	for k := range 9 {
		out = append(out, k)
	}
	return append(out, 29, 30, 58, 59, 60, 61, 89, 90, 117, 118, 119, 120, 121, 179, 180, 499, 500, 939, 940, 941, 942, 998, 999, 1000)
}

// noRestNumbers are numbers by which no rests are taken.
func noRestNumbers() []int {
	return []int{-1, -2, -60, -1000, 1001, 1002, 1060, 100000, math.MinInt, math.MaxInt, math.MaxInt - 1}
}

func TestP46Same(t *testing.T) {
	same, other := 0, 0
	for i, s := range oneRestTexts() {
		if i%3 > 0 {
			continue
		}
		for _, i := range restNumbers() {
			first, _ := impl.RestText(s, i)
			for _, k := range restNumbers() {
				want := restOf(s, i) == restOf(s, k)
				if impl.RestSame(s, i, k) != want {
					t.Fatalf("RestSame(%q, %d, %d) is not %v", s, i, k, want)
				}
				if second, _ := impl.RestText(s, k); (first == second) != want {
					t.Fatalf("of %q the rests by %d and %d are %q and %q", s, i, k, first, second)
				}
				if !want {
					other++
					continue
				}
				same++
				if !impl.RestSame(s, k, i) || i < 1000 && k < 1000 && !impl.RestSame(s, i+1, k+1) {
					t.Fatalf("RestSame(%q, %d, %d) holds, but not turned round, or not of both one more", s, i, k)
				}
			}
		}
	}
	if same < 10000 || other < 10000 {
		t.Errorf("just %d were the same, and %d were not", same, other)
	}
}

func TestP46SameExamples(t *testing.T) {
	last := zeros60[1:] + "1"
	for _, c := range []struct {
		s    string
		i, k int
		want bool
	}{
		{"(0)", 0, 1000, true}, {"000(00)", 0, 1000, true}, {"(1)", 1000, 0, true}, {"(1)", 0, 0, true}, {"(01)", 1, 3, true}, {"(01)", 0, 1, false}, {"(01)", 0, 1000, true}, {"(01)", 1, 1000, false},
		{"0101(01)", 0, 4, true}, {"(0101)", 0, 2, true}, {"010(10)", 0, 2, true}, {"010(10)", 1, 3, true}, {"11(0101)", 1, 3, true}, {"11(0101)", 0, 2, false}, {"11(0101)", 2, 4, true},
		{"1(0)", 0, 0, true}, {"1(0)", 0, 1, false}, {"1(0)", 1, 2, true}, {"1(0)", 1, 1000, true}, {"1(0)", 1000, 1000, true}, {last + "(0)", 59, 60, false}, {last + "(0)", 60, 61, true}, {zeros60 + "(1)", 59, 60, false}, {zeros60 + "(1)", 60, 1000, true},
		{"(" + last + ")", 0, 60, true}, {"(" + last + ")", 40, 1000, true}, {"(" + last + ")", 0, 30, false}, {"(" + lateRing + ")", 0, 59, true}, {"(" + lateRing + ")", 0, 60, false}, {"0(" + lateRing + ")", 0, 59, false}, {"0(" + lateRing + ")", 1, 60, true}, {"1(" + lateRing + ")", 0, 59, true},
	} {
		if impl.RestSame(c.s, c.i, c.k) != c.want || impl.RestSame(c.s, c.k, c.i) != c.want {
			t.Errorf("RestSame(%q, %d, %d) is not %v", c.s, c.i, c.k, c.want)
		}
	}
	for _, s := range []string{"(0)", "(1)", "(01)", "1(0)", zeros60 + "(1)"} {
		for _, bad := range noRestNumbers() {
			for _, k := range []int{0, 1, 2, 60, 1000, bad} {
				if impl.RestSame(s, bad, k) || impl.RestSame(s, k, bad) {
					t.Errorf("RestSame(%q) holds of %d and %d", s, bad, k)
				}
			}
		}
	}
	for _, s := range noTexts() {
		for _, k := range []int{-1, 0, 1, 60, 1000, 1001} {
			if impl.RestSame(s, k, k) || impl.RestSame(s, 0, k) || impl.RestSame(s, k, 0) {
				t.Errorf("RestSame(%q) holds of %d", s, k)
			}
		}
	}
}

func TestP47First(t *testing.T) {
	for _, s := range oneRestTexts() {
		for _, k := range restNumbers() {
			want := 0
			for restOf(s, want) != restOf(s, k) {
				want++
			}
			first, ok := impl.RestFirst(s, k)
			if !ok || first != want || first > k {
				t.Fatalf("RestFirst(%q, %d) is %d %v, not %d", s, k, first, ok, want)
			}
			if !impl.RestSame(s, first, k) || first > 0 && impl.RestSame(s, first-1, k) {
				t.Fatalf("RestFirst(%q, %d) is %d, of which RestSame tells another", s, k, first)
			}
		}
	}
}

func TestP47FirstExamples(t *testing.T) {
	last := zeros60[1:] + "1"
	for _, c := range []struct {
		s       string
		k, want int
	}{
		{"(0)", 0, 0}, {"(0)", 1000, 0}, {"000(00)", 1000, 0}, {"(1)", 1000, 0}, {"1(0)", 0, 0}, {"1(0)", 1, 1}, {"1(0)", 2, 1}, {"1(0)", 1000, 1}, {"(01)", 1000, 0}, {"(01)", 999, 1}, {"0101(01)", 1000, 0}, {"0101(01)", 4, 0}, {"(0101)", 3, 1},
		{"010(10)", 3, 1}, {"11(0101)", 0, 0}, {"11(0101)", 2, 2}, {"11(0101)", 3, 1}, {"11(0101)", 1000, 2}, {"11(0101)", 999, 1}, {last + "(0)", 59, 59}, {last + "(0)", 60, 60}, {last + "(0)", 61, 60}, {last + "(0)", 1000, 60},
		{"(" + last + ")", 59, 59}, {"(" + last + ")", 60, 0}, {"(" + last + ")", 1000, 40}, {ones60 + "(1" + zeros60[1:] + ")", 119, 119}, {ones60 + "(1" + zeros60[1:] + ")", 120, 60}, {ones60 + "(1" + zeros60[1:] + ")", 1000, 100}, {"(" + lateRing + ")", 1000, 56},
	} {
		if first, ok := impl.RestFirst(c.s, c.k); !ok || first != c.want {
			t.Errorf("RestFirst(%q, %d) is %d %v, not %d", c.s, c.k, first, ok, c.want)
		}
	}
	for _, s := range []string{"(0)", "(1)", "(01)", "1(0)", last + "(0)", ones60 + "(1" + zeros60[1:] + ")"} {
		for _, k := range noRestNumbers() {
			if first, ok := impl.RestFirst(s, k); ok || first != 0 {
				t.Errorf("RestFirst(%q, %d) is %d %v", s, k, first, ok)
			}
		}
	}
	for _, s := range noTexts() {
		for _, k := range []int{-1, 0, 1, 60, 1000, 1001} {
			if first, ok := impl.RestFirst(s, k); ok || first != 0 {
				t.Errorf("RestFirst(%q, %d) is %d %v", s, k, first, ok)
			}
		}
	}
}

func TestP48Text(t *testing.T) {
	for _, s := range oneRestTexts() {
		for _, k := range restNumbers() {
			want, _ := tidyOfSigns(restOf(s, k))
			down, okDown := impl.MakeDown(s, k)
			text, ok := impl.RestText(s, k)
			if !ok || !okDown || text != want || text != down {
				t.Fatalf("RestText(%q, %d) is %q %v, MakeDown %q %v, not %q", s, k, text, ok, down, okDown, want)
			}
		}
	}
	last := zeros60[1:] + "1"
	checkOneFails(t, "RestText", impl.RestText, 0, 1000)
	checkOneExamples(t, "RestText", impl.RestText, []oneExample{
		{"(0)", 0, "(0)"}, {"(0)", 1000, "(0)"}, {"000(00)", 1000, "(0)"}, {"(1)", 1000, "(1)"}, {"1(0)", 0, "1(0)"}, {"1(0)", 1, "(0)"}, {"0101(01)", 0, "(01)"}, {"(01)", 999, "(10)"}, {"(01)", 1000, "(01)"}, {"11(0101)", 1, "(10)"},
		{last + "(0)", 0, last + "(0)"}, {last + "(0)", 59, "1(0)"}, {last + "(0)", 1000, "(0)"}, {"(" + last + ")", 1000, "(" + zeros60[:19] + "1" + zeros60[:40] + ")"}, {zeros60 + "(1)", 60, "(1)"},
	})
}

func TestP50SomeOfSum(t *testing.T) {
	made := 0
	for _, a := range smallSets() {
		for _, b := range smallSets() {
			sum, ok := impl.SumOf(a, b)
			if !ok {
				continue
			}
			some, ok := impl.RestSome(sum, b)
			if !ok {
				t.Fatalf("RestSome(%q, %q) fails", sum, b)
			}
			// Without a number of the second set, nothing is left of the first one.
			if !strings.Contains(b, "1") {
				if some != "(0)" {
					t.Fatalf("RestSome(%q, %q) is %q", sum, b, some)
				}
				continue
			}
			made++
			if !impl.SetBelow(a, some) {
				t.Fatalf("RestSome of SumOf of %q and %q is %q, which has not all of the first one", a, b, some)
			}
		}
	}
	if made < 5000 {
		t.Errorf("just %d were made", made)
	}
}
