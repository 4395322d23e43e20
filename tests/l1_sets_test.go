package tests

import (
	"math"
	"slices"
	"strings"
	"testing"

	"loop.example/oneletter/impl"
)

func TestP1InIsTidyTrue(t *testing.T) {
	for _, s := range append(smallTexts(4, 4), longTexts()...) {
		_, ok := impl.SetTidy(s)
		if !impl.SetIn(s) || !ok {
			t.Errorf("%q is a set text: SetIn %v, SetTidy %v", s, impl.SetIn(s), ok)
		}
	}
	for _, s := range noTexts() {
		text, ok := impl.SetTidy(s)
		if impl.SetIn(s) || ok || text != "" {
			t.Errorf("%q is no set text: SetIn %v, SetTidy %q %v", s, impl.SetIn(s), text, ok)
		}
	}
}

func TestP1AnyByteElsewhereIsNoSign(t *testing.T) {
	for b := range 256 {
		is := b == '0' || b == '1'
		sign := string([]byte{byte(b)})
		for _, s := range []string{"(" + sign + ")", "0" + sign + "(1)", "(1" + sign + "0)"} {
			if b == '(' || b == ')' {
				continue
			}
			if impl.SetIn(s) != is {
				t.Errorf("SetIn(%q) is %v", s, !is)
			}
		}
		if impl.SetIn("(1)" + sign) {
			t.Errorf("SetIn holds with a byte %q behind the bracket", sign)
		}
	}
}

func TestP1LimitsOfParts(t *testing.T) {
	full := strings.Repeat("1", impl.PartMax)
	for _, s := range []string{full + "(0)", "(" + full + ")", full + "(" + full + ")", "(0)", "0(0)"} {
		if !impl.SetIn(s) {
			t.Errorf("SetIn(%q) does not hold", s)
		}
	}
	for _, s := range []string{full + "1(0)", "(" + full + "1)", full + "1(" + full + ")", full + "(" + full + "1)"} {
		if impl.SetIn(s) {
			t.Errorf("SetIn(%q) holds", s)
		}
	}
	if impl.PartMax != 60 {
		t.Errorf("PartMax is %d", impl.PartMax)
	}
}

func TestP2HasIsHasOfTidy(t *testing.T) {
	for _, s := range append(smallTexts(4, 4), longTexts()...) {
		tidy, _ := impl.SetTidy(s)
		signs := unroll(s, 400)
		for n := range 400 {
			want := signs[n] == '1'
			if impl.SetHas(s, n) != want || impl.SetHas(tidy, n) != want {
				t.Fatalf("of %q (tidy %q) SetHas of %d is not %v", s, tidy, n, want)
			}
		}
	}
}

func TestP2HasOfOtherNumbers(t *testing.T) {
	for _, s := range []string{"(1)", "1(1)", "11(1111)", strings.Repeat("1", 60) + "(1)"} {
		for _, n := range []int{-1, -2, -60, math.MinInt} {
			if impl.SetHas(s, n) {
				t.Errorf("SetHas(%q, %d) holds", s, n)
			}
		}
		if !impl.SetHas(s, math.MaxInt) || !impl.SetHas(s, 0) {
			t.Errorf("SetHas(%q, n) does not hold for 0 or the greatest n", s)
		}
	}
	if !impl.SetHas("(01)", math.MaxInt) || impl.SetHas("(10)", math.MaxInt) || !impl.SetHas("0(10)", math.MaxInt) {
		t.Errorf("SetHas of the greatest number, which is odd, is wrong")
	}
	for _, s := range noTexts() {
		for n := -1; n < 70; n++ {
			if impl.SetHas(s, n) {
				t.Errorf("SetHas(%q, %d) holds of no set text", s, n)
			}
		}
	}
}

func TestP3TidyExamples(t *testing.T) {
	for _, c := range [][2]string{
		{"(0)", "(0)"}, {"(00)", "(0)"}, {"000(00)", "(0)"}, {"(1)", "(1)"}, {"11(111)", "(1)"},
		{"(0101)", "(01)"}, {"0101(01)", "(01)"}, {"010(10)", "(01)"}, {"1(01)", "(10)"}, {"00(10)", "0(01)"},
		{"(011011)", "(011)"}, {"(01010)", "(01010)"}, {"(0110)", "(0110)"}, {"(010010010)", "(010)"},
		{"1(0)", "1(0)"}, {"10(0)", "1(0)"}, {"0001(0000)", "0001(0)"}, {"0(1)", "0(1)"}, {"10(11)", "10(1)"},
		{"(" + strings.Repeat("01", 30) + ")", "(01)"},
		{strings.Repeat("01", 30) + "(" + strings.Repeat("01", 30) + ")", "(01)"},
		{strings.Repeat("0", 59) + "1(0)", strings.Repeat("0", 59) + "1(0)"},
		{strings.Repeat("0", 60) + "(" + strings.Repeat("1", 60) + ")", strings.Repeat("0", 60) + "(1)"},
		{strings.Repeat("0", 59) + "1(" + strings.Repeat("0", 59) + "1)", "(" + strings.Repeat("0", 59) + "1)"},
	} {
		tidy, ok := impl.SetTidy(c[0])
		if !ok || tidy != c[1] {
			t.Errorf("SetTidy(%q) is %q %v, not %q", c[0], tidy, ok, c[1])
		}
	}
}

func TestP3TidyIsShortestAndItsOwn(t *testing.T) {
	for _, s := range append(smallTexts(5, 6), longTexts()...) {
		tidy, ok := impl.SetTidy(s)
		if want := tidyByTrying(s); !ok || tidy != want {
			t.Fatalf("SetTidy(%q) is %q %v, not %q", s, tidy, ok, want)
		}
		if len(tidy) > len(s) || unroll(tidy, 400)[:400] != unroll(s, 400)[:400] {
			t.Errorf("SetTidy(%q) is %q: longer, or another set", s, tidy)
		}
		if again, ok := impl.SetTidy(tidy); !ok || again != tidy {
			t.Errorf("SetTidy of the tidy %q is %q", tidy, again)
		}
	}
}

// lateRing comes again by 59 and very nearly by 60: two rings of these sizes agree on 117 numbers at most if they are not the same.
var lateRing = strings.Repeat("0", 58) + "1"

func TestP4SameIsBelowBothWays(t *testing.T) {
	texts := smallTexts(2, 4)
	for _, a := range texts {
		for _, b := range texts {
			want := unroll(a, 40)[:40] == unroll(b, 40)[:40]
			if impl.SetSame(a, b) != want || (impl.SetBelow(a, b) && impl.SetBelow(b, a)) != want {
				t.Fatalf("SetSame or SetBelow both ways of %q and %q is not %v", a, b, want)
			}
		}
	}
	long := longTexts()
	for i, a := range long {
		for _, b := range long[i:] {
			want := tidyByTryingTable(a) == tidyByTryingTable(b)
			if impl.SetSame(a, b) != want || impl.SetSame(b, a) != want || (impl.SetBelow(a, b) && impl.SetBelow(b, a)) != want {
				t.Fatalf("SetSame or SetBelow both ways of %q and %q is not %v", a, b, want)
			}
		}
	}
}

// knownTidy keeps what tidyByTrying found, for tests that look at pairs.
var knownTidy = map[string]string{}

func tidyByTryingTable(s string) string {
	if knownTidy[s] == "" {
		knownTidy[s] = tidyByTrying(s)
	}
	return knownTidy[s]
}

func TestP4SetsThatDifferLate(t *testing.T) {
	tail := strings.Repeat("0", 60)
	a, b := tail+"("+lateRing+")", tail+"("+lateRing+"0)"
	if impl.SetSame(a, b) || impl.SetSame(b, a) || impl.SetBelow(a, b) || impl.SetBelow(b, a) {
		t.Errorf("sets that differ first at 177 are the same, or one is below the other")
	}
	if !impl.SetSame(a, a) || !impl.SetBelow(a, a) || !impl.SetSame(b, b) || !impl.SetBelow(b, b) {
		t.Errorf("a set is not the same as itself, or not below itself")
	}
}

func TestP4NoTexts(t *testing.T) {
	for _, s := range noTexts() {
		for _, o := range []string{s, "(0)", "(1)", "0(1)", ""} {
			if impl.SetSame(s, o) || impl.SetSame(o, s) || impl.SetBelow(s, o) || impl.SetBelow(o, s) {
				t.Errorf("SetSame or SetBelow holds of %q and %q", s, o)
			}
		}
	}
}

func TestP5BelowOfSmallTexts(t *testing.T) {
	all := smallTexts(5, 5)
	signs := map[string]string{}
	for _, s := range all {
		signs[s] = unroll(s, 151)[:151]
	}
	for i := 0; i < len(all); i += 37 {
		for _, b := range all {
			for _, pair := range [][2]string{{all[i], b}, {b, all[i]}} {
				want := noneOutside(signs[pair[0]], signs[pair[1]])
				if impl.SetBelow(pair[0], pair[1]) != want {
					t.Fatalf("SetBelow(%q, %q) is not %v", pair[0], pair[1], want)
				}
			}
		}
	}
}

// noneOutside reports whether the second one of two texts of signs has a 1 wherever the first one has.
func noneOutside(a string, b string) bool {
	for n := range a {
		if a[n] == '1' && b[n] == '0' {
			return false
		}
	}
	return true
}

func TestP5BelowExamples(t *testing.T) {
	full := strings.Repeat("1", 60)
	for _, c := range []struct {
		s, t string
		want bool
	}{
		{"(0)", "(0)", true}, {"(0)", "(1)", true}, {"(1)", "(0)", false}, {"(1)", "(1)", true},
		{"(0001)", "(01)", true}, {"(01)", "(0001)", false}, {"(000001)", "(001)", true}, {"(001)", "(01)", false},
		{full + "(0)", "(1)", true}, {full + "(0)", strings.Repeat("1", 59) + "(0)", false}, {"1(0)", "0(1)", false},
		{"(" + full + ")", full + "(10)", false}, {full + "(10)", "(" + full + ")", true},
	} {
		if impl.SetBelow(c.s, c.t) != c.want {
			t.Errorf("SetBelow(%q, %q) is not %v", c.s, c.t, c.want)
		}
	}
}

func TestP5BelowThatFailsVeryLate(t *testing.T) {
	zeros := strings.Repeat("0", 60)
	// Just the last number of a round of 59 times 60 is in the first set and not in the second one.
	a, b := "("+lateRing+")", "("+strings.Repeat("1", 59)+"0)"
	for _, tail := range []string{"", zeros} {
		first := len(tail) + 59*60 - 1
		if !impl.SetHas(tail+a, first) || impl.SetHas(tail+b, first) || impl.SetBelow(tail+a, tail+b) {
			t.Errorf("SetBelow holds although %d is outside", first)
		}
	}
}

func TestP6SizesAreThoseOfTidy(t *testing.T) {
	for _, s := range append(smallTexts(4, 6), longTexts()...) {
		tail, ring, ok := impl.SetSizes(s)
		want := tidyByTrying(s)
		open := strings.Index(want, "(")
		if !ok || tail != open || ring != len(want)-open-2 {
			t.Fatalf("SetSizes(%q) is %d %d %v; the tidy text is %q", s, tail, ring, ok, want)
		}
		if tidy, _ := impl.SetTidy(s); len(tidy) != tail+ring+2 {
			t.Errorf("SetTidy(%q) is %q, which has not %d and %d signs", s, tidy, tail, ring)
		}
	}
	tail, ring, ok := impl.SetSizes(strings.Repeat("0", 59) + "1(" + strings.Repeat("0", 59) + "1)")
	if !ok || tail != 0 || ring != 60 {
		t.Errorf("SetSizes of an empty tidy tail and a full ring is %d %d %v", tail, ring, ok)
	}
	tail, ring, ok = impl.SetSizes(strings.Repeat("1", 60) + "(" + strings.Repeat("0", 59) + "1)")
	if !ok || tail != 59 || ring != 60 {
		t.Errorf("SetSizes of a tail whose last sign the ring could tell is %d %d %v", tail, ring, ok)
	}
	for _, s := range noTexts() {
		if tail, ring, ok := impl.SetSizes(s); ok || tail != 0 || ring != 0 {
			t.Errorf("SetSizes(%q) is %d %d %v", s, tail, ring, ok)
		}
	}
}

func TestP7FromIsTheNextNumber(t *testing.T) {
	for _, s := range append(smallTexts(3, 4), longTexts()...) {
		signs := unroll(s, 1100)
		for _, n := range []int{0, 1, 2, 3, 4, 5, 58, 59, 60, 61, 119, 120, 500, 999, 1000} {
			want, found := 0, false
			if step := strings.IndexByte(signs[n:], '1'); step >= 0 {
				want, found = n+step, true
			}
			if k, ok := impl.SetFrom(s, n); ok != found || k != want {
				t.Fatalf("SetFrom(%q, %d) is %d %v, not %d %v", s, n, k, ok, want, found)
			}
		}
	}
}

func TestP7FromFarOff(t *testing.T) {
	zeros, last := strings.Repeat("0", 60), strings.Repeat("0", 59)+"1"
	for _, c := range []struct {
		s       string
		n, want int
	}{
		{zeros + "(" + last + ")", 0, 119}, {zeros + "(" + last + ")", 120, 179}, {zeros + "(1)", 0, 60},
		{"(" + last + ")", 1000, 1019}, {"(1" + strings.Repeat("0", 59) + ")", 961, 1020}, {"(1" + strings.Repeat("0", 58) + ")", 945, 1003},
		{last + "(0)", 0, 59}, {last + "(0)", 59, 59}, {"(1)", 1000, 1000}, {"(001)", 3, 5},
	} {
		if k, ok := impl.SetFrom(c.s, c.n); !ok || k != c.want {
			t.Errorf("SetFrom(%q, %d) is %d %v, not %d", c.s, c.n, k, ok, c.want)
		}
	}
	for _, c := range []struct {
		s string
		n int
	}{{"(0)", 0}, {"000(00)", 0}, {"000(00)", 1000}, {last + "(0)", 60}, {last + "(0)", 1000}, {"1(0)", 1}} {
		if k, ok := impl.SetFrom(c.s, c.n); ok || k != 0 {
			t.Errorf("SetFrom(%q, %d) is %d %v although there is none", c.s, c.n, k, ok)
		}
	}
}

// outside are numbers that are no n of SetFrom, SetCount and SetList.
var outside = []int{-1, -2, -60, 1001, 1002, 100000, math.MaxInt, math.MinInt}

func TestP7FromFails(t *testing.T) {
	for _, n := range outside {
		if k, ok := impl.SetFrom("(1)", n); ok || k != 0 {
			t.Errorf("SetFrom of %d is %d %v", n, k, ok)
		}
	}
	for _, s := range noTexts() {
		if k, ok := impl.SetFrom(s, 0); ok || k != 0 {
			t.Errorf("SetFrom(%q, 0) is %d %v", s, k, ok)
		}
	}
}

func TestP8P9CountAndList(t *testing.T) {
	for _, s := range append(smallTexts(3, 4), longTexts()...) {
		signs := unroll(s, 1000)
		for _, n := range []int{0, 1, 2, 5, 59, 60, 61, 120, 121, 999, 1000} {
			want := []int{}
			for k := range n {
				if signs[k] == '1' {
					want = append(want, k)
				}
			}
			list, ok := impl.SetList(s, n)
			if !ok || !slices.Equal(list, want) {
				t.Fatalf("SetList(%q, %d) is %v %v, not %v", s, n, list, ok, want)
			}
			if count, ok := impl.SetCount(s, n); !ok || count != len(want) {
				t.Fatalf("SetCount(%q, %d) is %d %v, not %d", s, n, count, ok, len(want))
			}
		}
	}
}

func TestP8P9CountAndListExamples(t *testing.T) {
	for _, n := range []int{0, 1000} {
		if count, ok := impl.SetCount("(1)", n); !ok || count != n {
			t.Errorf("SetCount of all numbers up to %d is %d %v", n, count, ok)
		}
		if list, ok := impl.SetList("(1)", n); !ok || len(list) != n {
			t.Errorf("SetList of all numbers up to %d has %d %v", n, len(list), ok)
		}
		if count, ok := impl.SetCount("00(00)", n); !ok || count != 0 {
			t.Errorf("SetCount of no numbers up to %d is %d %v", n, count, ok)
		}
		if list, ok := impl.SetList("00(00)", n); !ok || len(list) != 0 {
			t.Errorf("SetList of no numbers up to %d is %v %v", n, list, ok)
		}
	}
	if list, ok := impl.SetList("1(001)", 10); !ok || !slices.Equal(list, []int{0, 3, 6, 9}) {
		t.Errorf("SetList(1(001), 10) is %v %v", list, ok)
	}
}

func TestP8P9CountAndListFail(t *testing.T) {
	for _, n := range outside {
		if count, ok := impl.SetCount("(1)", n); ok || count != 0 {
			t.Errorf("SetCount of %d is %d %v", n, count, ok)
		}
		if list, ok := impl.SetList("(1)", n); ok || len(list) != 0 {
			t.Errorf("SetList of %d is %v %v", n, list, ok)
		}
	}
	for _, s := range noTexts() {
		for _, n := range []int{-1, 0, 20, 1000, 1001} {
			if count, ok := impl.SetCount(s, n); ok || count != 0 {
				t.Errorf("SetCount(%q, %d) is %d %v", s, n, count, ok)
			}
			if list, ok := impl.SetList(s, n); ok || len(list) != 0 {
				t.Errorf("SetList(%q, %d) is %v %v", s, n, list, ok)
			}
		}
	}
}

func TestP9ListIsNewMemory(t *testing.T) {
	first, _ := impl.SetList("(011)", 30)
	second, _ := impl.SetList("(011)", 30)
	kept := slices.Clone(second)
	for i := range first[:cap(first)] {
		first[:cap(first)][i] = -7
	}
	if !slices.Equal(second, kept) {
		t.Errorf("two results of SetList share memory")
	}
}

func TestP10OfExamples(t *testing.T) {
	repeated := slices.Repeat([]int{3, 0, 3}, 500)
	every := []int{}
	for n := range 60 {
		every = append(every, 59-n)
	}
	for _, c := range []struct {
		list []int
		want string
	}{
		{nil, "(0)"}, {[]int{}, "(0)"}, {[]int{0}, "1(0)"}, {[]int{1}, "01(0)"}, {[]int{2, 0}, "101(0)"}, {[]int{5, 5, 5}, "000001(0)"},
		{[]int{4, 1, 4, 1}, "01001(0)"}, {repeated, "1001(0)"}, {every, strings.Repeat("1", 60) + "(0)"},
		{[]int{59}, strings.Repeat("0", 59) + "1(0)"}, {[]int{59, 58, 59}, strings.Repeat("0", 58) + "11(0)"},
	} {
		if text, ok := impl.SetOf(c.list); !ok || text != c.want {
			t.Errorf("SetOf(%v) is %q %v, not %q", c.list, text, ok, c.want)
		}
	}
	for _, list := range [][]int{{60}, {-1}, {0, 60}, {60, 0}, {1, -1, 1}, {59, 61}, {1000}, {math.MaxInt}, {math.MinInt}} {
		if text, ok := impl.SetOf(list); ok || text != "" {
			t.Errorf("SetOf(%v) is %q %v", list, text, ok)
		}
	}
}

func TestP10OfHasJustTheList(t *testing.T) {
	for seed := range 60 {
		signs := mixed(seed, seed+1)
		list := []int{}
		for n := len(signs) - 1; n >= 0; n-- {
			if signs[n] == '1' {
				list = append(list, n, n)
			}
		}
		kept := slices.Clone(list)
		text, ok := impl.SetOf(list)
		if !ok || !impl.SetEnds(text) || text != tidyByTrying(text) {
			t.Fatalf("SetOf(%v) is %q %v, which does not end or is not tidy", list, text, ok)
		}
		for n := -1; n < 300; n++ {
			if impl.SetHas(text, n) != slices.Contains(list, n) {
				t.Fatalf("SetOf(%v) is %q, which is wrong about %d", list, text, n)
			}
		}
		if !slices.Equal(list, kept) {
			t.Errorf("SetOf changed its list")
		}
	}
}

func TestP11EndsJustIfNoneFarOff(t *testing.T) {
	for _, s := range append(smallTexts(3, 5), longTexts()...) {
		want := !strings.Contains(s[strings.Index(s, "("):], "1")
		_, found := impl.SetFrom(s, 1000)
		if impl.SetEnds(s) != want || found == want {
			t.Fatalf("of %q SetEnds is %v and SetFrom of 1000 is %v", s, impl.SetEnds(s), found)
		}
	}
	for _, s := range []string{"(0)", "(00)", "000(00)", strings.Repeat("1", 60) + "(" + strings.Repeat("0", 60) + ")"} {
		if !impl.SetEnds(s) {
			t.Errorf("SetEnds(%q) does not hold", s)
		}
	}
	for _, s := range append(noTexts(), "(1)", "(01)", "(10)", "0("+strings.Repeat("0", 59)+"1)") {
		if impl.SetEnds(s) {
			t.Errorf("SetEnds(%q) holds", s)
		}
	}
}

func TestP12CountAddsUp(t *testing.T) {
	for _, s := range append(smallTexts(2, 3), longTexts()...) {
		signs := unroll(s, 1000)
		for _, n := range []int{0, 1, 7, 60, 120, 400, 999, 1000} {
			count, ok := impl.SetCount(s, n)
			if !ok {
				t.Fatalf("SetCount(%q, %d) fails", s, n)
			}
			for _, more := range []int{0, 1, 2, 59, 60, 61, 600, 1000 - n} {
				if n+more > 1000 {
					continue
				}
				want := count + strings.Count(signs[n:n+more], "1")
				if all, ok := impl.SetCount(s, n+more); !ok || all != want {
					t.Fatalf("SetCount(%q, %d) is %d %v, not %d", s, n+more, all, ok, want)
				}
			}
		}
	}
}
