package tests

import (
	"math"

	"math/big"
	"slices"

	"strings"
	"testing"

	"loop.example/oneletter/impl"
)

const (
	// sumSigns are many more numbers than tell a sum of two small sets.
	sumSigns = 700
	// starSigns are more numbers than StarHas asks about.
	starSigns = 2100
)

// bigOf returns the numbers of a set that are less than size, as the bits of one number.
func bigOf(s string, size int) *big.Int {
	out := new(big.Int)
	for n, sign := range unroll(s, size)[:size] {
		if sign == '1' {
			out.SetBit(out, n, 1)
		}
	}
	return out
}

// bigSum returns the sums of a number of each of two sets that are less than size.
func bigSum(a *big.Int, b *big.Int, size int) *big.Int {
	out := new(big.Int)
	for n := range size {
		if a.Bit(n) == 1 {
			out.Or(out, new(big.Int).Lsh(b, uint(n)))
		}
	}
	one := big.NewInt(1)
	return out.And(out, new(big.Int).Sub(new(big.Int).Lsh(one, uint(size)), one))
}

// knownStars keeps what bigStar found.
var knownStars = map[string]*big.Int{}

// bigStar returns the numbers of the star of a set that are less than starSigns: it adds sums to 0 and the set until all are there.
func bigStar(s string) *big.Int {
	if knownStars[s] == nil {
		star := new(big.Int).SetBit(bigOf(s, starSigns), 0, 1)
		for {
			more := bigSum(star, star, starSigns)
			if more.Cmp(star) == 0 {
				break
			}
			star = more
		}
		knownStars[s] = star
	}
	return knownStars[s]
}

// textOfBig returns the tidy text of a set that is told by its first numbers, and true, if it is not too long.
func textOfBig(set *big.Int, size int) (string, bool) {
	return wanted(size, func(n int) bool { return set.Bit(n) == 1 })
}

// sumWanted returns the tidy text of the sum of two sets, and true, if it is not too long.
func sumWanted(a string, b string) (string, bool) {
	return textOfBig(bigSum(bigOf(a, sumSigns), bigOf(b, sumSigns), sumSigns), sumSigns)
}

// isSmall reports whether the tidy text of a set has at most 8 signs in each part.
func isSmall(s string) bool {
	open := strings.Index(tidyByTryingTable(s), "(")
	return open <= 8 && len(tidyByTryingTable(s))-open-2 <= 8
}

// bareSmall are sets without 0 whose tidy texts have tails and rings of up to 8 signs.
func bareSmall() []string {
	return []string{
		"(0)", "01(0)", "001(0)", "0(1)", "(01)", "(001)", "0011(0)", "0001010(0)", "00000001(0)", "00001001(0)", "01111111(0)", "00000000(1)", "00000011(1)",
		"(00000001)", "(01000000)", "(00000111)", "0(00000001)", "0000(0001)", "0000000(0000001)", "0000001(0000001)", "000000(0000001)",
		"00000000(00000001)", "00000001(00000001)", "00000001(00000010)", "01010101(00000001)", "00000000(0000001)", "00000001(00000100)",
		"000000(10000001)", "00000(0010001)", "000000(000001)", "0000000(00001001)", "00(00000001)", "000(0000001)", "0000(00001001)", "00000000(00001)", "00000000(01)", "0010(001)", "0001(10)",
	}
}

// withZero returns a text of the same set and 0, which is not tidy where the given tail has no signs.
func withZero(s string) string {
	if s[0] == '(' {
		s = s[1:len(s)-1] + s
	}
	return "1" + s[1:]
}

// longer returns a text of the same set with a tail of 60 signs, and a ring of more than 8, up to 60.
func longer(s string) string {
	signs := unroll(s, 200)
	ring := len(s) - 2 - strings.Index(s, "(")
	return signs[:60] + "(" + signs[60:60+60/ring*ring] + ")"
}

// smallSets are texts of small sets: sets without 0, and the same sets with 0, told by tidy texts and by longer ones.
func smallSets() []string {
	out := []string{"(1)", "1(0)", "11(0)", "(10)", "(100)", "(10000000)", "1(01)", "000(00)", "(11111110)", "(01010100)"}
	for i, s := range bareSmall() {
		out = append(out, s, withZero(s))
		if i%4 == 0 {
			out = append(out, longer(s), longer(withZero(s)))
		}
	}
	return out
}

// notSmall are set texts of sets that are not small: of parts that are just too long, or far too long, with 0 and without it.
func notSmall() []string {
	out := []string{
		"000000001(0)", "100000001(0)", "111111111(0)", "000000000(1)", "100000000(1)", "111111110(1)", "000000001(10)", "000000001(00000010)", "000000000(00000001)", "100000000(00000001)",
		"(000000001)", "(100000000)", "(111111110)", "0(000000001)", "00000001(100000000)", "000000001(000000010)", "(001001000)", "(0101010100)", "(1000000000)",
		zeros60[1:] + "1(0)", zeros60 + "(1)", "(" + zeros60[1:] + "1)", "(1" + zeros60[1:] + ")", ones60 + "(0)", ones60 + "(" + zeros60[1:] + "1)",
	}
	for _, s := range longTexts() {
		if !isSmall(s) {
			out = append(out, s)
		}
	}
	return out
}

// badTexts are texts that are no set texts, and those of sets that are not small.
func badTexts() []string {
	return append(noTexts(), notSmall()...)
}

// makesOfOne is a function that makes a set of one set.
type makesOfOne func(s string) (string, bool)

// checkMakes checks what is made of one set, and that nothing is made of what is no set text, or not small.
func checkMakes(t *testing.T, name string, made makesOfOne, examples [][2]string) {
	t.Helper()
	for _, c := range examples {
		if text, ok := made(c[0]); ok != (c[1] != "") || text != c[1] {
			t.Errorf("%s(%q) is %q %v, not %q", name, c[0], text, ok, c[1])
		}
	}
	for _, s := range badTexts() {
		if text, ok := made(s); ok || text != "" {
			t.Errorf("%s(%q) is %q %v", name, s, text, ok)
		}
	}
}

func TestP33Sum(t *testing.T) {
	long := 0
	for _, texts := range [][]string{smallTexts(2, 2), smallSets()} {
		for _, a := range texts {
			for _, b := range texts {
				want, fits := sumWanted(a, b)
				if text, ok := impl.SumOf(a, b); ok != fits || text != want {
					t.Fatalf("SumOf(%q, %q) is %q %v, not %q %v", a, b, text, ok, want, fits)
				}
				if !fits {
					long++
				}
			}
		}
	}
	if long < 20 {
		t.Errorf("just %d sums were too long", long)
	}
}

func TestP33SumNumbers(t *testing.T) {
	for i, a := range smallSets() {
		for k, b := range smallSets() {
			text, ok := impl.SumOf(a, b)
			again, okAgain := impl.SumOf(b, a)
			if text != again || ok != okAgain {
				t.Fatalf("SumOf of %q and %q is %q %v, turned round %q %v", a, b, text, ok, again, okAgain)
			}
			for n := 0; ok && (i+k)%5 == 0 && n < 250; n++ {
				is := false
				for first := range n + 1 {
					is = is || impl.SetHas(a, first) && impl.SetHas(b, n-first)
				}
				if impl.SetHas(text, n) != is {
					t.Fatalf("SumOf(%q, %q) is %q, which tells the wrong of %d", a, b, text, n)
				}
			}
		}
	}
}

func TestP33SumExamples(t *testing.T) {
	checkPairExamples(t, "SumOf", impl.SumOf, []pairExample{
		{"01(0)", "01(0)", "001(0)"}, {"1(0)", "1(0)", "1(0)"}, {"11(0)", "11(0)", "111(0)"}, {"101(0)", "01(0)", "0101(0)"}, {"011(0)", "1001(0)", "011011(0)"},
		{"1(0)", "0101(01)", "(01)"}, {"(0)", "(1)", "(0)"}, {"000(00)", "1(0)", "(0)"}, {"(0)", "(0)", "(0)"}, {"(0)", "00000000(00000001)", "(0)"},
		{"(1)", "(1)", "(1)"}, {"(1)", "1(0)", "(1)"}, {"(1)", "0001(0)", "000(1)"}, {"(1)", "1001(0)", "(1)"}, {"(1)", "(00000001)", "0000000(1)"},
		{"(01)", "(01)", "0(01)"}, {"(10)", "(01)", "(01)"}, {"(10)", "(10)", "(10)"}, {"(10)", "(100)", "10(1)"}, {"(01)", "1(0)", "(01)"}, {"(01)", "11(0)", "0(1)"}, {"0(01)", "11(0)", "00(1)"},
		{"00000001(0)", "00000001(0)", zeros60[:14] + "1(0)"}, {"10000001(0)", "00000001(0)", "000000010000001(0)"}, {"10000001(0)", "10000001(0)", "100000010000001(0)"},
		{"(10000000)", "(10000000)", "(10000000)"}, {"(10000)", "(1000)", "100011001110(1)"}, {"00000000(1)", "00000000(1)", zeros60[:16] + "(1)"}, {"10000000(1)", "10000000(1)", "10000000(1)"},
		{longer("01(0)"), longer("01(0)"), "001(0)"}, {zeros60 + "(" + zeros60 + ")", ones60 + "(" + ones60 + ")", "(0)"},
	})
	for _, c := range []struct {
		s, t       string
		tail, ring int
	}{
		{"00000000(1)", "00000001(0)", 15, 1}, {"10000000(00000001)", "10000000(000001)", 39, 24}, {"000000(0000001)", "000000(00000011)", 59, 1},
		{"000000(0000001)", "000000(10000001)", 60, 1}, {"100000(0000001)", "000000(10000001)", 60, 1}, {"100000(0000001)", "100000(10000001)", 60, 1},
		{"(10000000)", "(1000000)", 42, 1}, {"(00000001)", "(0000001)", 55, 1},
	} {
		want, _ := sumWanted(c.s, c.t)
		text, ok := impl.SumOf(c.s, c.t)
		if tail := strings.Index(text, "("); !ok || text != want || tail != c.tail || len(text)-tail-2 != c.ring {
			t.Errorf("SumOf(%q, %q) is %q %v, not %q", c.s, c.t, text, ok, want)
		}
	}
	for _, c := range [][2]string{
		{"000000(0000001)", "000001(00000010)"}, {"00000001(00000010)", "0000000(0000001)"}, {"000000(0000001)", "00000000(00000001)"}, {"00000000(00000001)", "0000000(0000001)"},
	} {
		if text, ok := impl.SumOf(c[0], c[1]); ok || text != "" {
			t.Errorf("SumOf(%q, %q) is %q", c[0], c[1], text)
		}
	}
}

func TestP33SumFails(t *testing.T) {
	for _, bad := range badTexts() {
		for _, other := range []string{"(0)", "1(0)", "(1)", "0101(01)", "00000001(00000001)", bad, ""} {
			for _, pair := range [][2]string{{bad, other}, {other, bad}} {
				if text, ok := impl.SumOf(pair[0], pair[1]); ok || text != "" {
					t.Errorf("SumOf(%q, %q) is %q %v", pair[0], pair[1], text, ok)
				}
			}
		}
	}
}

// timesWanted returns the tidy text of a set's sum with itself, made by one sum after the other, and true, if none of these fails.
func timesWanted(s string, k int) (string, bool) {
	sum := "1(0)"
	for range k {
		if !isSmall(sum) {
			return "", false
		}
		next, ok := sumWanted(sum, s)
		if !ok {
			return "", false
		}
		sum = next
	}
	return sum, true
}

func TestP34Times(t *testing.T) {
	made, failed := 0, 0
	for _, s := range append(smallTexts(2, 3), smallSets()...) {
		for k := range 7 {
			want, fits := timesWanted(s, k)
			text, ok := impl.SumTimes(s, k)
			if ok != fits || text != want {
				t.Fatalf("SumTimes(%q, %d) is %q %v, not %q %v", s, k, text, ok, want, fits)
			}
			if !fits {
				failed++
			}
			less, okLess := impl.SumTimes(s, k-1)
			if !ok || !okLess {
				continue
			}
			made++
			if sum, ok := impl.SumOf(less, s); !ok || sum != text {
				t.Fatalf("SumTimes(%q, %d) is %q, SumOf of one less and the set %q %v", s, k, text, sum, ok)
			}
		}
	}
	if made < 500 || failed < 50 {
		t.Errorf("just %d were made, and %d failed", made, failed)
	}
}

func TestP34TimesExamples(t *testing.T) {
	checkOneExamples(t, "SumTimes", impl.SumTimes, []oneExample{
		{"01(0)", 0, "1(0)"}, {"01(0)", 1, "01(0)"}, {"01(0)", 2, "001(0)"}, {"01(0)", 6, "0000001(0)"}, {"11(0)", 6, "1111111(0)"}, {"1(0)", 0, "1(0)"}, {"1(0)", 6, "1(0)"},
		{"(0)", 0, "1(0)"}, {"(0)", 1, "(0)"}, {"(0)", 2, "(0)"}, {"000(00)", 6, "(0)"}, {"(1)", 0, "1(0)"}, {"(1)", 1, "(1)"}, {"(1)", 6, "(1)"}, {"0(1)", 6, "000000(1)"},
		{"(10)", 6, "(10)"}, {"(01)", 0, "1(0)"}, {"0101(01)", 1, "(01)"}, {"(01)", 2, "0(01)"}, {"(01)", 3, "00(01)"}, {"(01)", 6, "00000(01)"}, {"1(01)", 2, "(10)"},
		{longer("01(0)"), 0, "1(0)"}, {longer("01(0)"), 1, "01(0)"}, {longer("11(0)"), 3, "1111(0)"}, {"00000001(00000001)", 1, "(00000001)"},
		// A sum on the way has a tail of 8 signs in one of these sets, and of 9 in the next one.
		{"0001(0)", 2, "0000001(0)"}, {"0001(0)", 3, "0000000001(0)"}, {"0001(0)", 4, ""}, {"00000001(0)", 2, zeros60[:14] + "1(0)"}, {"00000001(0)", 3, ""}, {"00000001(0)", 6, ""},
		{"0000(1)", 2, "00000000(1)"}, {"0000(1)", 3, zeros60[:12] + "(1)"}, {"0000(1)", 4, ""}, {"00001(0)", 2, "000000001(0)"}, {"00001(0)", 3, ""}, {"100001(0)", 2, "10000100001(0)"}, {"100001(0)", 3, ""},
	})
	for _, s := range badTexts() {
		for _, k := range []int{-1, 0, 1, 2, 6, 7} {
			if text, ok := impl.SumTimes(s, k); ok || text != "" {
				t.Errorf("SumTimes(%q, %d) is %q %v", s, k, text, ok)
			}
		}
	}
	for _, s := range []string{"(0)", "1(0)", "(1)", "01(0)", "(10)"} {
		for _, k := range []int{-1, -2, -6, 7, 8, 100, math.MinInt, math.MaxInt} {
			if text, ok := impl.SumTimes(s, k); ok || text != "" {
				t.Errorf("SumTimes(%q, %d) is %q %v", s, k, text, ok)
			}
		}
	}
}

func TestP35Double(t *testing.T) {
	for _, s := range append(smallTexts(3, 4), smallSets()...) {
		signs := unroll(s, sumSigns)
		want, _ := wanted(sumSigns, func(n int) bool {
			for less := 0; less < n-less; less++ {
				if signs[less] == '1' && signs[n-less] == '1' {
					return true
				}
			}
			return false
		})
		if text, ok := impl.SumDouble(s); !ok || text != want {
			t.Fatalf("SumDouble(%q) is %q %v, not %q", s, text, ok, want)
		}
	}
	checkMakes(t, "SumDouble", impl.SumDouble, [][2]string{
		{"(0)", "(0)"}, {"000(00)", "(0)"}, {"1(0)", "(0)"}, {"01(0)", "(0)"}, {"00000001(0)", "(0)"}, {"11(0)", "01(0)"}, {"1001(0)", "0001(0)"}, {"0101(0)", "00001(0)"},
		{"00000011(0)", zeros60[:13] + "1(0)"}, {"10000001(0)", "00000001(0)"}, {"111(0)", "0111(0)"}, {"011(0)", "0001(0)"}, {"0111(0)", "000111(0)"},
		{"(1)", "0(1)"}, {"0(1)", "000(1)"}, {"(10)", "0(01)"}, {"(01)", "000(01)"}, {"(100)", "0(001)"},
		{longer("1(0)"), "(0)"}, {longer("11(0)"), "01(0)"}, {longer("(1)"), "0(1)"}, {"(10000000)", "0(00000001)"}, {"(00000001)", zeros60[:15] + "(00000001)"},
	})
}

// starWanted returns the tidy text of the star of a set, and true, if it is not too long.
func starWanted(s string) (string, bool) {
	return textOfBig(bigStar(s), starSigns)
}

// starSets are small sets of all kinds, more of them than for sums.
func starSets() []string {
	out := append(smallTexts(2, 3), smallSets()...)
	for seed := range 60 {
		// Few numbers give long stars.
		tail, ring := mixed(seed, 24)[seed%9:], mixed(seed+100, 24)[seed%8:]
		bare := strings.Repeat("0", 1+seed%8) + "(" + ring[:1+seed%8] + ")"
		out = append(out, tail[:seed%9]+"("+ring[:8-seed%8]+")", bare, withZero(bare))
	}
	return out
}

func TestP36Star(t *testing.T) {
	long := 0
	for _, s := range starSets() {
		want, fits := starWanted(s)
		text, ok := impl.StarOf(s)
		if ok != fits || text != want {
			t.Fatalf("StarOf(%q) is %q %v, not %q %v", s, text, ok, want, fits)
		}
		if !ok {
			long++
			continue
		}
		for n := range 130 {
			if impl.SetHas(s, n) && !impl.SetHas(text, n) || n == 0 && !impl.SetHas(text, n) {
				t.Fatalf("StarOf(%q) is %q, without %d", s, text, n)
			}
			for less := 0; less <= n && impl.SetHas(text, n); less++ {
				if impl.SetHas(text, less) && !impl.SetHas(text, n+less) {
					t.Fatalf("StarOf(%q) is %q, without the sum of %d and %d", s, text, n, less)
				}
			}
		}
		if again, ok := impl.StarOf(text); ok != isSmall(text) || ok && again != text {
			t.Fatalf("StarOf(%q) is %q, its own star is %q %v", s, text, again, ok)
		}
	}
	if long < 10 {
		t.Errorf("just %d stars were too long", long)
	}
}

func TestP36StarExamples(t *testing.T) {
	checkMakes(t, "StarOf", impl.StarOf, [][2]string{
		{"(0)", "1(0)"}, {"000(00)", "1(0)"}, {"1(0)", "1(0)"}, {"100(00)", "1(0)"}, {"(1)", "(1)"}, {"0(1)", "(1)"}, {"01(0)", "(1)"}, {"11(0)", "(1)"},
		{"001(0)", "(10)"}, {"101(0)", "(10)"}, {"(10)", "(10)"}, {"00(10)", "(10)"}, {"0011(0)", "10(1)"}, {"1011(0)", "10(1)"}, {"0001010(0)", "10010110(1)"}, {"1001010(0)", "10010110(1)"},
		{"00001010(0)", "100(01)"}, {"00000001(0)", "(1000000)"}, {"0(00000001)", "(10000000)"}, {"(10000000)", "(10000000)"}, {"00000000(1)", "10000000(1)"}, {"10000000(1)", "10000000(1)"},
		{"00000001(00000001)", "1000000100000011000001110000111100011111001111110(1)"}, {longer("001(0)"), "(10)"}, {longer("101(0)"), "(10)"}, {longer("(0)"), "1(0)"}, {longer("0011(0)"), "10(1)"},
	})
	for _, s := range []string{"00000(0010001)", "10000(0010001)", "00000000(000011)", "10000010(000001)", "00000001(0001000)"} {
		want, _ := starWanted(s)
		if text, ok := impl.StarOf(s); !ok || text != want || strings.Index(text, "(") != 60 {
			t.Errorf("StarOf(%q) is %q %v, not %q of a tail of 60", s, text, ok, want)
		}
	}
	for _, s := range []string{"000000(000001)", "100000(000001)", "0000(0000001)", "1000(0000001)", "00(00000001)", "10(00000001)", "00000000(00000001)", "10000000(00000001)", "10000001(0000010)"} {
		if text, ok := impl.StarOf(s); ok || text != "" {
			t.Errorf("StarOf(%q) is %q %v", s, text, ok)
		}
	}
}

func TestP37Plus(t *testing.T) {
	for _, s := range starSets() {
		star := bigStar(s)
		want, fits := wanted(starSigns, func(n int) bool { return star.Bit(n) == 1 && (n > 0 || unroll(s, 1)[0] == '1') })
		text, ok := impl.StarPlus(s)
		if ok != fits || text != want {
			t.Fatalf("StarPlus(%q) is %q %v, not %q %v", s, text, ok, want, fits)
		}
		whole, okStar := impl.StarOf(s)
		if ok != okStar {
			t.Fatalf("of %q, StarPlus is %v and StarOf %v", s, ok, okStar)
		}
		if !ok {
			continue
		}
		if impl.SetHas(text, 0) != impl.SetHas(s, 0) {
			t.Fatalf("StarPlus(%q) is %q, which tells the wrong of 0", s, text)
		}
		if either, ok := impl.MakeEither(text, "1(0)"); !ok || either != whole {
			t.Fatalf("StarPlus(%q) is %q, and with 0 %q %v, not %q", s, text, either, ok, whole)
		}
	}
	checkMakes(t, "StarPlus", impl.StarPlus, [][2]string{
		{"(0)", "(0)"}, {"000(00)", "(0)"}, {"1(0)", "1(0)"}, {"100(00)", "1(0)"}, {"(1)", "(1)"}, {"0(1)", "0(1)"}, {"01(0)", "0(1)"}, {"11(0)", "(1)"},
		{"001(0)", "0(01)"}, {"101(0)", "(10)"}, {"(10)", "(10)"}, {"00(10)", "0(01)"}, {"0011(0)", "00(1)"}, {"1011(0)", "10(1)"}, {"0001010(0)", "00010110(1)"}, {"1001010(0)", "10010110(1)"},
		{"00000001(0)", "0(0000001)"}, {"10000001(0)", "(1000000)"}, {"0(00000001)", "0(00000001)"}, {"(10000000)", "(10000000)"}, {longer("001(0)"), "0(01)"}, {longer("101(0)"), "(10)"}, {longer("(0)"), "(0)"},
		{"000000(000001)", ""}, {"100000(000001)", ""}, {"00000000(00000001)", ""}, {"10000000(00000001)", ""},
	})
	for _, s := range []string{"00000(0010001)", "10000(0010001)", "00000000(000011)", "10000010(000001)"} {
		text, ok := impl.StarPlus(s)
		if !ok || strings.Index(text, "(") != 60 || text[0] != s[0] {
			t.Errorf("StarPlus(%q) is %q %v", s, text, ok)
		}
	}
}

func TestP38StarHas(t *testing.T) {
	long := 0
	for i, s := range starSets() {
		text, ok := impl.StarOf(s)
		star := bigStar(s)
		if !ok {
			long++
		}
		for n := 0; n <= 2000; n++ {
			if i%10 != 0 && 150 < n && n < 1990 {
				continue
			}
			is := impl.StarHas(s, n)
			if is != (star.Bit(n) == 1) || ok && is != impl.SetHas(text, n) {
				t.Fatalf("StarHas(%q, %d) is %v, StarOf is %q %v", s, n, is, text, ok)
			}
		}
	}
	if long < 10 {
		t.Errorf("just %d stars were too long", long)
	}
}

func TestP38StarHasEnds(t *testing.T) {
	for _, s := range append(starSets(), "(1)", "01(0)") {
		if !impl.StarHas(s, 0) {
			t.Errorf("0 is not in the star of %q", s)
		}
		for _, n := range []int{-1, -2, -2000, 2001, 2002, 2008, 2100, 100000, math.MinInt, math.MaxInt} {
			if impl.StarHas(s, n) {
				t.Errorf("StarHas(%q, %d) holds", s, n)
			}
		}
	}
	for _, c := range []struct {
		s  string
		n  int
		is bool
	}{
		{"(1)", 2000, true}, {"01(0)", 2000, true}, {"001(0)", 2000, true}, {"001(0)", 1999, false}, {"(10)", 1999, false}, {"(10000000)", 2000, true}, {"0001(0)", 2000, false}, {"0001(0)", 1998, true},
		{"1(0)", 0, true}, {"1(0)", 1, false}, {"1(0)", 2000, false}, {"(0)", 0, true}, {"000(00)", 0, true}, {"(0)", 1, false}, {"(0)", 2000, false}, {"000(00)", 2000, false},
		{"00000000(00000001)", 112, false}, {"00000000(00000001)", 113, true}, {"10000000(00000001)", 112, false}, {"10000000(00000001)", 113, true}, {"00000000(00000001)", 2000, true}, {"00000000(00000001)", 15, true}, {longer("001(0)"), 4, true}, {longer("101(0)"), 5, false},
	} {
		if impl.StarHas(c.s, c.n) != c.is {
			t.Errorf("StarHas(%q, %d) is not %v", c.s, c.n, c.is)
		}
	}
	for _, s := range badTexts() {
		for _, n := range []int{-1, 0, 1, 2, 8, 9, 60, 100, 1999, 2000, 2001} {
			if impl.StarHas(s, n) {
				t.Errorf("StarHas(%q, %d) holds", s, n)
			}
		}
	}
}

func TestP39Gap(t *testing.T) {
	gaps, none := 0, 0
	for _, s := range starSets() {
		star, gap := bigStar(s), -1
		for n := range starSigns {
			if star.Bit(n) == 0 {
				gap = n
			}
		}
		is := 0 <= gap && gap < starSigns-40
		got, ok := impl.StarGap(s)
		if ok != is || ok && got != gap || !ok && got != 0 {
			t.Fatalf("StarGap(%q) is %d %v, not %d %v", s, got, ok, gap, is)
		}
		if !ok {
			none++
			continue
		}
		gaps++
		for n := got; n <= got+40; n++ {
			if impl.StarHas(s, n) != (n > got) {
				t.Fatalf("StarGap(%q) is %d, but StarHas tells the wrong of %d", s, got, n)
			}
		}
	}
	if gaps < 50 || none < 50 {
		t.Errorf("just %d had a gap, and %d had none", gaps, none)
	}
}

func TestP39GapExamples(t *testing.T) {
	for _, c := range []struct {
		s   string
		gap int
		is  bool
	}{
		{"0001010(0)", 7, true}, {"1001010(0)", 7, true}, {"0011(0)", 1, true}, {"1011(0)", 1, true}, {"00000011(0)", 29, true}, {"0(0)", 0, false},
		{"(1)", 0, false}, {"01(0)", 0, false}, {"11(0)", 0, false}, {"0(1)", 0, false}, {"00(1)", 1, true}, {"10(1)", 1, true}, {"00000000(1)", 7, true},
		{"(0)", 0, false}, {"000(00)", 0, false}, {"1(0)", 0, false}, {"001(0)", 0, false}, {"101(0)", 0, false}, {"(10)", 0, false}, {"00(10)", 0, false}, {"00000001(0)", 0, false}, {"(10000000)", 0, false}, {"0(00000001)", 0, false},
		{"00000(0010001)", 59, true}, {"000000(000001)", 60, true}, {"100000(000001)", 60, true}, {"00(00000001)", 64, true}, {"00000000(00000001)", 112, true}, {"10000000(00000001)", 112, true}, {"10000000(10000001)", 97, true},
		{longer("0001010(0)"), 7, true}, {longer("(1)"), 0, false}, {longer("001(0)"), 0, false}, {longer("00000000(00000001)"), 112, true},
	} {
		if gap, ok := impl.StarGap(c.s); ok != c.is || gap != c.gap {
			t.Errorf("StarGap(%q) is %d %v, not %d %v", c.s, gap, ok, c.gap, c.is)
		}
	}
	for _, s := range badTexts() {
		if gap, ok := impl.StarGap(s); ok || gap != 0 {
			t.Errorf("StarGap(%q) is %d %v", s, gap, ok)
		}
	}
}

// partsOf returns all numbers greater than 0 of a set that are no sum of two numbers greater than 0 of its star.
func partsOf(s string) []int {
	star := bigStar(s)
	var parts []int
	for n, sign := range unroll(s, 300) {
		is := n > 0 && sign == '1'
		for less := 1; less < n && is; less++ {
			is = star.Bit(less) == 0 || star.Bit(n-less) == 0
		}
		if is {
			parts = append(parts, n)
		}
	}
	return parts
}

func TestP40Parts(t *testing.T) {
	long := 0
	for _, s := range starSets() {
		want := partsOf(s)
		fits := len(want) == 0 || want[len(want)-1] <= 59
		if !fits {
			want = nil
			long++
		}
		parts, ok := impl.StarParts(s)
		if ok != fits || !slices.Equal(parts, want) {
			t.Fatalf("StarParts(%q) is %v %v, not %v %v", s, parts, ok, want, fits)
		}
		set, okSet := impl.SetOf(parts)
		if !okSet {
			t.Fatalf("StarParts(%q) is %v, of which SetOf fails", s, parts)
		}
		if !ok {
			continue
		}
		for n := range 201 {
			if bigStar(set).Bit(n) == 1 != impl.StarHas(s, n) {
				t.Fatalf("StarParts(%q) is %v, whose star tells the wrong of %d", s, parts, n)
			}
		}
		for i, n := range parts {
			others, _ := impl.SetOf(slices.Delete(slices.Clone(parts), i, i+1))
			if !impl.SetHas(s, n) || bigStar(others).Bit(n) == 1 {
				t.Fatalf("StarParts(%q) is %v, of which %d is not in the set, or a sum of others", s, parts, n)
			}
		}
	}
	if long < 10 {
		t.Errorf("just %d sets had a part that was too great", long)
	}
}

func TestP40PartsExamples(t *testing.T) {
	for _, c := range []struct {
		s    string
		want []int
	}{
		{"(0)", nil}, {"000(00)", nil}, {"1(0)", nil}, {"100(00)", nil}, {"(1)", []int{1}}, {"0(1)", []int{1}}, {"11(0)", []int{1}}, {"01(0)", []int{1}}, {"00(1)", []int{2, 3}}, {"10(1)", []int{2, 3}},
		{"(10)", []int{2}}, {"(01)", []int{1}}, {"0001010(0)", []int{3, 5}}, {"1001010(0)", []int{3, 5}}, {"00010111(0)", []int{3, 5, 7}}, {"00101111(0)", []int{2, 5}}, {"00000001(0)", []int{7}}, {"(10000000)", []int{8}},
		{"00000000(1)", []int{8, 9, 10, 11, 12, 13, 14, 15}}, {"10000000(1)", []int{8, 9, 10, 11, 12, 13, 14, 15}}, {"(00000001)", []int{7, 15, 23, 31, 39, 47, 55}}, {"0000(00001001)", []int{8, 11}}, {"10000001(0000010)", []int{7, 13}},
		{longer("0001010(0)"), []int{3, 5}}, {longer("(0)"), nil}, {longer("1(0)"), nil}, {longer("(1)"), []int{1}},
	} {
		if parts, ok := impl.StarParts(c.s); !ok || !slices.Equal(parts, c.want) {
			t.Errorf("StarParts(%q) is %v %v, not %v", c.s, parts, ok, c.want)
		}
	}
	for _, s := range []string{"0000000(00001001)", "1000000(00001001)"} {
		if parts, ok := impl.StarParts(s); !ok || !slices.Equal(parts, partsOf(s)) || !slices.Contains(parts, 59) {
			t.Errorf("StarParts(%q) is %v %v", s, parts, ok)
		}
	}
	for _, s := range append(badTexts(), "0000000(00001)", "1000000(00001)", "10000001(00000010)", "00(00000001)", "10(00000001)", "0000(0000001)", "00000000(00000001)", "10000000(00000001)", "000000(000001)") {
		if parts, ok := impl.StarParts(s); ok || len(parts) > 0 {
			t.Errorf("StarParts(%q) is %v %v", s, parts, ok)
		}
	}
}

func TestP40PartsShareNoMemory(t *testing.T) {
	first, _ := impl.StarParts("0001010(0)")
	all := first[:cap(first)]
	for i := range all {
		all[i] = -1
	}
	if second, ok := impl.StarParts("0001010(0)"); !ok || !slices.Equal(second, []int{3, 5}) {
		t.Errorf("StarParts is %v %v, where an earlier result was changed", second, ok)
	}
}

func TestP41SumOfEither(t *testing.T) {
	texts, made := append(smallTexts(1, 2), smallSets()...), 0
	for i, a := range texts {
		for k, b := range texts {
			either, ok := impl.MakeEither(a, b)
			if !ok || (i+k)%3 > 0 {
				continue
			}
			for _, c := range []string{"(0)", "1(0)", "11(0)", "(01)", "(100)", "00000001(0)", "00000000(00000001)", "00100(00100)"} {
				sum, okSum := impl.SumOf(either, c)
				first, okFirst := impl.SumOf(a, c)
				second, okSecond := impl.SumOf(b, c)
				if !okSum || !okFirst || !okSecond {
					continue
				}
				made++
				if text, ok := impl.MakeEither(first, second); ok && text != sum {
					t.Fatalf("SumOf of MakeEither of %q and %q with %q is %q, MakeEither of both sums %q", a, b, c, sum, text)
				}
			}
		}
	}
	if made < 5000 {
		t.Errorf("just %d were made", made)
	}
}

func TestP42StarOfEither(t *testing.T) {
	texts, made := append(smallTexts(1, 2), smallSets()...), 0
	for _, a := range texts {
		for _, b := range texts {
			either, _ := impl.MakeEither(a, b)
			star, ok := impl.StarOf(either)
			first, _ := impl.StarOf(a)
			second, _ := impl.StarOf(b)
			sum, okSum := impl.SumOf(first, second)
			if !ok || !okSum {
				continue
			}
			made++
			if sum != star {
				t.Fatalf("StarOf of MakeEither of %q and %q is %q, SumOf of both stars %q", a, b, star, sum)
			}
		}
	}
	if made < 2000 {
		t.Errorf("just %d were made", made)
	}
}
