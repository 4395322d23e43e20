package tests

import (
	"math"
	"strings"
	"testing"

	"loop.example/oneletter/impl"
)

// farSigns are enough for two rings of 59 and 60 signs behind tails of 60: they come again together by 3540.
const farSigns = 4000

// knownSigns keeps what signsOf wrote.
var knownSigns = map[string]string{}

// signsOf writes a set text's signs, for as many numbers as any test here asks about.
func signsOf(s string) string {
	if knownSigns[s] == "" {
		knownSigns[s] = unroll(s, 20*farSigns)
	}
	return knownSigns[s]
}

// wanted returns the tidy text of all numbers of which the function holds, and true, if it is not too long.
func wanted(size int, holds func(n int) bool) (string, bool) {
	signs := make([]byte, size)
	for n := range signs {
		signs[n] = '0'
		if holds(n) {
			signs[n] = '1'
		}
	}
	return tidyOfSigns(string(signs))
}

// someTexts are set texts of all kinds, not too many of them.
func someTexts() []string {
	out := smallTexts(2, 3)
	for i, s := range longTexts() {
		if i%2 == 0 {
			out = append(out, s)
		}
	}
	return append(out, edgeTexts()...)
}

// edgeTexts are set texts at the ends of what tails and rings may be, sets without numbers, and tails that the ring could tell.
func edgeTexts() []string {
	zeros, ones := strings.Repeat("0", 60), strings.Repeat("1", 60)
	last, first := zeros[1:]+"1", "1"+zeros[1:]
	return []string{
		"(0)", "000(00)", zeros + "(" + zeros + ")", "(1)", ones + "(" + ones + ")", zeros + "(1)", ones + "(0)",
		last + "(0)", last + "(" + last + ")", zeros + "(" + last + ")", "(" + last + ")", "(" + first + ")", ones + "(" + last + ")",
		"(" + lateRing + ")", zeros + "(" + lateRing + ")", "(1" + zeros[2:] + ")", "(" + ones[1:] + "0)", "(" + ones[2:] + "0)",
		"0101(01)", "010(10)", "1(01)", "0011011(011)", strings.Repeat("01", 30) + "(01)", strings.Repeat("10", 30) + "(01)",
		"(" + zeros[:14] + "1)", "(0001)", "(1000)", "(" + zeros[:30] + "1)", "(" + zeros[:11] + "1)", "(00001)", "(" + zeros[:19] + "1)",
		"(11010101010101)", "(1110101010)", "(1" + zeros[:13] + ")", "(01" + zeros[:8] + ")",
	}
}

// makesPair is a function that makes a set of two sets.
type makesPair func(s string, t string) (string, bool)

// checkPairs checks what is made of each two of many sets, by one number after the other.
func checkPairs(t *testing.T, name string, made makesPair, holds func(a bool, b bool) bool) {
	t.Helper()
	check := func(size int, texts []string) {
		for _, a := range texts {
			for _, b := range texts {
				first, second := signsOf(a), signsOf(b)
				want, fits := wanted(size, func(n int) bool { return holds(first[n] == '1', second[n] == '1') })
				if text, ok := made(a, b); ok != fits || text != want {
					t.Fatalf("%s(%q, %q) is %q %v, not %q %v", name, a, b, text, ok, want, fits)
				}
			}
		}
	}
	check(200, smallTexts(2, 2))
	var long []string
	for i, s := range longTexts() {
		if i%4 == 0 {
			long = append(long, s)
		}
	}
	check(farSigns, append(long, edgeTexts()...))
}

// pairExample is what is made of two sets; it is too long if the text is empty.
type pairExample struct{ s, t, want string }

func checkPairExamples(t *testing.T, name string, made makesPair, examples []pairExample) {
	t.Helper()
	for _, c := range examples {
		if text, ok := made(c.s, c.t); ok != (c.want != "") || text != c.want {
			t.Errorf("%s(%q, %q) is %q %v, not %q", name, c.s, c.t, text, ok, c.want)
		}
	}
}

// checkPairNoTexts checks that nothing is made where one of two texts is no set text.
func checkPairNoTexts(t *testing.T, name string, made makesPair) {
	t.Helper()
	for _, s := range noTexts() {
		for _, o := range []string{"(0)", "(1)", "01(10)", s, ""} {
			for _, pair := range [][2]string{{s, o}, {o, s}} {
				if text, ok := made(pair[0], pair[1]); ok || text != "" {
					t.Errorf("%s(%q, %q) is %q %v", name, pair[0], pair[1], text, ok)
				}
			}
		}
	}
}

var (
	zeros60 = strings.Repeat("0", 60)
	ones60  = strings.Repeat("1", 60)
)

func TestP13Either(t *testing.T) {
	checkPairs(t, "MakeEither", impl.MakeEither, func(a bool, b bool) bool { return a || b })
	checkPairNoTexts(t, "MakeEither", impl.MakeEither)
	checkPairExamples(t, "MakeEither", impl.MakeEither, []pairExample{
		{"(01)", "(10)", "(1)"}, {"(0)", "000(00)", "(0)"}, {"00(0)", "(011)", "(011)"}, {"(01)", "(001)", "(011101)"},
		{"1(0)", "001(0)", "101(0)"}, {"0101(01)", "10(10)", "(1)"}, {"1(01)", "(0)", "(10)"}, {"1(0)", "0(1)", "(1)"},
		{zeros60[1:] + "1(0)", "1(0)", "1" + zeros60[2:] + "1(0)"}, {zeros60 + "(1)", "1(0)", "1" + zeros60[1:] + "(1)"},
		{"(10)", "(1" + zeros60[:29] + ")", "(10)"}, {"(01)", "(1" + zeros60[:30] + ")", ""}, {"(" + zeros60[1:] + "1)", "(0)", "(" + zeros60[1:] + "1)"},
		{"(11010101010101)", "(1110101010)", "(1)"}, {"(" + ones60[2:] + "0)", "(" + ones60[1:] + "0)", ""}, {"(" + lateRing + ")", "(" + ones60 + ")", "(1)"},
	})
}

func TestP14Both(t *testing.T) {
	checkPairs(t, "MakeBoth", impl.MakeBoth, func(a bool, b bool) bool { return a && b })
	checkPairNoTexts(t, "MakeBoth", impl.MakeBoth)
	checkPairExamples(t, "MakeBoth", impl.MakeBoth, []pairExample{
		{"(01)", "(10)", "(0)"}, {"(1)", "111(11)", "(1)"}, {"(1)", "00(011)", "00(011)"}, {"(01)", "(001)", "(000001)"},
		{"1(0)", "(10)", "1(0)"}, {"0101(01)", "01(01)", "(01)"}, {"000(00)", "(1)", "(0)"},
		{ones60 + "(0)", "(1)", ones60 + "(0)"}, {zeros60 + "(1)", "(01)", zeros60 + "(01)"}, {zeros60 + "(1)", "(10)", zeros60[1:] + "(01)"},
		{"(0001)", "(" + zeros60[:14] + "1)", "(" + zeros60[1:] + "1)"}, {"(01)", "(" + zeros60[:30] + "1)", ""},
		{"(1" + zeros60[:13] + ")", "(01" + zeros60[:8] + ")", "(0)"}, {"(11010101010101)", "(1110101010)", ""},
	})
}

func TestP15Without(t *testing.T) {
	checkPairs(t, "MakeWithout", impl.MakeWithout, func(a bool, b bool) bool { return a && !b })
	checkPairNoTexts(t, "MakeWithout", impl.MakeWithout)
	checkPairExamples(t, "MakeWithout", impl.MakeWithout, []pairExample{
		{"(1)", "(10)", "(01)"}, {"(10)", "(1)", "(0)"}, {"(01)", "(001)", "(010100)"}, {"(001)", "(01)", "(001000)"},
		{"(011)", "000(00)", "(011)"}, {"000(00)", "(011)", "(0)"}, {"0101(01)", "1(01)", "(01)"}, {"(1)", "1(0)", "0(1)"},
		{"(1)", zeros60 + "(1)", ones60 + "(0)"}, {"(1)", zeros60[1:] + "1(0)", ones60[1:] + "0(1)"},
		{"(0001)", "(" + ones60[:14] + "0)", "(" + zeros60[1:] + "1)"}, {"(01)", "(" + zeros60[:30] + "1)", ""},
		{"(11010101010101)", "(1110101010)", "(0001010101)"}, {"(11010101010101)", "(1000000000)", ""},
	})
}

func TestP13P14P15ThatAreLongVeryLate(t *testing.T) {
	// Just the last number of a round of 59 times 60 tells these sets from shorter ones.
	a, b := "("+lateRing+")", "("+zeros60[1:]+"1)"
	notA, notB := "("+ones60[2:]+"0)", "("+ones60[1:]+"0)"
	for _, tail := range []string{"", zeros60, ones60} {
		for _, c := range []struct {
			name string
			made makesPair
			s, t string
		}{{"MakeEither", impl.MakeEither, notA, notB}, {"MakeBoth", impl.MakeBoth, a, b}, {"MakeWithout", impl.MakeWithout, a, notB}} {
			if text, ok := c.made(tail+c.s, tail+c.t); ok || text != "" {
				t.Errorf("%s(%q, %q) is %q %v", c.name, tail+c.s, tail+c.t, text, ok)
			}
			if text, ok := c.made(tail+c.t, tail+c.s); (c.name != "MakeWithout") && (ok || text != "") {
				t.Errorf("%s(%q, %q) is %q %v", c.name, tail+c.t, tail+c.s, text, ok)
			}
		}
	}
}

func TestP16Other(t *testing.T) {
	for _, s := range append(someTexts(), longTexts()...) {
		signs := signsOf(s)
		want, _ := wanted(600, func(n int) bool { return signs[n] == '0' })
		text, ok := impl.MakeOther(s)
		if !ok || text != want {
			t.Fatalf("MakeOther(%q) is %q %v, not %q", s, text, ok, want)
		}
		if again, ok := impl.MakeOther(text); !ok || again != tidyByTryingTable(s) {
			t.Errorf("MakeOther twice of %q is %q %v", s, again, ok)
		}
	}
	for _, c := range [][2]string{
		{"(0)", "(1)"}, {"000(00)", "(1)"}, {"(1)", "(0)"}, {"11(11)", "(0)"}, {"(01)", "(10)"}, {"0101(01)", "(10)"}, {"1(0)", "0(1)"},
		{zeros60 + "(1)", ones60 + "(0)"}, {zeros60[1:] + "1(0)", ones60[1:] + "0(1)"}, {"(" + zeros60[1:] + "1)", "(" + ones60[1:] + "0)"},
		{ones60 + "(" + zeros60[1:] + "1)", zeros60[1:] + "(0" + ones60[1:] + ")"},
	} {
		if text, ok := impl.MakeOther(c[0]); !ok || text != c[1] {
			t.Errorf("MakeOther(%q) is %q %v, not %q", c[0], text, ok, c[1])
		}
	}
	for _, s := range noTexts() {
		if text, ok := impl.MakeOther(s); ok || text != "" {
			t.Errorf("MakeOther(%q) is %q %v", s, text, ok)
		}
	}
}

// makesOne is a function that makes a set of one set and a number.
type makesOne func(s string, k int) (string, bool)

// checkOnes checks what is made of many sets with each of some numbers; holds tells of a set's signs whether a number is in what is made.
func checkOnes(t *testing.T, name string, made makesOne, ks []int, size int, holds func(signs string, k int, n int) bool) {
	t.Helper()
	for _, s := range someTexts() {
		signs := signsOf(s)
		for _, k := range ks {
			want, fits := wanted(size, func(n int) bool { return holds(signs, k, n) })
			if text, ok := made(s, k); ok != fits || text != want {
				t.Fatalf("%s(%q, %d) is %q %v, not %q %v", name, s, k, text, ok, want, fits)
			}
		}
	}
}

// oneExample is what is made of a set and a number; it is too long if the text is empty.
type oneExample struct {
	s    string
	k    int
	want string
}

func checkOneExamples(t *testing.T, name string, made makesOne, examples []oneExample) {
	t.Helper()
	for _, c := range examples {
		if text, ok := made(c.s, c.k); ok != (c.want != "") || text != c.want {
			t.Errorf("%s(%q, %d) is %q %v, not %q", name, c.s, c.k, text, ok, c.want)
		}
	}
}

// checkOneFails checks that nothing is made of what is no set text, nor with numbers out of the range.
func checkOneFails(t *testing.T, name string, made makesOne, least int, most int) {
	t.Helper()
	for _, s := range noTexts() {
		for _, k := range []int{-1, 0, 1, 2, most, most + 1} {
			if text, ok := made(s, k); ok || text != "" {
				t.Errorf("%s(%q, %d) is %q %v", name, s, k, text, ok)
			}
		}
	}
	for _, s := range []string{"(0)", "(1)", "1(0)", "(01)", zeros60 + "(1)"} {
		for _, k := range []int{least - 1, -1, -2, -60, most + 1, most + 2, 100000, math.MinInt, math.MaxInt, math.MaxInt/2 + 1} {
			if text, ok := made(s, k); ok || text != "" {
				t.Errorf("%s(%q, %d) is %q %v", name, s, k, text, ok)
			}
		}
		for _, k := range []int{least, most} {
			if _, ok := made("(0)", k); !ok {
				t.Errorf("%s of no numbers and %d fails", name, k)
			}
		}
	}
}

func TestP17Up(t *testing.T) {
	checkOnes(t, "MakeUp", impl.MakeUp, []int{0, 1, 2, 3, 30, 59, 60}, 600, func(signs string, k int, n int) bool {
		return n >= k && signs[n-k] == '1'
	})
	checkOneFails(t, "MakeUp", impl.MakeUp, 0, 60)
	last := zeros60[1:] + "1"
	checkOneExamples(t, "MakeUp", impl.MakeUp, []oneExample{
		{"0101(01)", 0, "(01)"}, {"0101(01)", 1, "0(01)"}, {"(01)", 2, "00(01)"}, {"(10)", 1, "(01)"}, {"(10)", 2, "0(01)"},
		{"000(00)", 60, "(0)"}, {"(0)", 60, "(0)"}, {"(1)", 60, zeros60 + "(1)"}, {"0(1)", 60, ""}, {"0(1)", 59, zeros60 + "(1)"},
		{"1(0)", 59, last + "(0)"}, {"1(0)", 60, ""}, {last + "(0)", 0, last + "(0)"}, {last + "(0)", 1, ""}, {ones60 + "(0)", 1, ""},
		{"(01)", 60, zeros60 + "(01)"}, {"0(01)", 60, ""}, {"(10)", 60, zeros60[1:] + "(01)"}, {"111(1)", 60, zeros60 + "(1)"},
		{"(" + last + ")", 60, zeros60 + "(" + last + ")"}, {"(1" + zeros60[1:] + ")", 60, "0(" + last + ")"}, {zeros60 + "(" + last + ")", 1, ""},
	})
}

func TestP18Down(t *testing.T) {
	checkOnes(t, "MakeDown", impl.MakeDown, []int{0, 1, 2, 3, 59, 60, 61, 119, 120, 500, 999, 1000}, 600, func(signs string, k int, n int) bool {
		return signs[n+k] == '1'
	})
	checkOneFails(t, "MakeDown", impl.MakeDown, 0, 1000)
	last := zeros60[1:] + "1"
	checkOneExamples(t, "MakeDown", impl.MakeDown, []oneExample{
		{"0101(01)", 0, "(01)"}, {"(01)", 1, "(10)"}, {"01(0)", 1, "1(0)"}, {"01(0)", 2, "(0)"}, {"000(00)", 1000, "(0)"},
		{zeros60 + "(1)", 0, zeros60 + "(1)"}, {zeros60 + "(1)", 59, "0(1)"}, {zeros60 + "(1)", 60, "(1)"}, {zeros60 + "(1)", 1000, "(1)"},
		{last + "(0)", 0, last + "(0)"}, {last + "(0)", 59, "1(0)"}, {last + "(0)", 60, "(0)"}, {ones60 + "(0)", 1, ones60[1:] + "(0)"},
		{"(01)", 999, "(10)"}, {"(01)", 1000, "(01)"}, {"(" + last + ")", 59, "(1" + zeros60[1:] + ")"}, {"(" + last + ")", 1000, "(" + zeros60[:19] + "1" + zeros60[:40] + ")"},
	})
}

func TestP19Times(t *testing.T) {
	checkOnes(t, "MakeTimes", impl.MakeTimes, []int{0, 1, 2, 3, 7, 19, 20}, farSigns, func(signs string, k int, n int) bool {
		if k == 0 {
			return n == 0 && strings.Contains(signs, "1")
		}
		return n%k == 0 && signs[n/k] == '1'
	})
	checkOneFails(t, "MakeTimes", impl.MakeTimes, 0, 20)
	last := zeros60[1:] + "1"
	checkOneExamples(t, "MakeTimes", impl.MakeTimes, []oneExample{
		{"(0)", 0, "(0)"}, {"000(00)", 0, "(0)"}, {"1(0)", 0, "1(0)"}, {"01(0)", 0, "1(0)"}, {"(1)", 0, "1(0)"}, {"(01)", 0, "1(0)"},
		{last + "(0)", 0, "1(0)"}, {zeros60 + "(" + last + ")", 0, "1(0)"}, {zeros60 + "(" + zeros60 + ")", 20, "(0)"},
		{"(1)", 2, "(10)"}, {"0101(01)", 1, "(01)"}, {"0101(01)", 2, "(0010)"}, {"1(0)", 20, "1(0)"}, {"011(0)", 3, "0001001(0)"},
		{"(1)", 20, "(1" + zeros60[:19] + ")"}, {"(001)", 20, "(" + zeros60[:40] + "1" + zeros60[:19] + ")"}, {"(0001)", 20, ""},
		{"(" + zeros60[:19] + "1)", 3, "(" + zeros60[:57] + "100)"}, {"(" + zeros60[:20] + "1)", 3, ""}, {"(" + zeros60[:30] + "1)", 2, ""},
		{last + "(0)", 1, last + "(0)"}, {"001(0)", 20, zeros60[:40] + "1(0)"}, {"0001(0)", 20, ""}, {zeros60[:29] + "1(0)", 2, zeros60[:58] + "1(0)"}, {zeros60[:30] + "1(0)", 2, ""},
		{last + "(0)", 20, ""}, {"(" + last + ")", 20, ""}, {"(" + last + ")", 2, ""}, {ones60 + "(0)", 2, ""},
	})
}

func TestP20Every(t *testing.T) {
	for _, r := range []int{0, 1, 2, 59, 60, 61, 99, 100} {
		made := func(s string, k int) (string, bool) { return impl.MakeEvery(s, k, r) }
		checkOnes(t, "MakeEvery with r", made, []int{1, 2, 3, 7, 19, 20}, 300, func(signs string, k int, n int) bool {
			return signs[k*n+r] == '1'
		})
		checkOneFails(t, "MakeEvery with r", made, 1, 20)
	}
	for _, r := range []int{-1, -2, -100, 101, 102, 100000, math.MinInt, math.MaxInt} {
		for _, k := range []int{-1, 0, 1, 2, 20, 21} {
			for _, s := range []string{"(1)", "(0)", zeros60 + "(1)", "", "(", "()"} {
				if text, ok := impl.MakeEvery(s, k, r); ok || text != "" {
					t.Errorf("MakeEvery(%q, %d, %d) is %q %v", s, k, r, text, ok)
				}
			}
		}
	}
}

func TestP20EveryExamples(t *testing.T) {
	last := zeros60[1:] + "1"
	for _, c := range []struct {
		s    string
		k, r int
		want string
	}{
		{"0101(01)", 1, 0, "(01)"}, {"(01)", 2, 0, "(0)"}, {"(01)", 2, 1, "(1)"}, {"(001)", 2, 0, "(010)"}, {"(01)", 1, 1, "(10)"},
		{"000(00)", 20, 100, "(0)"}, {"1(0)", 20, 0, "1(0)"}, {"1(0)", 20, 1, "(0)"}, {"1(0)", 20, 100, "(0)"}, {zeros60 + "(1)", 20, 0, "000(1)"},
		{zeros60 + "(1)", 20, 100, "(1)"}, {zeros60 + "(1)", 1, 0, zeros60 + "(1)"}, {last + "(0)", 2, 1, zeros60[:29] + "1(0)"}, {last + "(0)", 2, 0, "(0)"},
		{"(" + last + ")", 1, 100, "(" + zeros60[:19] + "1" + zeros60[:40] + ")"}, {"(" + last + ")", 7, 3, "(" + zeros60[:8] + "1" + zeros60[:51] + ")"},
		{"(" + last + ")", 20, 19, "(001)"}, {"(" + last + ")", 20, 0, "(0)"},
	} {
		if text, ok := impl.MakeEvery(c.s, c.k, c.r); !ok || text != c.want {
			t.Errorf("MakeEvery(%q, %d, %d) is %q %v, not %q", c.s, c.k, c.r, text, ok, c.want)
		}
	}
}

func TestP21Over(t *testing.T) {
	checkOnes(t, "MakeOver", impl.MakeOver, []int{1, 2, 3, 7, 19, 20}, 300, func(signs string, k int, n int) bool {
		return strings.Contains(signs[k*n:k*n+k], "1")
	})
	checkOneFails(t, "MakeOver", impl.MakeOver, 1, 20)
	last := zeros60[1:] + "1"
	checkOneExamples(t, "MakeOver", impl.MakeOver, []oneExample{
		{"0101(01)", 1, "(01)"}, {"(01)", 2, "(1)"}, {"(0001)", 2, "(01)"}, {"0001(0)", 2, "01(0)"}, {"0001(0)", 3, "01(0)"}, {"0001(0)", 4, "1(0)"},
		{"000(00)", 20, "(0)"}, {"(1)", 20, "(1)"}, {last + "(0)", 20, "001(0)"}, {last + "(0)", 1, last + "(0)"}, {last + "(0)", 2, zeros60[:29] + "1(0)"},
		{zeros60 + "(1)", 1, zeros60 + "(1)"}, {zeros60 + "(1)", 20, "000(1)"}, {zeros60 + "(1)", 19, "000(1)"}, {"(" + last + ")", 20, "(001)"}, {"(" + last + ")", 1, "(" + last + ")"},
		{"(" + zeros60[:20] + "1)", 20, "(0" + ones60[:20] + ")"},
	})
}

func TestP22OtherOfEither(t *testing.T) {
	texts, made, long := append(smallTexts(1, 3), edgeTexts()...), 0, 0
	for _, a := range texts {
		for _, b := range texts {
			either, ok := impl.MakeEither(a, b)
			otherA, okA := impl.MakeOther(a)
			otherB, okB := impl.MakeOther(b)
			both, okBoth := impl.MakeBoth(otherA, otherB)
			if !okA || !okB || ok != okBoth {
				t.Fatalf("of %q and %q, MakeOther is %v and %v, MakeEither %v and MakeBoth of others %v", a, b, okA, okB, ok, okBoth)
			}
			if !ok {
				long++
				continue
			}
			made++
			if neither, ok := impl.MakeOther(either); !ok || neither != both {
				t.Fatalf("MakeOther of MakeEither of %q and %q is %q %v, MakeBoth of others is %q", a, b, neither, ok, both)
			}
		}
	}
	if made < 1000 || long < 10 {
		t.Errorf("just %d pairs were made, and %d were too long", made, long)
	}
}

func TestP23BothAndWithout(t *testing.T) {
	texts, made := append(smallTexts(1, 3), edgeTexts()...), 0
	for _, a := range texts {
		for _, b := range texts {
			both, okBoth := impl.MakeBoth(a, b)
			without, okWithout := impl.MakeWithout(a, b)
			if !okBoth || !okWithout {
				continue
			}
			made++
			if text, ok := impl.MakeEither(both, without); !ok || text != tidyByTryingTable(a) {
				t.Fatalf("of %q and %q, MakeEither of MakeBoth %q and MakeWithout %q is %q %v", a, b, both, without, text, ok)
			}
		}
	}
	if made < 1000 {
		t.Errorf("just %d pairs were made", made)
	}
}

func TestP24OverAndEveryOfTimes(t *testing.T) {
	made := 0
	for _, s := range someTexts() {
		want := tidyByTryingTable(s)
		for k := 1; k <= 20; k++ {
			times, ok := impl.MakeTimes(s, k)
			if !ok {
				continue
			}
			made++
			over, okOver := impl.MakeOver(times, k)
			every, okEvery := impl.MakeEvery(times, k, 0)
			if !okOver || !okEvery || over != want || every != want {
				t.Fatalf("MakeTimes(%q, %d) is %q; over it is %q %v, every %q %v, not %q", s, k, times, over, okOver, every, okEvery, want)
			}
		}
	}
	if made < 1000 {
		t.Errorf("just %d sets were made", made)
	}
}
