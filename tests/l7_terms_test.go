package tests

import (
	"math"
	"math/big"
	"slices"
	"strings"
	"testing"

	"loop.example/oneletter/impl"
)

const (
	// termBytes is the greatest number of bytes of a term.
	termBytes = 60
	// termMost is the greatest number that TermHas is asked about.
	termMost = 200
)

// knownTerms keeps what termsOfSize found.
var knownTerms = map[int][]string{}

// termsOfSize returns all terms of just this many bytes.
func termsOfSize(size int) []string {
	if knownTerms[size] != nil || size < 1 {
		return knownTerms[size]
	}
	var out []string
	if size == 1 {
		out = []string{"0", "1", "a"}
	}
	for _, of := range termsOfSize(size - 1) {
		for _, sign := range "*2345" {
			out = append(out, string(sign)+of)
		}
	}
	for first := 1; first < size-3; first++ {
		for _, a := range termsOfSize(first) {
			for _, b := range termsOfSize(size - 3 - first) {
				out = append(out, "("+a+"+"+b+")", "("+a+"."+b+")", "("+a+"&"+b+")")
			}
		}
	}
	knownTerms[size] = out
	return out
}

// termsUpTo returns all terms of at most this many bytes.
func termsUpTo(size int) []string {
	var out []string
	for n := range size {
		out = append(out, termsOfSize(n+1)...)
	}
	return out
}

// mixedTerm returns a term of just this many bytes, another one for another seed.
func mixedTerm(seed int, size int) string {
	numbers := mixedNumbers(seed, 8*size, 1000)
	next := func(limit int) int {
		n := numbers[0]
		numbers = numbers[1:]
		return n % limit
	}
	var build func(size int) string
	build = func(size int) string {
		switch {
		case size == 1:
			return "01aaaaaa"[next(8):][:1]
		case size < 5 || next(4) == 0:
			return "**22345"[next(7):][:1] + build(size-1)
		}
		first := 1 + next(size-4)
		return "(" + build(first) + "+.&"[next(3):][:1] + build(size-3-first) + ")"
	}
	return build(size)
}

// nested returns a term of this many brackets within each other, 4 bytes for each of them and one more.
func nested(sign string, depth int) string {
	left := depth / 2
	return strings.Repeat("(a"+sign, depth-left) + strings.Repeat("(", left) + "a" + strings.Repeat(sign+"a)", left) + strings.Repeat(")", depth-left)
}

// longSum is a set with a star whose greatest gap is 71: all from 7 on that by 7 leave 0, and all from 13 on that leave 6.
const longSum = "((2a.5a).(*(2a.5a).(1+32a)))"

// termExample is the tidy text of the set of a term, and empty if TermSet fails, with the term that TermTidy tells.
type termExample struct {
	term string
	set  string
	tidy string
}

// termExamples are terms of all kinds, up to 60 bytes, with sets that have no numbers, just 0, and all numbers.
func termExamples() []termExample {
	return []termExample{
		{"0", "(0)", "0"}, {"1", "1(0)", "1"}, {"a", "01(0)", "a"}, {"*0", "1(0)", "1"}, {"*1", "1(0)", "1"}, {"*a", "(1)", "*a"},
		{"20", "(0)", "0"}, {"21", "1(0)", "1"}, {"2a", "001(0)", "2a"}, {"5a", "000001(0)", "5a"}, {"50", "(0)", "0"}, {"51", "1(0)", "1"}, {"30", "(0)", "0"}, {"41", "1(0)", "1"},
		{"(0+a)", "01(0)", "a"}, {"(a+0)", "01(0)", "a"}, {"(0.a)", "(0)", "0"}, {"(a.0)", "(0)", "0"}, {"(0&a)", "(0)", "0"}, {"(a&0)", "(0)", "0"}, {"(1.a)", "01(0)", "a"}, {"(a.1)", "01(0)", "a"},
		{"(a+a)", "01(0)", "a"}, {"(a&a)", "01(0)", "a"}, {"(a.a)", "001(0)", "(a.a)"}, {"(1+a)", "11(0)", "(1+a)"}, {"(a+1)", "11(0)", "(a+1)"}, {"(1&a)", "(0)", "(1&a)"}, {"(a&1)", "(0)", "(a&1)"},
		{"(0+0)", "(0)", "0"}, {"(0.0)", "(0)", "0"}, {"(0&0)", "(0)", "0"}, {"(1+1)", "1(0)", "1"}, {"(1.1)", "1(0)", "1"}, {"(1&1)", "1(0)", "1"}, {"(0.1)", "(0)", "0"}, {"(1.0)", "(0)", "0"}, {"(0+1)", "1(0)", "1"}, {"(1+0)", "1(0)", "1"}, {"(1&0)", "(0)", "0"}, {"(0&1)", "(0)", "0"},
		{"**a", "(1)", "*a"}, {"**2a", "(10)", "*2a"}, {"***5a", "(10000)", "*5a"}, {"*****0", "1(0)", "1"}, {"2**a", "(1)", "2*a"}, {"**2**a", "(1)", "*2*a"}, {"*2a", "(10)", "*2a"}, {"2*a", "(1)", "2*a"}, {"*2*a", "(1)", "*2*a"}, {"2*2a", "(10)", "2*2a"},
		// Steps that make the next ones possible.
		{"(0+(1.a))", "01(0)", "a"}, {"2(0.a)", "(0)", "0"}, {"*2(a.0)", "1(0)", "1"}, {"((a+0)&(0+a))", "01(0)", "a"}, {"((a+0)+(1.a))", "01(0)", "a"}, {"*(0+*a)", "(1)", "*a"}, {"*(1.*2a)", "(10)", "*2a"}, {"(*0.a)", "01(0)", "a"}, {"(a.*(0&a))", "01(0)", "a"}, {"(*1.*1)", "1(0)", "1"}, {"((a&a)+(a+a))", "01(0)", "a"}, {"(20+a)", "01(0)", "a"}, {"(21.a)", "01(0)", "a"}, {"(a&20)", "(0)", "0"}, {"*(21+*0)", "1(0)", "1"}, {"5(1+31)", "1(0)", "1"}, {"34(a&0)", "(0)", "0"}, {"((0.a)+(a.0))", "(0)", "0"}, {"(((a.1)+0)&a)", "01(0)", "a"}, {"(a+(a+a))", "01(0)", "a"}, {"(**a+*a)", "(1)", "*a"}, {"(***a&(**a+*a))", "(1)", "*a"}, {"*(*a+**a)", "(1)", "*a"}, {"(2(a+a)&2(a&a))", "001(0)", "2a"}, {"((a.1).(1.a))", "001(0)", "(a.a)"}, {"((1&1).a)", "01(0)", "a"}, {"(*(a.0)&*1)", "1(0)", "1"},
		// Nothing changes.
		{"(*a+a)", "(1)", "(*a+a)"}, {"(a&*a)", "01(0)", "(a&*a)"}, {"((1+a)+(a+1))", "11(0)", "((1+a)+(a+1))"}, {"(2a+(a.a))", "001(0)", "(2a+(a.a))"}, {"*(1+a)", "(1)", "*(1+a)"}, {"*(1&a)", "1(0)", "*(1&a)"}, {"(*a.*a)", "(1)", "(*a.*a)"}, {"(a+(1+a))", "11(0)", "(a+(1+a))"}, {"22a", "00001(0)", "22a"}, {"2(1+a)", "111(0)", "2(1+a)"}, {"*2*3*a", "(1)", "*2*3*a"},
		// All signs at once.
		{"(*2a.a)", "(01)", "(*2a.a)"}, {"(*2a&*3a)", "(100000)", "(*2a&*3a)"}, {"*(2a+3a)", "10(1)", "*(2a+3a)"}, {"((*2a.a)+*3a)", "(110101)", "((*2a.a)+*3a)"}, {"*(3a+5a)", "10010110(1)", "*(3a+5a)"}, {"*(2a.5a)", "(1000000)", "*(2a.5a)"}, {"(2*(3a+4a)&*2a)", "100(01)", "(2*(3a+4a)&*2a)"},
		// A set that is not small, made last, and then made more of.
		{"42a", "000000001(0)", "42a"}, {"(42a+a)", "010000001(0)", "(42a+a)"}, {"(a&42a)", "(0)", "(a&42a)"}, {"(*5a&*2a)", "(1000000000)", "(*5a&*2a)"}, {"*42a", "", "*42a"}, {"242a", "", "242a"}, {"52a", "", "52a"}, {"(42a.1)", "", "42a"}, {"(42a.a)", "", "(42a.a)"}, {"(a.42a)", "", "(a.42a)"}, {"(42a.0)", "", "0"}, {"(0&*42a)", "", "0"}, {"(*42a+a)", "", "(*42a+a)"}, {"(a+*42a)", "", "(a+*42a)"}, {"*(*5a&*2a)", "", "*(*5a&*2a)"}, {"2(*5a&*2a)", "", "2(*5a&*2a)"}, {"(1.(*5a&*2a))", "", "(*5a&*2a)"}, {"(*42a+*42a)", "", "*42a"},
		// Rings of 70 signs, and a tail of 72.
		{"(*(2a.5a)+(*5a&*2a))", "", "(*(2a.5a)+(*5a&*2a))"}, {"(*(2a.5a)&(*5a&*2a))", "", "(*(2a.5a)&(*5a&*2a))"}, {longSum, "0000000(1000001)", longSum}, {"*" + longSum, "", "*" + longSum}, {"**" + longSum, "", "*" + longSum},
		// Just 60 bytes, or nearly so many.
		{strings.Repeat("*", 59) + "a", "(1)", "*a"}, {strings.Repeat("*", 59) + "0", "1(0)", "1"}, {strings.Repeat("5", 59) + "0", "(0)", "0"}, {strings.Repeat("2", 59) + "1", "1(0)", "1"}, {strings.Repeat("2", 59) + "a", "", strings.Repeat("2", 59) + "a"}, {strings.Repeat("*2", 29) + "*a", "(1)", strings.Repeat("*2", 29) + "*a"}, {strings.Repeat("*2", 29) + "*0", "1(0)", "1"}, {strings.Repeat("2", 58) + "*a", "(1)", strings.Repeat("2", 58) + "*a"}, {strings.Repeat("2*", 29) + "2a", "(10)", strings.Repeat("2*", 29) + "2a"},
		{nested("+", 14), "01(0)", "a"}, {nested("&", 14), "01(0)", "a"}, {"***" + nested("+", 14), "(1)", "*a"}, {"234" + nested("&", 14), "", "234a"}, {"44*" + nested("+", 14), "(1)", "44*a"}, {nested(".", 7), "000000001(0)", nested(".", 7)}, {nested(".", 14), "", nested(".", 14)}, {"***" + nested(".", 14), "", "*" + nested(".", 14)},
		{strings.Repeat("(0+", 14) + "*2a" + strings.Repeat(")", 14), "(10)", "*2a"}, {strings.Repeat("(", 14) + "*3a" + strings.Repeat(".1)", 14), "(100)", "*3a"}, {strings.Repeat("*(0+", 11) + "*2a" + strings.Repeat(")", 11), "(10)", "*2a"},
	}
}

// terms are terms of all kinds and sizes.
func terms() []string {
	out := termsUpTo(4)
	for i, s := range append(termsOfSize(5), termsOfSize(6)...) {
		if i%13 == 0 || len(s) == 5 && s[0] == '(' {
			out = append(out, s)
		}
	}
	for size := 5; size <= termBytes; size++ {
		for k := range 6 {
			out = append(out, mixedTerm(61*k+size, size))
		}
	}
	for seed := range 300 {
		out = append(out, mixedTerm(seed+5000, 7+seed%16))
	}
	for _, c := range termExamples() {
		out = append(out, c.term)
	}
	return out
}

// noTerms are texts that are no terms.
func noTerms() []string {
	return []string{
		"", "6", "7", "8", "9", "6a", "9a", "*6a", "(6+a)", "(a+9a)", "60", "91", "b", "A", "x", "ab", "*b", "2x",
		"*", "**", "2", "25", "*2", "2*", "5", "a*", "a2", "0*", "13", "+", ".", "&", "+a", "a+", "a+a", "a.a", "a&a", "1+1",
		"(", ")", "()", ")(", "((", "))", "(a", "a)", "(a)", "((a))", "*(a)", "2(a)", "(0)", "(1)", "(*a)", "(a+a", "a+a)", "(a+", "(a+)", "(+a)", "(+)", "(.)", "(*+a)", "(a+*)", "(a.2)", "(2&a)", "(a++a)", "(a+.a)", "(a.&a)", "(a+a+a)", "(a+a.a)", "(a,a)", "(a-a)", "(a*a)", "(a2a)", "(aa)", "(a a)", "(a|a)", "(a%a)", "(a'a)", "(a/a)",
		"(a+a))", "((a+a)", "((a+a))", "(a+a)(a+a)", "(a+a)a", "a(a+a)", "((a+a)+a", "(a+(a+a)", "(a+(a+a)))", "(a+(a+a)", ")a+a(", "[a+a]", "{a+a}", "(a+a]", "(a+()", "(()+a)", "((a+1).1a)", "*()", "2()",
		"aa", "00", "01", "0a", "a0", "11", "1a", "a1", "10", "100", "-1", "+1", "*aa", "2aa", "2a2a", "*a*a", "a a", "a\na",
		" ", " a", "a ", "* a", "2 a", "( a+a)", "(a +a)", "(a+ a)", "(a+a )", "\ta", "a\n", "\n", "a\r", "\x00", "\x00a", "a\x00", "(a\x00a)", "\xff", "\xffa", "a\xff", "\xe1", "\xb1", "\xaa", "*\xe1", "\u00e1", "\u0430", "\uff41", "\uff08a+a\uff09", "\u0662a", "\u2217a", "(a\u00b7a)", "'a'", "`a`", "\"a\"", "/a", ":a", "1(0)", "(1)0", "01(0)",
		strings.Repeat("*", 60) + "a", strings.Repeat("*", 60) + "0", strings.Repeat("5", 60) + "1", strings.Repeat("2", 60) + "0", strings.Repeat("*2", 30) + "a", nested("+", 15), nested(".", 15), nested("&", 16), "****" + nested("+", 14), mixedTerm(1, 61), mixedTerm(2, 61), mixedTerm(3, 62), mixedTerm(4, 100),
		strings.Repeat("*", 60), strings.Repeat("a", 60), strings.Repeat("(", 60), strings.Repeat("()", 30), strings.Repeat("(", 59) + "a", strings.Repeat("*", 100000) + "a", strings.Repeat("(", 100000), nested("+", 25000), strings.Repeat(" ", 59) + "a",
	}
}

// isTerm reports whether a text is a term: whether it becomes 0 where terms of parts that are 0 become 0 again and again.
func isTerm(s string) bool {
	if len(s) > termBytes || strings.Trim(s, "01a*2345(+.&)") != "" {
		return false
	}
	become := strings.NewReplacer("1", "0", "a", "0", "2", "*", "3", "*", "4", "*", "5", "*", ".", "+", "&", "+").Replace(s)
	for {
		less := strings.ReplaceAll(strings.ReplaceAll(become, "*0", "0"), "(0+0)", "0")
		if less == become {
			return less == "0"
		}
		become = less
	}
}

// spoiled returns texts that differ from a term by one byte that is missing, too many, or another one.
func spoiled(s string) []string {
	var out []string
	for i := range len(s) {
		out = append(out, s[:i]+s[i+1:])
		for _, sign := range []string{"0", "a", "*", "3", "6", "(", ")", "+", "&", " "} {
			out = append(out, s[:i]+sign+s[i:], s[:i]+sign+s[i+1:])
		}
	}
	return out
}

// evaluated goes through a term from its end, and makes something of each sign 0, 1 and a, of what comes behind a star or a digit, and of both parts of a pair.
func evaluated[T any](s string, one func(sign byte) T, ahead func(sign byte, of T) T, pair func(sign byte, a T, b T) T) T {
	var found []T
	var between []byte
	for i := len(s) - 1; i >= 0; i-- {
		switch sign := s[i]; sign {
		case '0', '1', 'a':
			found = append(found, one(sign))
		case '*', '2', '3', '4', '5':
			found[len(found)-1] = ahead(sign, found[len(found)-1])
		case '+', '.', '&':
			between = append(between, sign)
		case '(':
			last := len(found) - 1
			found[last-1] = pair(between[len(between)-1], found[last], found[last-1])
			found, between = found[:last], between[:len(between)-1]
		}
	}
	return found[0]
}

// knownBigs keeps what bigTerm found.
var knownBigs = map[string]*big.Int{}

// bigTerm returns the numbers up to termMost that a term tells, as the bits of one number.
func bigTerm(s string) *big.Int {
	size := termMost + 1
	if knownBigs[s] == nil {
		knownBigs[s] = evaluated(s, func(sign byte) *big.Int {
			return big.NewInt(map[byte]int64{'0': 0, '1': 1, 'a': 2}[sign])
		}, func(sign byte, of *big.Int) *big.Int {
			out := of
			if sign != '*' {
				for range sign - '1' {
					out = bigSum(out, of, size)
				}
				return out
			}
			star := new(big.Int).SetBit(of, 0, 1)
			for {
				more := bigSum(star, star, size)
				if more.Cmp(star) == 0 {
					return star
				}
				star = more
			}
		}, func(sign byte, a *big.Int, b *big.Int) *big.Int {
			switch sign {
			case '+':
				return new(big.Int).Or(a, b)
			case '&':
				return new(big.Int).And(a, b)
			}
			return bigSum(a, b, size)
		})
	}
	return knownBigs[s]
}

// listOfTerm returns all numbers less than n that a term tells.
func listOfTerm(s string, n int) []int {
	out := []int{}
	for k := range n {
		if bigTerm(s).Bit(k) == 1 {
			out = append(out, k)
		}
	}
	return out
}

// knownSets keeps what setOfTerm found.
var knownSets = map[string]string{}

// knownSetOfTerm returns setOfTerm, found just once.
func knownSetOfTerm(s string) string {
	if _, known := knownSets[s]; !known {
		knownSets[s] = setOfTerm(s)
	}
	return knownSets[s]
}

// setOfTerm returns the tidy text of the set of a term, made from the inside by the functions that the document names, and the empty text if one of them fails.
func setOfTerm(s string) string {
	made := func(text string, ok bool) string {
		if !ok {
			return ""
		}
		return text
	}
	return evaluated(s, func(sign byte) string {
		return map[byte]string{'0': "(0)", '1': "1(0)", 'a': "01(0)"}[sign]
	}, func(sign byte, of string) string {
		if sign == '*' {
			return made(impl.StarOf(of))
		}
		return made(impl.SumTimes(of, int(sign-'0')))
	}, func(sign byte, a string, b string) string {
		switch sign {
		case '+':
			return made(impl.MakeEither(a, b))
		case '&':
			return made(impl.MakeBoth(a, b))
		}
		return made(impl.SumOf(a, b))
	})
}

// termEnd returns the place behind the term that begins at a place.
func termEnd(s string, at int) int {
	at += len(s[at:]) - len(strings.TrimLeft(s[at:], "*2345"))
	open := 0
	for {
		switch s[at] {
		case '(':
			open++
		case ')':
			open--
		}
		at++
		if open == 0 {
			return at
		}
	}
}

// tidyStep returns what one step of TermTidy makes of a whole term, and true, if there is one for it.
func tidyStep(s string) (string, bool) {
	switch {
	case s == "*0" || s == "*1":
		return "1", true
	case strings.HasPrefix(s, "**"):
		return s[1:], true
	case len(s) == 2 && strings.Contains("01", s[1:]):
		return s[1:], true
	case s[0] != '(':
		return s, false
	}
	end := termEnd(s, 1)
	a, sign, b := s[1:end], s[end:end+1], s[end+1:len(s)-1]
	for _, turned := range [][2]string{{a, b}, {b, a}} {
		switch sign + turned[0] {
		case "+0", ".1":
			return turned[1], true
		case ".0", "&0":
			return "0", true
		}
	}
	if a == b && sign != "." {
		return a, true
	}
	return s, false
}

// tidyBySteps does the steps of TermTidy one by one on the text, always the last one that is possible in it, which is one inside all others on the way to it.
func tidyBySteps(s string) string {
	for at := len(s) - 1; at >= 0; at-- {
		if strings.Contains("+.&)", s[at:at+1]) {
			continue
		}
		end := termEnd(s, at)
		if part, ok := tidyStep(s[at:end]); ok {
			s = s[:at] + part + s[end:]
			at = len(s)
		}
	}
	return s
}

func TestP61In(t *testing.T) {
	for _, s := range terms() {
		size, ok := impl.TermSize(s)
		if !impl.TermIn(s) || !ok || size < 1 {
			t.Fatalf("TermIn(%q) does not hold, or TermSize is %d %v", s, size, ok)
		}
	}
	for _, s := range noTerms() {
		if size, ok := impl.TermSize(s); impl.TermIn(s) || ok || size != 0 {
			t.Errorf("TermIn(%.70q) holds, or TermSize is %d %v", s, size, ok)
		}
	}
}

func TestP61InOfAllTexts(t *testing.T) {
	isOne := map[string]bool{}
	for _, s := range termsUpTo(7) {
		isOne[s] = true
	}
	held := 0
	check := func(s string) {
		if _, ok := impl.TermSize(s); impl.TermIn(s) != isOne[s] || ok != isOne[s] {
			t.Fatalf("TermIn(%q) is not %v, or TermSize is %v", s, isOne[s], ok)
		}
		if isOne[s] {
			held++
		}
	}
	var walk func(s string, alphabet string, size int)
	walk = func(s string, alphabet string, size int) {
		check(s)
		for i := range len(alphabet) {
			if len(s) < size {
				walk(s+alphabet[i:i+1], alphabet, size)
			}
		}
	}
	walk("", "01a*25(+.&)6 ", 5)
	walk("", "1*4(&)", 7)
	if held < 500 {
		t.Errorf("just %d were terms", held)
	}
}

func TestP61InOfAllBytes(t *testing.T) {
	for n := range 256 {
		sign := string([]byte{byte(n)})
		for s, signs := range map[string]string{sign: "01a", sign + "a": "*2345", "(a" + sign + "a)": "+.&", "(" + sign + ".1)": "01a", "a" + sign: "", sign + "a+a)": "(", "(a+a" + sign: ")", "(" + sign + "a.a)": "*2345", "((a" + sign + "a)&a)": "+.&", sign + "(a+a)": "*2345"} {
			want := strings.Contains(signs, sign)
			if _, ok := impl.TermSize(s); impl.TermIn(s) != want || ok != want {
				t.Errorf("TermIn(%q) is not %v, or TermSize is %v", s, want, ok)
			}
		}
	}
}

func TestP61InOfSpoiledTerms(t *testing.T) {
	held, none := 0, 0
	for i, s := range terms() {
		if i%3 > 0 && len(s) > 6 && len(s) < 57 {
			continue
		}
		for _, other := range spoiled(s) {
			want := isTerm(other)
			if _, ok := impl.TermSize(other); impl.TermIn(other) != want || ok != want {
				t.Fatalf("TermIn(%q) is not %v, or TermSize is %v", other, want, ok)
			}
			if want {
				held++
			} else {
				none++
			}
		}
	}
	if held < 1000 || none < 1000 {
		t.Errorf("just %d were terms, and %d were none", held, none)
	}
}

func TestP61InOfSizes(t *testing.T) {
	for size := 1; size <= 70; size++ {
		for _, s := range []string{strings.Repeat("*", size-1) + "a", strings.Repeat("4", size-1) + "1", mixedTerm(size, size), mixedTerm(size+100, size)} {
			if impl.TermIn(s) != (size <= termBytes) {
				t.Errorf("TermIn(%q) is wrong for %d bytes", s, size)
			}
		}
	}
}

// noTermNumbers are numbers that TermHas is not asked about, and TermList neither.
func noTermNumbers() []int {
	return []int{-1, -2, -200, -201, 201, 202, 256, 400, 1000, 1 << 32, math.MaxInt, math.MinInt, math.MinInt + 1}
}

func TestP62Has(t *testing.T) {
	for _, s := range terms() {
		numbers := []int{0, 1, 2, 3, 4, 5, 7, 8, 9, 16, 31, 64, 99, 100, 128, 149, 198, 199, 200}
		if len(s) < 4 {
			numbers = listOfTerm("*a", 200)
		}
		for _, n := range append(numbers, 200) {
			if impl.TermHas(s, n) != (bigTerm(s).Bit(n) == 1) {
				t.Fatalf("TermHas(%q, %d) is not %d", s, n, bigTerm(s).Bit(n))
			}
		}
		for _, n := range noTermNumbers() {
			if impl.TermHas(s, n) {
				t.Fatalf("TermHas(%q, %d) holds", s, n)
			}
		}
	}
}

func TestP62HasIsSetHas(t *testing.T) {
	made, failed := 0, 0
	for _, s := range terms() {
		text, ok := impl.TermSet(s)
		if !ok {
			failed++
			continue
		}
		made++
		for n := range termMost + 1 {
			if impl.SetHas(text, n) != (bigTerm(s).Bit(n) == 1) || n%23 == 16 && impl.TermHas(s, n) != impl.SetHas(text, n) {
				t.Fatalf("TermSet(%q) is %q, which tells the wrong of %d, or TermHas does", s, text, n)
			}
		}
	}
	if made < 500 || failed < 200 {
		t.Errorf("just %d sets were made, and %d failed", made, failed)
	}
}

func TestP62HasExamples(t *testing.T) {
	for _, c := range []struct {
		s    string
		n    int
		want bool
	}{
		{"0", 0, false}, {"0", 1, false}, {"1", 0, true}, {"1", 1, false}, {"a", 0, false}, {"a", 1, true}, {"a", 2, false}, {"*0", 0, true}, {"*0", 1, false},
		{"*a", 0, true}, {"*a", 200, true}, {"*a", 201, false}, {"*a", -1, false}, {"*2a", 200, true}, {"*2a", 199, false}, {"*3a", 198, true}, {"*3a", 200, false}, {"55222a", 200, true}, {"55222a", 199, false}, {"(55222a.a)", 200, false}, {"(55222a.a)", 201, false}, {"2(*3a.2a)", 4, true}, {"2(*3a.2a)", 2, false}, {"2(*3a.2a)", 199, true},
		{"(55222a&*4a)", 200, true}, {"(55222a+(a&1))", 200, true}, {"(2555a.*(a&0))", 200, false}, {"*(2555a+33a)", 198, true}, {"*(2555a+33a)", 200, false},
		{"*" + longSum, 71, false}, {"*" + longSum, 72, true}, {"*" + longSum, 78, true}, {"*" + longSum, 65, true}, {"*" + longSum, 64, false}, {"*" + longSum, 200, true}, {"*42a", 200, true}, {"*42a", 196, false}, {"242a", 16, true}, {"242a", 8, false},
		{"(*(2a.5a)+(*5a&*2a))", 7, true}, {"(*(2a.5a)+(*5a&*2a))", 150, true}, {"(*(2a.5a)+(*5a&*2a))", 25, false}, {"(*(2a.5a)&(*5a&*2a))", 140, true}, {"(*(2a.5a)&(*5a&*2a))", 70, true}, {"(*(2a.5a)&(*5a&*2a))", 10, false}, {"(*42a.0)", 0, false},
		{strings.Repeat("*", 59) + "a", 200, true}, {strings.Repeat("*", 60) + "a", 200, false}, {strings.Repeat("5", 59) + "1", 0, true}, {strings.Repeat("5", 59) + "a", 0, false}, {nested(".", 14), 15, true}, {nested(".", 14), 14, false}, {"***" + nested(".", 14), 180, true},
	} {
		if impl.TermHas(c.s, c.n) != c.want {
			t.Errorf("TermHas(%q, %d) is not %v", c.s, c.n, c.want)
		}
	}
	for _, s := range noTerms() {
		for _, n := range append(noTermNumbers(), 0, 1, 2, 100, 200) {
			if impl.TermHas(s, n) {
				t.Errorf("TermHas(%.70q, %d) holds", s, n)
			}
		}
	}
}

func TestP63List(t *testing.T) {
	for i, s := range terms() {
		numbers := []int{0, 1, 2, 100, 200}
		if i%7 == 0 {
			numbers = append(numbers, 3, 4, 9, 50, 99, 101, 198, 199)
		}
		for _, n := range numbers {
			if list, ok := impl.TermList(s, n); !ok || !slices.Equal(list, listOfTerm(s, n)) {
				t.Fatalf("TermList(%q, %d) is %v %v, not %v", s, n, list, ok, listOfTerm(s, n))
			}
		}
		for _, n := range noTermNumbers() {
			if list, ok := impl.TermList(s, n); ok || len(list) > 0 {
				t.Fatalf("TermList(%q, %d) is %v %v", s, n, list, ok)
			}
		}
	}
}

func TestP63ListIsHas(t *testing.T) {
	for _, s := range append(termsUpTo(3), "(*2a&*3a)", "*(3a+5a)", "*42a", "*"+longSum, "(*(2a.5a)+(*5a&*2a))", nested(".", 14)) {
		list, ok := impl.TermList(s, 200)
		for n := range 200 {
			if !ok || slices.Contains(list, n) != impl.TermHas(s, n) {
				t.Fatalf("TermList(%q, 200) is %v %v, which TermHas tells otherwise of %d", s, list, ok, n)
			}
		}
	}
}

func TestP63ListExamples(t *testing.T) {
	for _, c := range []struct {
		s    string
		n    int
		want []int
	}{
		{"0", 200, nil}, {"1", 200, []int{0}}, {"1", 1, []int{0}}, {"1", 0, nil}, {"a", 1, nil}, {"a", 2, []int{1}}, {"*a", 0, nil}, {"*a", 4, []int{0, 1, 2, 3}}, {"*2a", 7, []int{0, 2, 4, 6}}, {"*2a", 6, []int{0, 2, 4}}, {"55222a", 200, nil}, {"(5524a.24a)", 200, nil}, {"(55222a+*0)", 200, []int{0}},
		{"*33a", 40, []int{0, 9, 18, 27, 36}}, {"*" + longSum, 40, []int{0, 7, 13, 14, 20, 21, 26, 27, 28, 33, 34, 35, 39}}, {"(*(2a.5a)&(*5a&*2a))", 200, []int{0, 70, 140}}, {"(*(2a.5a)+(*5a&*2a))", 32, []int{0, 7, 10, 14, 20, 21, 28, 30}}, {"4(1+2a)", 200, []int{0, 2, 4, 6, 8}}, {"5(1+2a)", 200, []int{0, 2, 4, 6, 8, 10}}, {"3(a+3a)", 200, []int{3, 5, 7, 9}}, {"2(a+*0)", 200, []int{0, 1, 2}},
	} {
		if list, ok := impl.TermList(c.s, c.n); !ok || !slices.Equal(list, c.want) {
			t.Errorf("TermList(%q, %d) is %v %v, not %v", c.s, c.n, list, ok, c.want)
		}
	}
	for _, s := range noTerms() {
		for _, n := range append(noTermNumbers(), 0, 1, 100, 200) {
			if list, ok := impl.TermList(s, n); ok || len(list) > 0 {
				t.Errorf("TermList(%.70q, %d) is %v %v", s, n, list, ok)
			}
		}
	}
}

func TestP63NoMemoryIsShared(t *testing.T) {
	for _, s := range []string{"*a", "a", "0", "1"} {
		want := listOfTerm(s, 50)
		list, _ := impl.TermList(s, 50)
		list = append(list, 7, 7, 7)
		for i := range list {
			list[i] = 99
		}
		if again, ok := impl.TermList(s, 50); !ok || !slices.Equal(again, want) {
			t.Errorf("TermList(%q, 50) shares memory between calls: %v", s, again)
		}
	}
}

func TestP64Set(t *testing.T) {
	for _, s := range terms() {
		text, ok := impl.TermSet(s)
		if want := setOfTerm(s); text != want || ok != (want != "") {
			t.Fatalf("TermSet(%q) is %q %v, not %q", s, text, ok, want)
		}
		if !ok {
			continue
		}
		first, _ := impl.TermList(s, 100)
		second, made := impl.SetList(text, 100)
		if !made || !slices.Equal(first, second) {
			t.Fatalf("TermSet(%q) is %q of %v, but TermList tells %v", s, text, second, first)
		}
		if tidy, is := impl.SetTidy(text); !is || tidy != text || tidyByTryingTable(text) != text {
			t.Fatalf("TermSet(%q) is %q, which is not tidy", s, text)
		}
	}
}

func TestP64SetExamples(t *testing.T) {
	for _, c := range termExamples() {
		if text, ok := impl.TermSet(c.term); text != c.set || ok != (c.set != "") {
			t.Errorf("TermSet(%q) is %q %v, not %q", c.term, text, ok, c.set)
		}
	}
	for _, s := range noTerms() {
		if text, ok := impl.TermSet(s); ok || text != "" {
			t.Errorf("TermSet(%.70q) is %q %v", s, text, ok)
		}
	}
}

func TestP65Tidy(t *testing.T) {
	changed, stayed := 0, 0
	for _, s := range append(terms(), termsOfSize(5)...) {
		tidy, ok := impl.TermTidy(s)
		if want := tidyBySteps(s); !ok || tidy != want {
			t.Fatalf("TermTidy(%q) is %q %v, not %q", s, tidy, ok, want)
		}
		size, _ := impl.TermSize(s)
		if less, is := impl.TermSize(tidy); !is || less > size || len(tidy) > len(s) || !isTerm(tidy) {
			t.Fatalf("TermTidy(%q) is %q, which is no term or has more signs", s, tidy)
		}
		if again, is := impl.TermTidy(tidy); !is || again != tidy {
			t.Fatalf("TermTidy(%q) is %q, but of this %q %v", s, tidy, again, is)
		}
		if tidy == s {
			stayed++
			continue
		}
		changed++
		first, _ := impl.TermList(s, 200)
		second, is := impl.TermList(tidy, 200)
		if !is || !slices.Equal(first, second) || impl.TermHas(s, 200) != impl.TermHas(tidy, 200) {
			t.Fatalf("TermTidy(%q) is %q, which tells other numbers", s, tidy)
		}
	}
	if changed < 500 || stayed < 500 {
		t.Errorf("just %d changed, and %d did not", changed, stayed)
	}
}

func TestP65TidyOfEachPart(t *testing.T) {
	for _, x := range []string{"a", "*a", "2a", "(a.a)", "(1+a)", "*(a&1)", "5*3a", "((a+1)&(1+a))"} {
		star := "*" + strings.TrimLeft(x, "*")
		for s, want := range map[string]string{
			x: x, "(0+" + x + ")": x, "(" + x + "+0)": x, "(0." + x + ")": "0", "(" + x + ".0)": "0", "(0&" + x + ")": "0", "(" + x + "&0)": "0", "(1." + x + ")": x, "(" + x + ".1)": x,
			"(" + x + "+" + x + ")": x, "(" + x + "&" + x + ")": x, "(" + x + "." + x + ")": "(" + x + "." + x + ")", "*" + x: star, "**" + x: star, "****" + x: star,
			"(1+" + x + ")": "(1+" + x + ")", "(" + x + "+1)": "(" + x + "+1)", "(1&" + x + ")": "(1&" + x + ")", "(" + x + "&1)": "(" + x + "&1)", "2" + x: "2" + x, "53" + x: "53" + x,
			"(*0." + x + ")": x, "(20+" + x + ")": x, "(" + x + ".31)": x, "(" + x + "&40)": "0", "((0+" + x + ")&(" + x + ".1))": x, "*(1.*" + x + ")": star, "2((1." + x + ").0)": "0", "4*2(" + x + "&0)": "1",
		} {
			if tidy, ok := impl.TermTidy(s); !ok || tidy != want {
				t.Errorf("TermTidy(%q) is %q %v, not %q", s, tidy, ok, want)
			}
		}
	}
}

func TestP65TidyExamples(t *testing.T) {
	for _, c := range termExamples() {
		if tidy, ok := impl.TermTidy(c.term); !ok || tidy != c.tidy {
			t.Errorf("TermTidy(%q) is %q %v, not %q", c.term, tidy, ok, c.tidy)
		}
	}
	for _, s := range noTerms() {
		if tidy, ok := impl.TermTidy(s); ok || tidy != "" {
			t.Errorf("TermTidy(%.70q) is %q %v", s, tidy, ok)
		}
	}
}

// termPairs are pairs of terms: all short ones, and longer ones with themselves, with what they are when tidy, and with others.
func termPairs() [][2]string {
	var out [][2]string
	for _, a := range termsUpTo(3) {
		for _, b := range termsUpTo(3) {
			out = append(out, [2]string{a, b})
		}
	}
	all := terms()
	for i, a := range all {
		out = append(out, [2]string{a, a}, [2]string{a, tidyBySteps(a)}, [2]string{tidyBySteps(a), a}, [2]string{a, all[(i*7+1)%len(all)]})
	}
	return out
}

func TestP66Same(t *testing.T) {
	same, other, failed := 0, 0, 0
	for _, pair := range termPairs() {
		a, b := pair[0], pair[1]
		first, second := knownSetOfTerm(a), knownSetOfTerm(b)
		want := first != "" && first == second
		if impl.TermSame(a, b) != want || impl.TermSame(b, a) != want {
			t.Fatalf("TermSame of %q and %q is not %v, or not so turned round", a, b, want)
		}
		if first == "" || second == "" {
			failed++
			continue
		}
		if !want {
			other++
			continue
		}
		same++
		one, _ := impl.TermList(a, 200)
		two, _ := impl.TermList(b, 200)
		if !slices.Equal(one, two) {
			t.Fatalf("TermSame holds of %q and %q, but TermList tells %v and %v", a, b, one, two)
		}
	}
	if same < 1000 || other < 1000 || failed < 1000 {
		t.Errorf("just %d were the same, %d were not, and %d failed", same, other, failed)
	}
}

func TestP66SameExamples(t *testing.T) {
	for _, c := range []struct {
		a, b string
		want bool
	}{
		{"a", "a", true}, {"0", "0", true}, {"1", "*0", true}, {"(a+a)", "a", true}, {"2a", "(a.a)", true}, {"*a", "(1+(a.*a))", true}, {"*2a", "**2a", true}, {"(1&a)", "0", true}, {"*(2a+3a)", "(1+(2a.*a))", true}, {"*(2a+2a)", "2*2a", true}, {"(*2a+(a.*2a))", "*a", true}, {nested("+", 14), "a", true},
		{"0", "1", false}, {"a", "1", false}, {"a", "2a", false}, {"*a", "*2a", false}, {"*a", "(a.*a)", false}, {"*2a", "*3a", false}, {"(1+a)", "a", false},
		// Of equal terms, and of terms that TermTidy makes equal, TermSet fails.
		{"*42a", "*42a", false}, {"*" + longSum, "*" + longSum, false}, {"242a", "242a", false}, {"(42a.0)", "0", false}, {"0", "(42a.0)", false}, {"(42a.1)", "42a", false}, {"(*(2a.5a)+(*5a&*2a))", "(*(2a.5a)+(*5a&*2a))", false}, {"42a", "(2a.32a)", true}, {"42a", "42a", true},
	} {
		if impl.TermSame(c.a, c.b) != c.want || impl.TermSame(c.b, c.a) != c.want {
			t.Errorf("TermSame of %q and %q is not %v, or not so turned round", c.a, c.b, c.want)
		}
	}
	for _, s := range noTerms() {
		for _, o := range []string{s, "0", "a", "*42a", ""} {
			if impl.TermSame(s, o) || impl.TermSame(o, s) {
				t.Errorf("TermSame of %.70q and %.70q holds", s, o)
			}
		}
	}
}

func TestP67Size(t *testing.T) {
	for _, s := range terms() {
		want := 0
		for _, sign := range s {
			if sign != '(' && sign != ')' {
				want++
			}
		}
		if size, ok := impl.TermSize(s); !ok || size != want {
			t.Fatalf("TermSize(%q) is %d %v, not %d", s, size, ok, want)
		}
	}
	for s, want := range map[string]int{"0": 1, "1": 1, "a": 1, "*a": 2, "23*a": 4, "(a+a)": 3, "((a.a)&a)": 5, "(a+(a+a))": 5, "((a+a)+(a+a))": 7, "*((1+*a).2(a&0))": 10, nested("+", 14): 29, strings.Repeat("*", 59) + "a": 60, "***" + nested(".", 14): 32} {
		if size, ok := impl.TermSize(s); !ok || size != want {
			t.Errorf("TermSize(%q) is %d %v, not %d", s, size, ok, want)
		}
	}
	for _, s := range noTerms() {
		if size, ok := impl.TermSize(s); ok || size != 0 {
			t.Errorf("TermSize(%.70q) is %d %v", s, size, ok)
		}
	}
}

func TestP68Empty(t *testing.T) {
	held, none := 0, 0
	for _, s := range append(terms(), termsOfSize(5)...) {
		want := evaluated(s, func(sign byte) bool { return sign == '1' }, func(sign byte, of bool) bool { return of || sign == '*' }, func(sign byte, a bool, b bool) bool { return a && b || sign == '+' && (a || b) })
		if impl.TermEmpty(s) != want || impl.TermHas(s, 0) != want {
			t.Fatalf("TermEmpty(%q) is not %v, or TermHas of 0 is not", s, want)
		}
		if want {
			held++
		} else {
			none++
		}
	}
	if held < 500 || none < 500 {
		t.Errorf("just %d had 0, and %d had not", held, none)
	}
	for s, want := range map[string]bool{"0": false, "1": true, "a": false, "*0": true, "*a": true, "2a": false, "51": true, "(a+1)": true, "(a.1)": false, "(a&1)": false, "(*a.1)": true, "(*a&1)": true, "(0.*a)": false, "*" + longSum: true, longSum: false, "*42a": true, "242a": false} {
		if impl.TermEmpty(s) != want {
			t.Errorf("TermEmpty(%q) is not %v", s, want)
		}
	}
	for _, s := range noTerms() {
		if impl.TermEmpty(s) {
			t.Errorf("TermEmpty(%.70q) holds", s)
		}
	}
}

// askedOf returns the numbers up to 200 of which TermHas holds.
func askedOf(s string) []int {
	list, _ := impl.TermList(s, 200)
	if impl.TermHas(s, 200) {
		list = append(list, 200)
	}
	return list
}

func TestP69StarOfTerm(t *testing.T) {
	for i, s := range terms() {
		if len(s) == termBytes || i%3 > 0 {
			continue
		}
		var has [termMost + 1]bool
		star := askedOf("*" + s)
		for _, n := range star {
			has[n] = true
		}
		for _, n := range append(askedOf(s), 0) {
			if !has[n] || !impl.TermHas("*"+s, n) && n%29 == 7 {
				t.Fatalf("TermHas of %q holds for %d, but not with * ahead", s, n)
			}
		}
		for _, a := range star {
			for _, b := range star {
				if a+b <= termMost && !has[a+b] {
					t.Fatalf("TermHas of %q holds with * ahead for %d and %d, but not for their sum", s, a, b)
				}
			}
		}
	}
	if impl.TermHas(strings.Repeat("*", 60)+"a", 0) || !impl.TermHas(strings.Repeat("*", 59)+"a", 0) {
		t.Errorf("TermHas holds of 61 bytes, or does not of 60")
	}
}
