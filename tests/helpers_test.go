package tests

import (
	"strconv"
	"strings"
)

// unroll writes a set text's signs one behind the other, n at least.
func unroll(s string, n int) string {
	open := strings.Index(s, "(")
	tail, ring := s[:open], s[open+1:len(s)-1]
	rounds := max(0, n-len(tail)+len(ring)-1) / len(ring)
	return tail + strings.Repeat(ring, rounds)
}

// bits returns all texts of signs of just this many signs.
func bits(size int) []string {
	var out []string
	for n := range 1 << size {
		digits := strconv.FormatInt(int64(n), 2)
		text := strings.Repeat("0", size) + digits
		out = append(out, text[len(text)-size:])
	}
	return out
}

// smallTexts returns all set texts whose tails and rings have at most these numbers of signs.
func smallTexts(tail int, ring int) []string {
	var out []string
	for i := range tail + 1 {
		for k := range ring {
			for _, a := range bits(i) {
				for _, b := range bits(k + 1) {
					out = append(out, a+"("+b+")")
				}
			}
		}
	}
	return out
}

// mixed returns this many signs, other ones for another seed but the same ones again for the same seed.
func mixed(seed int, size int) string {
	state := uint64(seed)*2654435761 + 12345
	out := make([]byte, size)
	for i := range out {
		state = state*6364136223846793005 + 1442695040888963407
		out[i] = '0' + byte(state>>40&1)
	}
	return string(out)
}

// longTexts returns set texts of many sizes up to the greatest ones, many of them not tidy.
func longTexts() []string {
	out := []string{}
	for seed, tail := range []int{0, 1, 7, 30, 59, 60} {
		for _, ring := range []int{1, 2, 12, 29, 59, 60} {
			out = append(out, mixed(seed, tail)+"("+mixed(seed+ring, ring)+")")
		}
		for _, piece := range []int{1, 2, 3, 4, 5, 6, 10, 12, 15, 20, 30} {
			ring := strings.Repeat(mixed(seed+piece, piece), 60/piece)
			out = append(out, mixed(seed, tail)+"("+ring+")")
			// A tail that the ring could tell, whole or behind one other sign.
			told := strings.Repeat(ring, 2)[60-tail : 60]
			out = append(out, told+"("+ring+")")
			if tail > 0 {
				out = append(out, flip(told[0])+told[1:]+"("+ring+")")
			}
		}
	}
	return out
}

// flip returns the other sign.
func flip(sign byte) string {
	if sign == '0' {
		return "1"
	}
	return "0"
}

// noTexts returns texts that are no set texts.
func noTexts() []string {
	long := strings.Repeat("0", 61)
	return []string{
		"", "0", "01", "(", ")", "()", ")(", "0(", "0)", "0()", "01)", "(01", "0(1",
		"(1)0", "(1)1", "0(1)1", "(1)(1)", "(1)(", "(1))", "((1)", "((1))", "0)(1)", "0)1(1)", "(1(1)",
		" (1)", "(1) ", "(1)\n", "( 1)", "0 1(1)", "2(1)", "(2)", "a(1)", "(0a)", "-(1)", "(+1)", "/(1)", "(:)",
		"\x00(1)", "(1\x00)", "(\xff)", "\xff(1)", "(1)\xff", "\xb1(1)", "(\uff11)", "\u0661(1)", "\uff081\uff09", "[1]", "{1}", "0,1(1)",
		long + "(1)", "(" + long + ")", long + "(" + long + ")", strings.Repeat("10", 5000) + "(1)", "(" + strings.Repeat("10", 5000) + ")",
	}
}

// tidyByTrying returns the text that the document calls tidy: of the shortest ring, and then of the shortest tail, of all that tell the same signs.
func tidyByTrying(s string) string {
	text, _ := tidyOfSigns(unroll(s, 600))
	return text
}

// tidyOfSigns returns the tidy text that tells these signs, and true, if there is one whose parts are not too long. Signs of two rounds of any ring that may be meant should be given.
func tidyOfSigns(signs string) (string, bool) {
	for ring := 1; ring <= 60; ring++ {
		for tail := 0; tail <= 60; tail++ {
			again := signs[tail:]
			if again[:len(again)-ring] == again[ring:] {
				return signs[:tail] + "(" + signs[tail:tail+ring] + ")", true
			}
		}
	}
	return "", false
}
