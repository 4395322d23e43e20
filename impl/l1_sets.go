package impl

import "strings"

// PartMax is the greatest number of signs of a tail, and of a ring.
const PartMax = 60

// numberMax is the greatest n of SetFrom, SetCount and SetList.
const numberMax = 1000

// setSpan is how many numbers tell sets apart: behind the longest tail, two rings that agree on as many numbers as both of them have signs agree on all.
const setSpan = 3 * PartMax

// setFirst tells, for each number less than setSpan, whether it is in a set. Two sets are the same just if these arrays are.
type setFirst [setSpan]bool

// setParts is a set text without its brackets.
type setParts struct {
	tail string
	ring string
}

// splitSet returns the parts of a set text, and true.
func splitSet(s string) (setParts, bool) {
	tail, rest, opened := strings.Cut(s, "(")
	ring, behind, closed := strings.Cut(rest, ")")
	if !opened || !closed || behind != "" || ring == "" || !isPart(tail) || !isPart(ring) {
		return setParts{}, false
	}
	return setParts{tail: tail, ring: ring}, true
}

// isPart reports whether a text may be a tail.
func isPart(text string) bool {
	if len(text) > PartMax {
		return false
	}
	for i := range len(text) {
		if text[i] != '0' && text[i] != '1' {
			return false
		}
	}
	return true
}

// has reports whether a number is in the set.
func (p setParts) has(n int) bool {
	if n < 0 {
		return false
	}
	if n < len(p.tail) {
		return p.tail[n] == '1'
	}
	return p.ring[(n-len(p.tail))%len(p.ring)] == '1'
}

// first returns the numbers that tell the set apart from others.
func (p setParts) first() setFirst {
	var f setFirst
	for n := range f {
		f[n] = p.has(n)
	}
	return f
}

// ringSize returns the number of signs of the tidy ring. Numbers behind the longest tail come again just by the rings of the set, as setSpan leaves room for two of the longest ones.
func (f setFirst) ringSize() int {
rings:
	for size := 1; size < PartMax; size++ {
		for n := PartMax; n+size < setSpan; n++ {
			if f[n] != f[n+size] {
				continue rings
			}
		}
		return size
	}
	return PartMax
}

// tailSize returns the number of signs of the tidy tail ahead of a ring.
func (f setFirst) tailSize(ring int) int {
	size := PartMax
	for size > 0 && f[size-1] == f[size-1+ring] {
		size--
	}
	return size
}

// text returns the tidy set text.
func (f setFirst) text() string {
	ring := f.ringSize()
	tail := f.tailSize(ring)
	return signs(f[:tail]) + "(" + signs(f[tail:tail+ring]) + ")"
}

// signs writes truths as signs.
func signs(truths []bool) string {
	var b strings.Builder
	for _, is := range truths {
		if is {
			b.WriteByte('1')
		} else {
			b.WriteByte('0')
		}
	}
	return b.String()
}

// numberIn reports whether a number may be the n of SetFrom, SetCount and SetList.
func numberIn(n int) bool {
	return 0 <= n && n <= numberMax
}

// SetIn reports whether a text is a set text.
func SetIn(s string) bool {
	_, ok := splitSet(s)
	return ok
}

// SetHas reports whether a number is in the set.
func SetHas(s string, n int) bool {
	p, ok := splitSet(s)
	return ok && p.has(n)
}

// SetTidy returns the tidy set text of the same set, and true.
func SetTidy(s string) (string, bool) {
	p, ok := splitSet(s)
	if !ok {
		return "", false
	}
	return p.first().text(), true
}

// SetSame reports whether two set texts tell the same set.
func SetSame(s string, t string) bool {
	a, aIn := splitSet(s)
	b, bIn := splitSet(t)
	return aIn && bIn && a.first() == b.first()
}

// SetBelow reports whether each number of the first one of two sets is in the second one.
func SetBelow(s string, t string) bool {
	a, aIn := splitSet(s)
	b, bIn := splitSet(t)
	if !aIn || !bIn {
		return false
	}
	// Behind both tails all comes again by the product of both rings; setSpan would be too short here.
	for n := range PartMax + len(a.ring)*len(b.ring) {
		if a.has(n) && !b.has(n) {
			return false
		}
	}
	return true
}

// SetSizes returns the numbers of signs of tail and ring of the tidy set text, and true.
func SetSizes(s string) (int, int, bool) {
	p, ok := splitSet(s)
	if !ok {
		return 0, 0, false
	}
	f := p.first()
	ring := f.ringSize()
	return f.tailSize(ring), ring, true
}

// SetFrom returns the least number of the set that is not less than n, n from 0 to 1000, and true.
func SetFrom(s string, n int) (int, bool) {
	p, ok := splitSet(s)
	if !ok || !numberIn(n) {
		return 0, false
	}
	end := max(n, len(p.tail)) + len(p.ring)
	for k := n; k < end; k++ {
		if p.has(k) {
			return k, true
		}
	}
	return 0, false
}

// SetCount returns how many numbers less than n are in the set, n from 0 to 1000, and true.
func SetCount(s string, n int) (int, bool) {
	list, ok := SetList(s, n)
	return len(list), ok
}

// SetList returns these numbers in ascending order, and true, n as for SetCount.
func SetList(s string, n int) ([]int, bool) {
	p, ok := splitSet(s)
	if !ok || !numberIn(n) {
		return []int{}, false
	}
	list := []int{}
	for k := range n {
		if p.has(k) {
			list = append(list, k)
		}
	}
	return list, true
}

// SetOf returns the tidy set text of the set of just the numbers of a list, each one from 0 to 59, in any order and as often as one likes, and true.
func SetOf(list []int) (string, bool) {
	var f setFirst
	for _, n := range list {
		if n < 0 || n >= PartMax {
			return "", false
		}
		f[n] = true
	}
	return f.text(), true
}

// SetEnds reports whether the set has no number greater than some number.
func SetEnds(s string) bool {
	p, ok := splitSet(s)
	return ok && !strings.Contains(p.ring, "1")
}
