package tests

import (
	"fmt"
	"math"
	"math/big"
	"slices"
	"testing"

	"loop.example/oneletter/impl"
)

const (
	// waysMost is the greatest number that most functions of ways are asked about.
	waysMost = 40
	// bagsMost is the greatest number that WaysBags and WaysApart are asked about.
	bagsMost = 60
	// fewMost is the greatest number that WaysFew is asked about.
	fewMost = 200
	// listsMost is the greatest number to which all ways are told one by one.
	listsMost = 11
	// slotBits are more bits than one number of ways or bags takes.
	slotBits = 64
)

// waySets are small sets of all kinds, with 0 and without it.
func waySets() []string {
	out := append(smallSets(), smallTexts(2, 2)...)
	return append(out, "0(11)", "1(1111)", "00000010(11)", "0011(01)", "0001(001)", "01001(0)", "0100001(0)", "0100000(1)", "0001001(0)", "0000101(0)", "0000(10)", "0000000(10)", "00000000(10)", "00(000001)", "0011(00000001)")
}

// waysTo is what all ways to one number tell.
type waysTo struct {
	many, bags, apart, odd, back int
	few                          int
	first                        []int
	lengths                      [waysMost + 2]int
}

// listsTo returns all lists of numbers greater than 0 of a set that add up to n: each one cuts n at some places.
func listsTo(s string, n int) [][]int {
	if n == 0 {
		return [][]int{{}}
	}
	signs := unroll(s, n+1)
	var out [][]int
	for cuts := range 1 << (n - 1) {
		var list []int
		begin := 0
		for end := 1; end <= n; end++ {
			if end == n || cuts>>(end-1)&1 == 1 {
				list = append(list, end-begin)
				begin = end
			}
		}
		if !slices.ContainsFunc(list, func(k int) bool { return signs[k] == '0' }) {
			out = append(out, list)
		}
	}
	return out
}

// byLists counts all ways to n one by one.
func byLists(s string, n int) waysTo {
	out := waysTo{few: -1}
	bags := map[string]bool{}
	for _, list := range listsTo(s, n) {
		out.many++
		out.lengths[len(list)]++
		out.odd += len(list) % 2
		turned := slices.Clone(list)
		slices.Reverse(turned)
		if slices.Equal(list, turned) {
			out.back++
		}
		if out.few < 0 || len(list) < out.few {
			out.few = len(list)
		}
		if out.first == nil || slices.Compare(list, out.first) < 0 {
			out.first = list
		}
		bag := slices.Sorted(slices.Values(list))
		if !bags[fmt.Sprint(bag)] && len(slices.Compact(slices.Clone(bag))) == len(bag) {
			out.apart++
		}
		bags[fmt.Sprint(bag)] = true
	}
	out.bags = len(bags)
	return out
}

// knownWays keeps what knownTo found.
var knownWays = map[string][]waysTo{}

// knownTo returns byLists of a set for all numbers up to listsMost.
func knownTo(s string) []waysTo {
	if knownWays[s] == nil {
		for n := range listsMost + 1 {
			knownWays[s] = append(knownWays[s], byLists(s, n))
		}
	}
	return knownWays[s]
}

// atSlot returns 1 in the slot of n, and 0 in all others.
func atSlot(n int) *big.Int {
	return new(big.Int).Lsh(big.NewInt(1), uint(slotBits*n))
}

// cutSlots keeps the slots up to that of bagsMost.
func cutSlots(row *big.Int) *big.Int {
	return row.Mod(row, atSlot(bagsMost+1))
}

// rowOf returns 1 in the slot of each number greater than 0 of a set, times step.
func rowOf(s string, step int) *big.Int {
	out := new(big.Int)
	for _, n := range numbersUpTo(s, bagsMost+1) {
		if n > 0 && n*step <= bagsMost {
			out.Add(out, atSlot(n*step))
		}
	}
	return out
}

// allTimes returns 1 and a row, and it times itself, and so on, all together: 1 over 1 less the row.
func allTimes(row *big.Int) *big.Int {
	less := new(big.Int).Sub(big.NewInt(1), row)
	return new(big.Int).ModInverse(cutSlots(less), atSlot(bagsMost+1))
}

// times returns the product of two rows.
func times(a *big.Int, b *big.Int) *big.Int {
	return cutSlots(new(big.Int).Mul(a, b))
}

// slotOf returns what is in the slot of n.
func slotOf(row *big.Int, n int) int {
	slot := new(big.Int).Rsh(row, uint(slotBits*n))
	return int(slot.Mod(slot, atSlot(1)).Int64())
}

// withOne returns a row and 1.
func withOne(row *big.Int) *big.Int {
	return new(big.Int).Add(row, big.NewInt(1))
}

// bagRow returns how many bags lead to each number: the product of what each number of the set tells.
func bagRow(s string, one func(slot *big.Int) *big.Int) *big.Int {
	out := big.NewInt(1)
	for _, n := range numbersUpTo(s, bagsMost+1) {
		if n > 0 {
			out = times(out, one(atSlot(n)))
		}
	}
	return out
}

// noWayNumbers are numbers that no function of ways is asked about.
func noWayNumbers() []int {
	return []int{-1, -2, -40, -41, -60, -200, 201, 202, 256, 1000, 2000, 1 << 32, 1<<32 + 5, math.MaxInt, math.MinInt, math.MinInt + 1}
}

// asksNumber is a function that tells a number of a set and n.
type asksNumber func(s string, n int) (int, bool)

// checkNoWays checks that nothing is told for what is no small set, nor for n greater than greatest or less than 0.
func checkNoWays(t *testing.T, name string, greatest int, asked asksNumber) {
	t.Helper()
	check := func(s string, n int) {
		t.Helper()
		if many, ok := asked(s, n); ok || many != 0 {
			t.Errorf("%s(%q, %d) is %d %v", name, s, n, many, ok)
		}
	}
	for _, bad := range badTexts() {
		for _, n := range []int{-1, 0, 1, 2, 8, 9, 16, greatest, greatest + 1} {
			check(bad, n)
		}
	}
	for _, s := range smallSets() {
		for _, n := range append(noWayNumbers(), greatest+1, greatest+2, greatest+8) {
			check(s, n)
		}
	}
}

// wayExample is what is told of a small set and n.
type wayExample struct {
	s       string
	n, want int
}

// checkWayExamples checks what is told of small sets, of which longer texts and 0 change nothing.
func checkWayExamples(t *testing.T, name string, asked asksNumber, examples []wayExample) {
	t.Helper()
	for _, c := range examples {
		for _, s := range []string{c.s, withZero(c.s), longer(c.s), longer(withZero(c.s))} {
			if !isSmall(s) {
				continue
			}
			if many, ok := asked(s, c.n); !ok || many != c.want {
				t.Errorf("%s(%q, %d) is %d %v, not %d", name, s, c.n, many, ok, c.want)
			}
		}
	}
}

// checkWays checks what is told of all sets and n up to greatest: against a row, and against what all ways up to listsMost tell.
func checkWays(t *testing.T, name string, greatest int, asked asksNumber, row func(s string) *big.Int, told func(w waysTo) int) {
	t.Helper()
	for _, s := range waySets() {
		slots := row(s)
		for n := range greatest + 1 {
			many, ok := asked(s, n)
			if !ok || many != slotOf(slots, n) {
				t.Fatalf("%s(%q, %d) is %d %v, not %d", name, s, n, many, ok, slotOf(slots, n))
			}
			if n <= listsMost && many != told(knownTo(s)[n]) {
				t.Fatalf("%s(%q, %d) is %d, but %d were found one by one", name, s, n, many, told(knownTo(s)[n]))
			}
		}
	}
}

// part returns WaysPart for sets and numbers for which it must be true.
func part(t *testing.T, s string, n int, k int) int {
	t.Helper()
	many, ok := impl.WaysPart(s, n, k)
	if !ok {
		t.Fatalf("WaysPart(%q, %d, %d) fails", s, n, k)
	}
	return many
}

func TestP76Many(t *testing.T) {
	row := func(s string) *big.Int { return allTimes(rowOf(s, 1)) }
	checkWays(t, "WaysMany", waysMost, impl.WaysMany, row, func(w waysTo) int { return w.many })
	for i, s := range waySets() {
		for _, n := range []int{0, 1, 2, i % 40, 39, 40} {
			sum := 0
			for k := range waysMost + 1 {
				sum += part(t, s, n, k)
			}
			if many, ok := impl.WaysMany(s, n); !ok || many != sum {
				t.Fatalf("WaysMany(%q, %d) is %d %v, and WaysPart of all k %d", s, n, many, ok, sum)
			}
		}
	}
}

func TestP76ManyExamples(t *testing.T) {
	checkWayExamples(t, "WaysMany", impl.WaysMany, []wayExample{
		{"011(0)", 5, 8}, {"011(0)", 0, 1}, {"011(0)", 1, 1}, {"011(0)", 2, 2}, {"011(0)", 40, 165580141},
		// All numbers have the most ways.
		{"(1)", 0, 1}, {"(1)", 1, 1}, {"(1)", 2, 2}, {"(1)", 3, 4}, {"(1)", 39, 1 << 38}, {"(1)", 40, 1 << 39}, {"0(1)", 40, 1 << 39}, {"00(1)", 40, 63245986},
		// Just 0, and no number.
		{"1(0)", 0, 1}, {"1(0)", 1, 0}, {"1(0)", 40, 0}, {"(0)", 0, 1}, {"(0)", 1, 0}, {"(0)", 40, 0}, {"000(00)", 0, 1},
		{"01(0)", 40, 1}, {"01(0)", 0, 1}, {"001(0)", 40, 1}, {"001(0)", 39, 0}, {"(01)", 40, 102334155}, {"(10)", 40, 1 << 19}, {"(10)", 39, 0}, {"(10)", 0, 1},
		{"0001010(0)", 8, 2}, {"0001010(0)", 7, 0}, {"00000001(0)", 7, 1}, {"00000001(0)", 8, 0}, {"00000001(0)", 35, 1}, {"00000001(0)", 40, 0},
		{"(00000001)", 7, 1}, {"(00000001)", 14, 1}, {"(00000001)", 15, 1}, {"(00000001)", 22, 2}, {"(00000001)", 40, 0}, {"(10000000)", 40, 16}, {"(10000000)", 39, 0}, {"00000000(00000001)", 15, 1}, {"00000000(00000001)", 7, 0}, {"00000000(00000001)", 30, 1}, {"00000000(00000001)", 40, 0}, {"00000000(1)", 40, 345}, {"00000000(1)", 7, 0}, {"00000000(1)", 8, 1}, {"00000000(1)", 16, 2},
	})
}

func TestP76ManyFails(t *testing.T) {
	checkNoWays(t, "WaysMany", waysMost, impl.WaysMany)
}

func TestP77Bags(t *testing.T) {
	row := func(s string) *big.Int { return bagRow(s, allTimes) }
	checkWays(t, "WaysBags", bagsMost, impl.WaysBags, row, func(w waysTo) int { return w.bags })
	for _, s := range waySets() {
		star := bigStar(s)
		for n := range bagsMost + 1 {
			bags, ok := impl.WaysBags(s, n)
			if !ok || (bags > 0) != impl.StarHas(s, n) || (bags > 0) != (star.Bit(n) == 1) {
				t.Fatalf("WaysBags(%q, %d) is %d %v, StarHas %v", s, n, bags, ok, impl.StarHas(s, n))
			}
			many, okMany := impl.WaysMany(s, n)
			if okMany != (n <= waysMost) || okMany && (many < bags || (many > 0) != (bags > 0)) {
				t.Fatalf("WaysBags(%q, %d) is %d, WaysMany %d %v", s, n, bags, many, okMany)
			}
		}
	}
}

func TestP77BagsExamples(t *testing.T) {
	checkWayExamples(t, "WaysBags", impl.WaysBags, []wayExample{
		{"011(0)", 5, 3}, {"011(0)", 0, 1}, {"011(0)", 60, 31}, {"011(0)", 59, 30}, {"01(0)", 60, 1}, {"001(0)", 60, 1}, {"001(0)", 59, 0},
		{"(1)", 0, 1}, {"(1)", 1, 1}, {"(1)", 4, 5}, {"(1)", 5, 7}, {"(1)", 40, 37338}, {"(1)", 41, 44583}, {"(1)", 59, 831820}, {"(1)", 60, 966467},
		{"1(0)", 0, 1}, {"1(0)", 1, 0}, {"1(0)", 60, 0}, {"(0)", 0, 1}, {"(0)", 1, 0}, {"(0)", 60, 0},
		// Bags of odd numbers are as many as bags without a number twice.
		{"(01)", 60, 10880}, {"(10)", 60, 5604}, {"(10)", 59, 0}, {"0001010(0)", 7, 0}, {"0001010(0)", 8, 1}, {"0001010(0)", 15, 2}, {"0001010(0)", 60, 5},
		{"00000001(0)", 56, 1}, {"00000001(0)", 60, 0}, {"(00000001)", 7, 1}, {"(00000001)", 22, 1}, {"(00000001)", 30, 2}, {"(10000000)", 56, 15}, {"(10000000)", 60, 0}, {"00000000(00000001)", 15, 1}, {"00000000(00000001)", 46, 2}, {"00000000(00000001)", 60, 1}, {"00000000(1)", 16, 2},
	})
	checkNoWays(t, "WaysBags", bagsMost, impl.WaysBags)
}

func TestP78Apart(t *testing.T) {
	row := func(s string) *big.Int { return bagRow(s, withOne) }
	checkWays(t, "WaysApart", bagsMost, impl.WaysApart, row, func(w waysTo) int { return w.apart })
	for _, s := range waySets() {
		for n := range bagsMost + 1 {
			apart, ok := impl.WaysApart(s, n)
			bags, okBags := impl.WaysBags(s, n)
			if !ok || !okBags || apart > bags || n == 0 && (apart != 1 || bags != 1) {
				t.Fatalf("WaysApart(%q, %d) is %d %v, WaysBags %d %v", s, n, apart, ok, bags, okBags)
			}
		}
	}
}

func TestP78ApartExamples(t *testing.T) {
	checkWayExamples(t, "WaysApart", impl.WaysApart, []wayExample{
		{"011(0)", 0, 1}, {"011(0)", 1, 1}, {"011(0)", 2, 1}, {"011(0)", 3, 1}, {"011(0)", 4, 0}, {"011(0)", 60, 0}, {"01(0)", 1, 1}, {"01(0)", 2, 0},
		{"(1)", 0, 1}, {"(1)", 1, 1}, {"(1)", 2, 1}, {"(1)", 3, 2}, {"(1)", 5, 3}, {"(1)", 40, 1113}, {"(1)", 59, 9792}, {"(1)", 60, 10880},
		{"1(0)", 0, 1}, {"1(0)", 1, 0}, {"1(0)", 60, 0}, {"(0)", 0, 1}, {"(0)", 1, 0}, {"(0)", 60, 0},
		{"(01)", 8, 2}, {"(10)", 60, 296}, {"(10)", 59, 0}, {"0001010(0)", 8, 1}, {"0001010(0)", 3, 1}, {"0001010(0)", 6, 0}, {"0001010(0)", 16, 0},
		{"00000001(0)", 7, 1}, {"00000001(0)", 14, 0}, {"(00000001)", 22, 1}, {"(00000001)", 30, 1}, {"(10000000)", 56, 5}, {"(10000000)", 60, 0}, {"00000000(00000001)", 15, 1}, {"00000000(00000001)", 30, 0}, {"00000000(00000001)", 38, 1}, {"01111111(0)", 28, 1}, {"01111111(0)", 27, 1}, {"01111111(0)", 29, 0}, {"01111111(0)", 14, 8},
	})
	checkNoWays(t, "WaysApart", bagsMost, impl.WaysApart)
}

// fewestTo returns the least number of numbers of a way to each n up to fewMost, or -1: sums of more and more numbers are made until nothing comes in any more.
func fewestTo(s string) []int {
	few := slices.Repeat([]int{-1}, fewMost+1)
	set := bigOf(s, fewMost+1)
	set.SetBit(set, 0, 0)
	// Sums of more than fewMost numbers greater than 0 are too great.
	sums := big.NewInt(1)
	for k := range fewMost + 1 {
		for n := range few {
			if few[n] < 0 && sums.Bit(n) == 1 {
				few[n] = k
			}
		}
		sums = bigSum(set, sums, fewMost+1)
	}
	return few
}

func TestP79Few(t *testing.T) {
	none, some := 0, 0
	for _, s := range waySets() {
		want := fewestTo(s)
		for n := range fewMost + 1 {
			few, ok := impl.WaysFew(s, n)
			if ok != (want[n] >= 0) || few != max(want[n], 0) {
				t.Fatalf("WaysFew(%q, %d) is %d %v, not %d", s, n, few, ok, want[n])
			}
			if n <= listsMost && want[n] != knownTo(s)[n].few {
				t.Fatalf("the test takes %d for WaysFew(%q, %d), not %d", want[n], s, n, knownTo(s)[n].few)
			}
			if ok {
				some++
			} else {
				none++
			}
		}
	}
	if none < 1000 || some < 1000 {
		t.Errorf("there was just %d times none, and %d times one", none, some)
	}
}

func TestP79FewParts(t *testing.T) {
	for i, s := range waySets() {
		for _, n := range []int{0, 1, 2, 7, i % 40, 39, 40} {
			few, ok := impl.WaysFew(s, n)
			for k := range waysMost + 1 {
				many := part(t, s, n, k)
				if !ok && many > 0 || ok && k < few && many > 0 || ok && k == few && many == 0 {
					t.Fatalf("WaysFew(%q, %d) is %d %v, WaysPart of %d is %d", s, n, few, ok, k, many)
				}
			}
		}
	}
}

func TestP79FewExamples(t *testing.T) {
	checkWayExamples(t, "WaysFew", impl.WaysFew, []wayExample{
		{"011(0)", 0, 0}, {"011(0)", 1, 1}, {"011(0)", 2, 1}, {"011(0)", 5, 3}, {"011(0)", 199, 100}, {"011(0)", 200, 100}, {"01(0)", 200, 200}, {"01(0)", 199, 199}, {"(1)", 0, 0}, {"(1)", 1, 1}, {"(1)", 200, 1},
		{"1(0)", 0, 0}, {"(0)", 0, 0}, {"000(00)", 0, 0}, {"(01)", 199, 1}, {"(01)", 200, 2}, {"(10)", 200, 1}, {"00000001(0)", 0, 0}, {"00000001(0)", 196, 28}, {"00000001(0)", 7, 1},
		{"0001010(0)", 3, 1}, {"0001010(0)", 6, 2}, {"0001010(0)", 8, 2}, {"0001010(0)", 9, 3}, {"0001010(0)", 12, 4}, {"0001010(0)", 199, 41}, {"0001010(0)", 200, 40}, {"0001010(0)", 0, 0},
		// The greatest number first is not best: 4 and 1, 1, or 3 and 3.
		{"01011(0)", 6, 2}, {"0100111(0)", 8, 2}, {"0100111(0)", 200, 34}, {"(00000001)", 7, 1}, {"(00000001)", 15, 1}, {"(00000001)", 200, 8}, {"(00000001)", 199, 1}, {"(10000000)", 200, 1}, {"00000000(00000001)", 199, 1}, {"00000000(00000001)", 15, 1}, {"00000000(00000001)", 30, 2}, {"00000000(00000001)", 200, 8}, {"00000000(1)", 200, 1}, {"00000000(1)", 8, 1}, {"00000000(1)", 0, 0},
	})
	for _, c := range []wayExample{
		{s: "1(0)", n: 1}, {s: "1(0)", n: 200}, {s: "(0)", n: 1}, {s: "(0)", n: 200}, {s: "(10)", n: 1}, {s: "(10)", n: 199}, {s: "0001010(0)", n: 1}, {s: "0001010(0)", n: 2}, {s: "0001010(0)", n: 4}, {s: "0001010(0)", n: 7}, {s: "00000001(0)", n: 200}, {s: "00000001(0)", n: 6}, {s: "00000001(0)", n: 8}, {s: "(10000000)", n: 199}, {s: "00000000(00000001)", n: 7}, {s: "00000000(00000001)", n: 16}, {s: "00000000(1)", n: 7},
	} {
		if few, ok := impl.WaysFew(c.s, c.n); ok || few != 0 {
			t.Errorf("WaysFew(%q, %d) is %d %v", c.s, c.n, few, ok)
		}
	}
	checkNoWays(t, "WaysFew", fewMost, impl.WaysFew)
}

// firstWays returns the first way to each n up to waysMost, or nil: the least of all lists that go on with a first way behind their first number.
func firstWays(s string) [][]int {
	out := make([][]int, waysMost+1)
	out[0] = []int{}
	for n := range out {
		for _, k := range numbersUpTo(s, n+1) {
			if k == 0 || out[n-k] == nil {
				continue
			}
			if list := append([]int{k}, out[n-k]...); out[n] == nil || slices.Compare(list, out[n]) < 0 {
				out[n] = list
			}
		}
	}
	return out
}

func TestP80First(t *testing.T) {
	none, some := 0, 0
	for _, s := range waySets() {
		want := firstWays(s)
		for n := range waysMost + 1 {
			way, ok := impl.WaysFirst(s, n)
			if ok != (want[n] != nil) || !slices.Equal(way, want[n]) {
				t.Fatalf("WaysFirst(%q, %d) is %v %v, not %v", s, n, way, ok, want[n])
			}
			if n <= listsMost && !slices.Equal(way, knownTo(s)[n].first) {
				t.Fatalf("WaysFirst(%q, %d) is %v, but %v was found one by one", s, n, way, knownTo(s)[n].first)
			}
			if many, _ := impl.WaysMany(s, n); ok != (many > 0) {
				t.Fatalf("WaysFirst(%q, %d) is %v, WaysMany %d", s, n, ok, many)
			}
			if ok {
				some++
			} else {
				none++
			}
		}
	}
	if none < 500 || some < 500 {
		t.Errorf("there was just %d times none, and %d times one", none, some)
	}
}

// TestP80FirstBegins checks what the promise tells, number by number.
func TestP80FirstBegins(t *testing.T) {
	for _, s := range waySets() {
		star := bigStar(s)
		for n := range waysMost + 1 {
			way, _ := impl.WaysFirst(s, n)
			left := n
			for i, k := range way {
				if k < 1 || !impl.SetHas(s, k) || k > left {
					t.Fatalf("WaysFirst(%q, %d) is %v, with %d", s, n, way, k)
				}
				for lesser := 1; lesser < k; lesser++ {
					if impl.SetHas(s, lesser) && star.Bit(left-lesser) == 1 {
						t.Fatalf("WaysFirst(%q, %d) is %v, but may have %d at %d", s, n, way, lesser, i)
					}
				}
				left -= k
			}
			if len(way) > 0 && left != 0 {
				t.Fatalf("WaysFirst(%q, %d) is %v, and leaves %d", s, n, way, left)
			}
		}
	}
}

func TestP80FirstExamples(t *testing.T) {
	for _, c := range []struct {
		s    string
		n    int
		want []int
	}{
		{"(1)", 0, []int{}}, {"(1)", 1, []int{1}}, {"(1)", 3, []int{1, 1, 1}}, {"(1)", 40, slices.Repeat([]int{1}, 40)}, {"0001010(0)", 8, []int{3, 5}}, {"0001010(0)", 9, []int{3, 3, 3}}, {"0001010(0)", 10, []int{5, 5}}, {"0001010(0)", 11, []int{3, 3, 5}}, {"0001010(0)", 5, []int{5}}, {"0001010(0)", 0, []int{}}, {"0001010(0)", 40, append(slices.Repeat([]int{3}, 10), 5, 5)},
		{"00101(0)", 6, []int{2, 2, 2}}, {"001001(0)", 7, []int{2, 5}}, {"001001(0)", 5, []int{5}}, {"(01)", 40, slices.Repeat([]int{1}, 40)}, {"(10)", 40, slices.Repeat([]int{2}, 20)}, {"00000001(0)", 35, []int{7, 7, 7, 7, 7}}, {"00000001(0)", 7, []int{7}}, {"00000001(0)", 0, []int{}},
		{"(00000001)", 22, []int{7, 15}}, {"(00000001)", 15, []int{15}}, {"(00000001)", 39, []int{39}}, {"(00000001)", 38, []int{7, 31}}, {"(10000000)", 40, []int{8, 8, 8, 8, 8}}, {"00000000(00000001)", 38, []int{15, 23}}, {"00000000(00000001)", 39, []int{39}}, {"00000000(1)", 40, []int{8, 8, 8, 8, 8}}, {"00000000(1)", 39, []int{8, 8, 8, 15}}, {"00000000(1)", 15, []int{15}}, {"1(0)", 0, []int{}}, {"(0)", 0, []int{}}, {"000(00)", 0, []int{}},
	} {
		for _, s := range []string{c.s, withZero(c.s), longer(c.s), longer(withZero(c.s))} {
			if !isSmall(s) {
				continue
			}
			if way, ok := impl.WaysFirst(s, c.n); !ok || !slices.Equal(way, c.want) {
				t.Errorf("WaysFirst(%q, %d) is %v %v, not %v", s, c.n, way, ok, c.want)
			}
		}
	}
	for _, c := range []wayExample{
		{s: "1(0)", n: 1}, {s: "1(0)", n: 40}, {s: "(0)", n: 1}, {s: "(0)", n: 40}, {s: "(10)", n: 1}, {s: "(10)", n: 39}, {s: "0001010(0)", n: 7}, {s: "0001010(0)", n: 1}, {s: "00000001(0)", n: 40}, {s: "00000001(0)", n: 8}, {s: "00000000(00000001)", n: 7}, {s: "00000000(00000001)", n: 40}, {s: "00000000(1)", n: 7},
	} {
		if way, ok := impl.WaysFirst(c.s, c.n); ok || len(way) != 0 {
			t.Errorf("WaysFirst(%q, %d) is %v %v", c.s, c.n, way, ok)
		}
	}
	checkNoWays(t, "WaysFirst", waysMost, func(s string, n int) (int, bool) {
		way, ok := impl.WaysFirst(s, n)
		return len(way), ok
	})
}

// TestP80FirstOwn checks that a way that has changed, or grown, changes no other one.
func TestP80FirstOwn(t *testing.T) {
	for _, n := range []int{3, 11, 40} {
		one, _ := impl.WaysFirst("0001010(0)", n)
		two, _ := impl.WaysFirst("0001010(0)", n)
		want := slices.Clone(two)
		for i := range one {
			one[i] = -7
		}
		_ = append(one, -8)
		three, _ := impl.WaysFirst("0001010(0)", n)
		if !slices.Equal(two, want) || !slices.Equal(three, want) {
			t.Errorf("WaysFirst of %d has become %v and %v, not %v", n, two, three, want)
		}
	}
}

func TestP81Part(t *testing.T) {
	for i, s := range waySets() {
		row := rowOf(s, 1)
		power := big.NewInt(1)
		for k := range waysMost + 1 {
			for n := range waysMost + 1 {
				if i%8 > 0 && 12 < n && n < 39 && n != 12+k {
					continue
				}
				many := part(t, s, n, k)
				if many != slotOf(power, n) {
					t.Fatalf("WaysPart(%q, %d, %d) is %d, not %d", s, n, k, many, slotOf(power, n))
				}
				if n <= listsMost && many != knownTo(s)[n].lengths[k] {
					t.Fatalf("WaysPart(%q, %d, %d) is %d, but %d were found one by one", s, n, k, many, knownTo(s)[n].lengths[k])
				}
			}
			power = times(power, row)
		}
	}
}

func TestP81PartFirstNumbers(t *testing.T) {
	for i, s := range waySets() {
		for _, n := range []int{0, 1, 9, i % 40, 40} {
			for _, k := range []int{1, 2, 3, 1 + i%40, 40} {
				sum := 0
				for _, first := range numbersUpTo(s, n+1) {
					if first > 0 {
						sum += part(t, s, n-first, k-1)
					}
				}
				if many := part(t, s, n, k); many != sum {
					t.Fatalf("WaysPart(%q, %d, %d) is %d, and with one number less %d", s, n, k, many, sum)
				}
			}
		}
	}
}

func TestP81PartExamples(t *testing.T) {
	for _, c := range []struct {
		s          string
		n, k, want int
	}{
		{"(1)", 0, 0, 1}, {"(1)", 0, 1, 0}, {"(1)", 1, 0, 0}, {"(1)", 1, 1, 1}, {"(1)", 5, 2, 4}, {"(1)", 5, 3, 6}, {"(1)", 40, 0, 0}, {"(1)", 40, 1, 1}, {"(1)", 40, 20, 68923264410}, {"(1)", 40, 21, 68923264410}, {"(1)", 40, 39, 39}, {"(1)", 40, 40, 1}, {"(1)", 39, 40, 0}, {"(1)", 0, 40, 0},
		{"1(0)", 0, 0, 1}, {"1(0)", 0, 1, 0}, {"1(0)", 0, 40, 0}, {"1(0)", 40, 0, 0}, {"1(0)", 40, 40, 0}, {"1(0)", 1, 1, 0}, {"(0)", 0, 0, 1}, {"(0)", 0, 1, 0}, {"(0)", 1, 0, 0}, {"(0)", 1, 1, 0}, {"(0)", 40, 40, 0},
		{"011(0)", 5, 2, 0}, {"011(0)", 5, 3, 3}, {"011(0)", 5, 4, 4}, {"011(0)", 5, 5, 1}, {"011(0)", 40, 20, 1}, {"011(0)", 40, 30, 30045015}, {"011(0)", 40, 40, 1}, {"011(0)", 40, 19, 0}, {"01(0)", 40, 40, 1}, {"01(0)", 40, 39, 0}, {"01(0)", 39, 39, 1}, {"001(0)", 40, 20, 1}, {"001(0)", 40, 40, 0},
		{"00000001(0)", 35, 5, 1}, {"00000001(0)", 35, 4, 0}, {"00000001(0)", 0, 0, 1}, {"(00000001)", 22, 2, 2}, {"(00000001)", 15, 1, 1}, {"(00000001)", 14, 2, 1}, {"(10000000)", 40, 2, 4}, {"(10000000)", 0, 0, 1}, {"00000000(00000001)", 38, 2, 2}, {"00000000(00000001)", 0, 0, 1}, {"00000000(1)", 40, 5, 1}, {"00000000(1)", 40, 4, 165}, {"00000000(1)", 16, 2, 1},
	} {
		for _, s := range []string{c.s, withZero(c.s), longer(c.s), longer(withZero(c.s))} {
			if isSmall(s) && part(t, s, c.n, c.k) != c.want {
				t.Errorf("WaysPart(%q, %d, %d) is not %d", s, c.n, c.k, c.want)
			}
		}
	}
}

func TestP81PartFails(t *testing.T) {
	for _, k := range []int{0, 1, 2, 40} {
		checkNoWays(t, "WaysPart", waysMost, func(s string, n int) (int, bool) { return impl.WaysPart(s, n, k) })
	}
	for _, s := range smallSets() {
		for _, n := range []int{-1, 0, 1, 2, 40, 41} {
			for _, k := range append(noWayNumbers(), 41, 42, 48) {
				if many, ok := impl.WaysPart(s, n, k); ok || many != 0 {
					t.Errorf("WaysPart(%q, %d, %d) is %d %v", s, n, k, many, ok)
				}
			}
		}
	}
}

func TestP82Odd(t *testing.T) {
	row := func(s string) *big.Int {
		one := rowOf(s, 1)
		return times(one, allTimes(times(one, one)))
	}
	checkWays(t, "WaysOdd", waysMost, impl.WaysOdd, row, func(w waysTo) int { return w.odd })
	for i, s := range waySets() {
		for _, n := range []int{0, 1, 2, i % 40, 39, 40} {
			sum := 0
			for k := 1; k < waysMost; k += 2 {
				sum += part(t, s, n, k)
			}
			if odd, ok := impl.WaysOdd(s, n); !ok || odd != sum {
				t.Fatalf("WaysOdd(%q, %d) is %d %v, and WaysPart of all odd k %d", s, n, odd, ok, sum)
			}
		}
	}
}

func TestP82OddExamples(t *testing.T) {
	checkWayExamples(t, "WaysOdd", impl.WaysOdd, []wayExample{
		{"(1)", 0, 0}, {"(1)", 1, 1}, {"(1)", 2, 1}, {"(1)", 3, 2}, {"(1)", 39, 1 << 37}, {"(1)", 40, 1 << 38}, {"1(0)", 0, 0}, {"1(0)", 1, 0}, {"1(0)", 40, 0}, {"(0)", 0, 0}, {"(0)", 1, 0}, {"(0)", 40, 0},
		{"01(0)", 1, 1}, {"01(0)", 2, 0}, {"01(0)", 39, 1}, {"01(0)", 40, 0}, {"011(0)", 5, 4}, {"011(0)", 2, 1}, {"011(0)", 4, 3}, {"(01)", 40, 0}, {"(01)", 39, 63245986}, {"(10)", 40, 1 << 18}, {"0001010(0)", 8, 0}, {"0001010(0)", 3, 1}, {"0001010(0)", 11, 3},
		{"00000001(0)", 35, 1}, {"00000001(0)", 28, 0}, {"(00000001)", 22, 0}, {"(00000001)", 15, 1}, {"(10000000)", 40, 8}, {"00000000(00000001)", 38, 0}, {"00000000(00000001)", 39, 1}, {"00000000(1)", 16, 1},
	})
	checkNoWays(t, "WaysOdd", waysMost, impl.WaysOdd)
}

func TestP83Back(t *testing.T) {
	// What stands on both sides of the middle, and what stands in it.
	row := func(s string) *big.Int { return times(allTimes(rowOf(s, 2)), withOne(rowOf(s, 1))) }
	checkWays(t, "WaysBack", waysMost, impl.WaysBack, row, func(w waysTo) int { return w.back })
	for _, s := range waySets() {
		for n := range waysMost + 1 {
			back, ok := impl.WaysBack(s, n)
			many, okMany := impl.WaysMany(s, n)
			if !ok || !okMany || back > many || (many-back)%2 != 0 {
				t.Fatalf("WaysBack(%q, %d) is %d %v, WaysMany %d %v", s, n, back, ok, many, okMany)
			}
		}
	}
}

func TestP83BackExamples(t *testing.T) {
	checkWayExamples(t, "WaysBack", impl.WaysBack, []wayExample{
		{"(1)", 0, 1}, {"(1)", 1, 1}, {"(1)", 2, 2}, {"(1)", 3, 2}, {"(1)", 4, 4}, {"(1)", 39, 1 << 19}, {"(1)", 40, 1 << 20}, {"1(0)", 0, 1}, {"1(0)", 1, 0}, {"1(0)", 40, 0}, {"(0)", 0, 1}, {"(0)", 1, 0}, {"(0)", 40, 0},
		{"01(0)", 39, 1}, {"01(0)", 40, 1}, {"011(0)", 5, 2}, {"011(0)", 4, 3}, {"011(0)", 2, 2}, {"(01)", 40, 6765}, {"(10)", 40, 1 << 10}, {"(10)", 39, 0}, {"0001010(0)", 8, 0}, {"0001010(0)", 11, 1}, {"0001010(0)", 13, 1}, {"0001010(0)", 16, 2},
		{"00000001(0)", 35, 1}, {"00000001(0)", 28, 1}, {"(00000001)", 22, 0}, {"(00000001)", 29, 1}, {"(00000001)", 14, 1}, {"(10000000)", 40, 4}, {"00000000(00000001)", 38, 0}, {"00000000(00000001)", 30, 1}, {"00000000(1)", 16, 2},
	})
	checkNoWays(t, "WaysBack", waysMost, impl.WaysBack)
}

func TestP84ManyLastNumbers(t *testing.T) {
	for _, s := range waySets() {
		for n := 1; n <= waysMost; n++ {
			sum := 0
			for _, last := range numbersUpTo(s, n+1) {
				if last > 0 {
					ahead, _ := impl.WaysMany(s, n-last)
					sum += ahead
				}
			}
			if many, ok := impl.WaysMany(s, n); !ok || many != sum {
				t.Fatalf("WaysMany(%q, %d) is %d %v, and by last numbers %d", s, n, many, ok, sum)
			}
		}
	}
}

// TestP84ManyAhead hands on from each number to those ahead of it, for all sets of numbers up to 7.
func TestP84ManyAhead(t *testing.T) {
	for size := 1; size <= 7; size++ {
		for _, signs := range bits(size) {
			s := "0" + signs + "(0)"
			ahead := make([]int, size)
			ahead[0] = 1
			for n := range waysMost + 1 {
				if many, ok := impl.WaysMany(s, n); !ok || many != ahead[0] {
					t.Fatalf("WaysMany(%q, %d) is %d %v, not %d", s, n, many, ok, ahead[0])
				}
				ahead = append(ahead, 0)
				for k := range size {
					ahead[k+1] += ahead[0] * int(signs[k]-'0')
				}
				ahead = ahead[1:]
			}
		}
	}
}
