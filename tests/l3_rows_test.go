package tests

import (
	"math"
	"math/big"
	"slices"
	"strings"
	"testing"

	"loop.example/oneletter/impl"
)

// walked returns the numbers of a row that are less than an end, found by going on step by step.
func walked(row []int, end int) []int {
	if row[1] == 0 {
		return []int{row[0]}
	}
	var out []int
	for n := row[0]; n < end; n += row[1] {
		out = append(out, n)
	}
	return out
}

// counted returns, for each number less than an end, how many rows have it.
func counted(rows [][]int, end int) []int {
	counts := make([]int, end)
	for _, row := range rows {
		for _, n := range walked(row, end) {
			counts[n]++
		}
	}
	return counts
}

// enoughFor returns how many numbers tell all about rows: a round of all steps behind the longest tail and ring, or less where a theorem allows it, that k rows have all numbers if they have 2 to the k of them, one behind the other.
func enoughFor(rows [][]int) int {
	round := 1
	for _, row := range rows {
		for i := 1; row[1] > 0 && round < 10000000; i++ {
			if i*round%row[1] == 0 {
				round *= i
				break
			}
		}
	}
	return 120 + min(round, 60*max(60, 1<<len(rows)))
}

// rowsSigns writes the signs of the set that rows tell.
func rowsSigns(rows [][]int, end int) string {
	signs := make([]byte, end)
	for n, count := range counted(rows, end) {
		signs[n] = '0' + byte(min(count, 1))
	}
	return string(signs)
}

// repeatRow returns a list of one row, told many times.
func repeatRow(row []int, times int) [][]int {
	var out [][]int
	for range times {
		out = append(out, slices.Clone(row))
	}
	return out
}

// mixedNumbers returns numbers less than a limit, other ones for another seed but the same ones again for the same seed.
func mixedNumbers(seed int, size int, limit int) []int {
	state := uint64(seed)*2654435761 + 98765
	out := make([]int, size)
	for i := range out {
		state = state*6364136223846793005 + 1442695040888963407
		out[i] = int(state >> 33 % uint64(limit))
	}
	return out
}

// mixedRows returns a list of rows with steps that are given, many of which begin with the first number from 60 on that no row ahead has.
func mixedRows(seed int, size int, steps []int) [][]int {
	var out [][]int
	numbers := mixedNumbers(seed, 3*size, 1000)
	for i := range size {
		step := steps[numbers[3*i]%len(steps)]
		begin := numbers[3*i+1] % 60
		free := slices.Index(counted(out, 200)[60:], 0)
		if step > 0 && free >= 0 && numbers[3*i+2]%4 > 0 {
			begin = (60 + free) % step
		}
		out = append(out, []int{begin, step})
	}
	return out
}

// ordinaryRows are lists of rows of all kinds.
func ordinaryRows() [][][]int {
	var out [][][]int
	for i := range 600 {
		out = append(out, mixedRows(i, i%8, []int{0, 1, 2, 3, 4, 5, 6}))
		out = append(out, mixedRows(i, i%9, []int{0, 2, 2, 3, 4, 6, 8, 12}))
		out = append(out, mixedRows(i, 5+i%16, []int{2, 4, 8, 3, 6, 12, 24, 48, 16, 0}))
		out = append(out, mixedRows(i, 10+i%11, []int{4, 5, 6, 10, 12, 15, 20, 30, 60}))
	}
	for i := range 60 {
		out = append(out, mixedRows(i, i%7, []int{0, 7, 11, 13, 29, 30, 31, 53, 58, 59, 60}))
		out = append(out, mixedRows(i, i%9, []int{2, 3, 5, 7, 9, 11, 25, 27, 49}))
	}
	for _, a := range edgeRows() {
		out = append(out, [][]int{a}, [][]int{a, a})
		for _, b := range edgeRows() {
			out = append(out, [][]int{a, b})
		}
	}
	return append(out, edgeRowLists()...)
}

// edgeRows are rows at the ends of what beginnings and steps may be.
func edgeRows() [][]int {
	var out [][]int
	for _, begin := range []int{0, 1, 30, 58, 59} {
		for _, step := range []int{0, 1, 2, 59, 60} {
			out = append(out, []int{begin, step})
		}
	}
	return out
}

// edgeRowLists are lists without rows, of just 20 rows, and of rows of the step 0 alone, twice the same, and among others.
func edgeRowLists() [][][]int {
	each, single := roundOf(20), [][]int{}
	for i := range 20 {
		single = append(single, []int{3 * i, 0})
	}
	return [][][]int{
		nil, {}, {{5, 0}}, {{5, 0}, {5, 0}}, {{0, 0}}, {{59, 0}}, {{59, 0}, {0, 0}, {59, 0}}, {{5, 0}, {5, 1}}, {{4, 0}, {5, 1}}, {{0, 0}, {2, 0}, {3, 1}},
		each, single, repeatRow([]int{0, 0}, 20), repeatRow([]int{0, 1}, 20), repeatRow([]int{59, 60}, 20), append(slices.Clone(each[:19]), []int{19, 0}),
		{{59, 1}}, {{59, 60}}, {{59, 1}, {0, 60}}, {{0, 2}, {1, 4}, {3, 4}}, {{0, 2}, {1, 2}, {7, 59}}, {{0, 2}, {1, 2}, {7, 0}},
		{{0, 2}, {0, 3}, {1, 4}, {5, 6}, {7, 12}}, {{0, 2}, {0, 3}, {1, 4}, {5, 6}, {7, 13}}, {{0, 2}, {1, 4}, {3, 8}, {7, 16}, {15, 32}, {31, 32}},
	}
}

// noRows are lists that are no rows.
func noRows() [][]int {
	return [][]int{
		nil, {}, {1}, {1, 2, 3}, {0, 0, 0}, {1, 2, 3, 4}, {-1, 0}, {-1, 2}, {0, -1}, {-1, -1}, {-5, 5}, {60, 0}, {60, 1}, {60, 60}, {0, 61}, {59, 61}, {60, 61},
		{math.MinInt, 1}, {math.MaxInt, 1}, {0, math.MaxInt}, {0, math.MinInt}, {math.MinInt, math.MinInt}, {math.MaxInt, math.MaxInt}, {1 << 32, 1}, {0, 1 << 32},
	}
}

// noRowLists are lists that are no lists of at most 20 rows.
func noRowLists() [][][]int {
	var out [][][]int
	for _, none := range noRows() {
		out = append(out, [][]int{none}, [][]int{none, {0, 1}}, [][]int{{0, 1}, none}, [][]int{{0, 2}, {1, 2}, {5, 0}, none}, append(repeatRow([]int{0, 1}, 19), none))
	}
	return append(out, repeatRow([]int{0, 0}, 21), repeatRow([]int{0, 1}, 21), repeatRow([]int{59, 60}, 21), repeatRow([]int{0, 1}, 1000), repeatRow(nil, 20), repeatRow(nil, 21))
}

func TestP25In(t *testing.T) {
	for _, rows := range ordinaryRows() {
		if _, ok := impl.RowsHas(rows, 5); !ok || !impl.RowsIn(rows) {
			t.Errorf("RowsIn of %v is %v, RowsHas of 5 is %v", rows, impl.RowsIn(rows), ok)
		}
	}
	for begin := -2; begin <= 62; begin++ {
		for step := -2; step <= 62; step++ {
			rows := [][]int{{begin, step}}
			want := begin >= 0 && begin <= 59 && step >= 0 && step <= 60
			if _, ok := impl.RowsHas(rows, 5); ok != want || impl.RowsIn(rows) != want {
				t.Errorf("RowsIn of %v is %v, RowsHas of 5 is %v, not %v", rows, impl.RowsIn(rows), ok, want)
			}
		}
	}
	for _, rows := range noRowLists() {
		if n, ok := impl.RowsHas(rows, 5); ok || n != 0 || impl.RowsIn(rows) {
			t.Errorf("RowsIn of %v is %v, RowsHas of 5 is %d %v", rows, impl.RowsIn(rows), n, ok)
		}
	}
}

func TestP26Set(t *testing.T) {
	made, long := 0, 0
	for _, rows := range ordinaryRows() {
		want, fits := tidyOfSigns(rowsSigns(rows, enoughFor(rows)))
		text, ok := impl.RowsSet(rows)
		if ok != fits || text != want {
			t.Fatalf("RowsSet(%v) is %q %v, not %q %v", rows, text, ok, want, fits)
		}
		if !ok {
			long++
			continue
		}
		made++
		for n := range 150 {
			if count, ok := impl.RowsHas(rows, n); !ok || impl.SetHas(text, n) != (count > 0) {
				t.Fatalf("%d of %v have %d, %v; RowsSet is %q", count, rows, n, ok, text)
			}
		}
	}
	if made < 1000 || long < 100 {
		t.Errorf("just %d lists had a set text, and %d were too long", made, long)
	}
	for _, rows := range noRowLists() {
		if text, ok := impl.RowsSet(rows); ok || text != "" {
			t.Errorf("RowsSet(%v) is %q %v", rows, text, ok)
		}
	}
}

// lateGap are rows that have each number less than 191, but not all.
func lateGap() [][]int {
	return [][]int{{0, 2}, {1, 4}, {3, 8}, {7, 16}, {15, 32}, {31, 0}, {3, 60}, {35, 60}, {7, 60}, {39, 60}}
}

// primeRows are rows that come again together just after 1922760350154212639070 numbers, the last one of which no row has.
func primeRows() [][]int {
	var out [][]int
	for _, prime := range []int{2, 3, 5, 7, 11, 13, 17, 19, 23, 29, 31, 37, 41, 43, 47, 53, 59} {
		out = append(out, []int{prime - 2, prime})
	}
	return out
}

// rowsExample is a list of rows, with the tidy text of what it tells; this is too long if the text is empty.
type rowsExample struct {
	rows [][]int
	want string
}

func TestP26SetExamples(t *testing.T) {
	for _, c := range []rowsExample{
		{nil, "(0)"}, {[][]int{}, "(0)"}, {[][]int{{0, 0}}, "1(0)"}, {[][]int{{2, 0}}, "001(0)"}, {[][]int{{2, 0}, {2, 0}}, "001(0)"}, {[][]int{{59, 0}}, zeros60[1:] + "1(0)"},
		{[][]int{{0, 1}}, "(1)"}, {[][]int{{3, 1}}, "000(1)"}, {[][]int{{3, 1}, {2, 0}}, "00(1)"}, {[][]int{{3, 1}, {4, 0}}, "000(1)"}, {[][]int{{59, 1}}, zeros60[1:] + "(1)"}, {[][]int{{59, 1}, {58, 0}}, zeros60[2:] + "(1)"},
		{[][]int{{1, 2}}, "(01)"}, {[][]int{{3, 2}}, "00(01)"}, {[][]int{{3, 2}, {1, 0}}, "(01)"}, {[][]int{{2, 2}}, "0(01)"}, {[][]int{{59, 2}}, zeros60[2:] + "(01)"},
		{[][]int{{0, 2}, {1, 2}}, "(1)"}, {[][]int{{0, 2}, {1, 4}, {3, 4}}, "(1)"}, {[][]int{{0, 2}, {0, 3}}, "(101110)"}, {[][]int{{0, 2}, {0, 4}}, "(10)"}, {[][]int{{0, 2}, {0, 2}}, "(10)"},
		{[][]int{{0, 60}}, "(1" + zeros60[1:] + ")"}, {[][]int{{59, 60}}, "(" + zeros60[1:] + "1)"}, {[][]int{{0, 60}, {1, 60}}, "(11" + zeros60[2:] + ")"}, {[][]int{{0, 59}}, "(1" + zeros60[2:] + ")"},
		{[][]int{{0, 60}, {30, 60}}, "(1" + zeros60[:29] + ")"}, {[][]int{{0, 60}, {30, 60}, {0, 0}, {30, 0}}, "(1" + zeros60[:29] + ")"}, {[][]int{{59, 60}, {59, 0}}, "(" + zeros60[1:] + "1)"},
		{[][]int{{0, 59}, {0, 60}}, ""}, {[][]int{{0, 4}, {0, 15}}, strings.Join([]string{"(1", "0001", "0001", "0001", "0011", "0001", "0001", "0001", "0101", "0001", "0001", "0001", "1001", "0001", "0001", "000)"}, "")},
		{[][]int{{0, 8}, {0, 15}}, ""}, {[][]int{{0, 7}, {0, 9}}, ""}, {[][]int{{0, 30}, {0, 40}}, ""}, {[][]int{{0, 2}, {0, 60}, {0, 58}}, "(10)"}, {[][]int{{0, 2}, {0, 60}, {1, 58}}, "(11" + strings.Repeat("10", 28) + ")"},
		{[][]int{{0, 3}, {1, 9}, {4, 9}, {7, 9}}, "(110)"}, {[][]int{{0, 3}, {1, 9}, {4, 9}, {7, 27}}, "(110110110110110100110110100)"},
		{lateGap(), ""}, {append(lateGap(), []int{31, 32}), "(1)"}, {append(lateGap(), []int{1, 1}), "(1)"},
		{primeRows(), ""}, {append(primeRows(), []int{0, 1}), "(1)"}, {append(primeRows(), []int{5, 1}), "(1)"}, {append(primeRows(), []int{1, 2}), "(1)"}, {append(primeRows()[1:], []int{0, 2}), ""},
		{append(primeRows(), []int{1, 4}, []int{3, 8}, []int{7, 8}), "(1)"}, {append(primeRows(), []int{1, 4}, []int{3, 8}), ""},
	} {
		if text, ok := impl.RowsSet(c.rows); ok != (c.want != "") || text != c.want {
			t.Errorf("RowsSet(%v) is %q %v, not %q", c.rows, text, ok, c.want)
		}
	}
}

// rowsOfText returns the rows that the document tells for a tidy set text, and true, if there are not too many, and none begins too late.
func rowsOfText(text string) ([][]int, bool) {
	open := strings.Index(text, "(")
	ring := len(text) - open - 2
	var out [][]int
	for n, sign := range text[:open] + text[open+1:open+1+ring] {
		if sign == '0' {
			continue
		}
		step := 0
		if n >= open {
			step = ring
		}
		if n > 59 {
			return nil, false
		}
		out = append(out, []int{n, step})
	}
	return out, len(out) <= 20
}

// sameRows reports whether two lists tell the same rows, in the same order.
func sameRows(a [][]int, b [][]int) bool {
	return slices.EqualFunc(a, b, slices.Equal)
}

func TestP27Of(t *testing.T) {
	made, failed := 0, 0
	texts := append(someTexts(), smallTexts(4, 4)...)
	for i := range 60 {
		texts = append(texts, zeros60[:i]+"(1)", zeros60[:i]+"1(0)", zeros60[:i]+"("+zeros60[:i]+"1)", zeros60[:i]+"11(01)", "("+ones60[:i/3]+zeros60[i/3:]+")")
	}
	for _, s := range texts {
		tidy := tidyByTryingTable(s)
		want, fits := rowsOfText(tidy)
		rows, ok := impl.RowsOf(s)
		if ok != fits || ok && !sameRows(rows, want) || !ok && len(rows) > 0 {
			t.Fatalf("RowsOf(%q) is %v %v, not %v %v", s, rows, ok, want, fits)
		}
		if !ok {
			failed++
			continue
		}
		made++
		if text, ok := impl.RowsSet(rows); !ok || text != tidy {
			t.Fatalf("RowsSet of RowsOf(%q), %v, is %q %v", s, rows, text, ok)
		}
		for n := range 200 {
			if count, ok := impl.RowsHas(rows, n); !ok || count > 1 {
				t.Fatalf("RowsHas of RowsOf(%q), %v, is %d %v of %d", s, rows, count, ok, n)
			}
		}
	}
	if made < 500 || failed < 50 {
		t.Errorf("just %d sets have rows, and %d have none", made, failed)
	}
	for _, s := range noTexts() {
		if rows, ok := impl.RowsOf(s); ok || len(rows) > 0 {
			t.Errorf("RowsOf(%q) is %v %v", s, rows, ok)
		}
	}
}

func TestP27OfExamples(t *testing.T) {
	twenty := [][]int{}
	for i := range 20 {
		twenty = append(twenty, []int{i, 0})
	}
	for _, c := range []rowsExample{
		{nil, "(0)"}, {nil, "000(00)"}, {[][]int{{0, 1}}, "(1)"}, {[][]int{{0, 1}}, "11(11)"}, {[][]int{{0, 0}}, "1(0)"}, {[][]int{{1, 2}}, "0101(01)"}, {[][]int{{0, 0}, {2, 0}, {4, 1}}, "1010(1)"},
		{[][]int{{1, 0}, {3, 4}, {4, 4}}, "010(1100)"}, {[][]int{{59, 0}}, zeros60[1:] + "1(0)"}, {[][]int{{59, 60}}, "(" + zeros60[1:] + "1)"}, {[][]int{{59, 1}}, zeros60[1:] + "(1)"}, {[][]int{{0, 60}}, "(1" + zeros60[1:] + ")"},
		{[][]int{{58, 2}}, zeros60[:57] + "(01)"}, {[][]int{{59, 2}}, zeros60[:58] + "(01)"}, {[][]int{{1, 0}, {59, 4}}, "01" + zeros60[:56] + "(0100)"}, {[][]int{{58, 60}, {59, 60}}, "(" + zeros60[2:] + "11)"},
		{[][]int{{0, 0}, {59, 60}}, "1(" + zeros60[2:] + "10)"}, {[][]int{{50, 0}, {59, 12}}, zeros60[:50] + "1(" + zeros60[:8] + "1000)"}, {twenty, ones60[:20] + "(0)"}, {append(slices.Clone(twenty[:19]), []int{30, 1}), ones60[:19] + zeros60[:11] + "(1)"}, {append(slices.Clone(twenty[:18]), []int{30, 3}, []int{31, 3}), ones60[:18] + zeros60[:12] + "(110)"},
	} {
		if rows, ok := impl.RowsOf(c.want); !ok || !sameRows(rows, c.rows) {
			t.Errorf("RowsOf(%q) is %v %v, not %v", c.want, rows, ok, c.rows)
		}
	}
	for _, s := range []string{
		zeros60 + "(1)", zeros60[1:] + "(01)", zeros60 + "(01)", zeros60[:50] + "1(" + zeros60[:9] + "100)", "01" + zeros60[:57] + "(0100)", zeros60 + "(" + zeros60[1:] + "1)", "11(" + zeros60[2:] + "10)",
		ones60[:21] + "(0)", ones60[:20] + "0(1)", ones60[:19] + "0(011)", "(" + ones60[:21] + "0)", ones60 + "(0)", "(" + ones60[1:] + "0)", zeros60[:30] + "(" + zeros60[:30] + "1)", "1(" + ones60[:20] + "0)",
	} {
		if rows, ok := impl.RowsOf(s); ok || len(rows) > 0 {
			t.Errorf("RowsOf(%q) is %v %v", s, rows, ok)
		}
	}
}

func TestP28Has(t *testing.T) {
	for i, rows := range ordinaryRows() {
		if i%3 > 0 && len(rows) > 2 {
			continue
		}
		counts := counted(rows, 10001)
		for n, count := range counts {
			if i%50 > 0 && n > 200 && n < 9980 {
				continue
			}
			if has, ok := impl.RowsHas(rows, n); !ok || has != count {
				t.Fatalf("RowsHas(%v, %d) is %d %v, not %d", rows, n, has, ok, count)
			}
		}
		for _, n := range []int{-1, -2, -60, 10001, 10002, 20000, math.MinInt, math.MaxInt} {
			if has, ok := impl.RowsHas(rows, n); ok || has != 0 {
				t.Fatalf("RowsHas(%v, %d) is %d %v", rows, n, has, ok)
			}
		}
	}
	for _, rows := range noRowLists() {
		for _, n := range []int{0, 1, 5, 10000, 10001, -1} {
			if has, ok := impl.RowsHas(rows, n); ok || has != 0 {
				t.Errorf("RowsHas(%v, %d) is %d %v", rows, n, has, ok)
			}
		}
	}
	for _, c := range []struct {
		rows    [][]int
		n, want int
	}{
		{nil, 0, 0}, {nil, 10000, 0}, {[][]int{{0, 0}}, 0, 1}, {[][]int{{0, 0}}, 1, 0}, {[][]int{{5, 0}, {5, 0}}, 5, 2}, {[][]int{{5, 0}, {5, 0}}, 10, 0}, {[][]int{{5, 0}, {5, 5}}, 10, 1}, {[][]int{{5, 5}}, 0, 0},
		{[][]int{{0, 1}}, 10000, 1}, {repeatRow([]int{0, 1}, 20), 10000, 20}, {[][]int{{40, 60}}, 10000, 1}, {[][]int{{41, 60}}, 10000, 0}, {[][]int{{59, 60}}, 59, 1}, {[][]int{{59, 60}}, 119, 1}, {[][]int{{59, 60}}, 118, 0},
	} {
		if has, ok := impl.RowsHas(c.rows, c.n); !ok || has != c.want {
			t.Errorf("RowsHas(%v, %d) is %d %v, not %d", c.rows, c.n, has, ok, c.want)
		}
	}
}

// metByWalking returns the row of all numbers that two rows both have, and true, if there is one.
func metByWalking(a []int, b []int) ([]int, bool) {
	var met []int
	for n, count := range counted([][]int{a, b}, 8000) {
		if count == 2 && len(met) < 2 {
			met = append(met, n)
		}
	}
	if len(met) == 0 || met[0] > 59 || len(met) == 2 && met[1]-met[0] > 60 {
		return nil, false
	}
	if len(met) == 1 {
		return []int{met[0], 0}, a[1] == 0 || b[1] == 0
	}
	return []int{met[0], met[1] - met[0]}, true
}

func TestP29Meet(t *testing.T) {
	var rows [][]int
	for _, begin := range []int{0, 1, 2, 3, 5, 6, 30, 41, 58, 59} {
		for _, step := range []int{0, 1, 2, 3, 4, 6, 7, 9, 15, 20, 30, 59, 60} {
			rows = append(rows, []int{begin, step})
		}
	}
	made, failed := 0, 0
	for _, a := range rows {
		for _, b := range rows {
			want, fits := metByWalking(a, b)
			row, ok := impl.RowsMeet(a, b)
			if ok != fits || !slices.Equal(row, want) {
				t.Fatalf("RowsMeet(%v, %v) is %v %v, not %v %v", a, b, row, ok, want, fits)
			}
			if !ok {
				failed++
				continue
			}
			made++
			for n := range 200 {
				inA, _ := impl.RowsHas([][]int{a}, n)
				inB, _ := impl.RowsHas([][]int{b}, n)
				if both, ok := impl.RowsHas([][]int{row}, n); !ok || both != inA*inB {
					t.Fatalf("RowsMeet(%v, %v) is %v; it has %d: %v", a, b, row, n, both)
				}
			}
		}
	}
	if made < 1000 || failed < 1000 {
		t.Errorf("just %d pairs meet, and %d do not", made, failed)
	}
}

func TestP29MeetExamples(t *testing.T) {
	for _, c := range []struct{ a, b, want []int }{
		{[]int{0, 2}, []int{0, 3}, []int{0, 6}}, {[]int{1, 2}, []int{2, 3}, []int{5, 6}}, {[]int{1, 2}, []int{0, 2}, nil}, {[]int{0, 4}, []int{1, 6}, nil}, {[]int{0, 4}, []int{2, 6}, []int{8, 12}},
		{[]int{5, 0}, []int{5, 0}, []int{5, 0}}, {[]int{0, 0}, []int{0, 0}, []int{0, 0}}, {[]int{59, 0}, []int{59, 0}, []int{59, 0}}, {[]int{5, 0}, []int{6, 0}, nil}, {[]int{0, 0}, []int{59, 0}, nil},
		{[]int{5, 0}, []int{1, 2}, []int{5, 0}}, {[]int{5, 0}, []int{0, 2}, nil}, {[]int{5, 0}, []int{7, 2}, nil}, {[]int{5, 0}, []int{5, 60}, []int{5, 0}}, {[]int{59, 0}, []int{0, 1}, []int{59, 0}}, {[]int{0, 0}, []int{1, 1}, nil},
		{[]int{59, 60}, []int{59, 60}, []int{59, 60}}, {[]int{0, 1}, []int{59, 60}, []int{59, 60}}, {[]int{3, 1}, []int{1, 2}, []int{3, 2}}, {[]int{4, 1}, []int{1, 2}, []int{5, 2}}, {[]int{58, 1}, []int{1, 2}, []int{59, 2}}, {[]int{59, 1}, []int{0, 2}, nil},
		{[]int{59, 2}, []int{0, 3}, nil}, {[]int{56, 3}, []int{1, 2}, []int{59, 6}}, {[]int{57, 3}, []int{0, 2}, nil}, {[]int{57, 1}, []int{0, 3}, []int{57, 3}}, {[]int{58, 1}, []int{0, 3}, nil}, {[]int{58, 59}, []int{0, 1}, []int{58, 59}},
		{[]int{0, 12}, []int{0, 5}, []int{0, 60}}, {[]int{0, 20}, []int{0, 30}, []int{0, 60}}, {[]int{11, 12}, []int{4, 5}, []int{59, 60}}, {[]int{0, 7}, []int{0, 9}, nil}, {[]int{0, 31}, []int{0, 2}, nil}, {[]int{0, 60}, []int{0, 59}, nil}, {[]int{0, 60}, []int{0, 7}, nil}, {[]int{0, 29}, []int{1, 2}, []int{29, 58}},
	} {
		for _, pair := range [][2][]int{{c.a, c.b}, {c.b, c.a}} {
			if row, ok := impl.RowsMeet(pair[0], pair[1]); ok != (c.want != nil) || !slices.Equal(row, c.want) {
				t.Errorf("RowsMeet(%v, %v) is %v %v, not %v", pair[0], pair[1], row, ok, c.want)
			}
		}
	}
	for _, none := range noRows() {
		for _, other := range [][]int{{0, 1}, {5, 0}, {0, 0}, none, nil} {
			for _, pair := range [][2][]int{{none, other}, {other, none}} {
				if row, ok := impl.RowsMeet(pair[0], pair[1]); ok || len(row) > 0 {
					t.Errorf("RowsMeet(%v, %v) is %v %v", pair[0], pair[1], row, ok)
				}
			}
		}
	}
}

// splitRows returns rows that have each number from some number on just once: one row is split again and again into rows of greater steps.
func splitRows(seed int, most int) [][]int {
	out := [][]int{{0, 1}}
	numbers := mixedNumbers(seed, 300, 1000)
	for i := 0; i+2 < len(numbers); i += 3 {
		at, pieces := numbers[i]%len(out), []int{2, 2, 3, 3, 5, 7}[numbers[i+1]%6]
		row := out[at]
		if row[1]*pieces > 60 || len(out)+pieces-1 > most {
			continue
		}
		out = slices.Delete(out, at, at+1)
		for k := range pieces {
			out = append(out, []int{row[0] + k*row[1], row[1] * pieces})
		}
	}
	// Beginnings that are later leave a few numbers at the beginning.
	for i, row := range out {
		if later := row[0] + numbers[i]%3*row[1]; later <= 59 {
			row[0] = later
		}
	}
	return out
}

// nearCovers are rows that have all numbers once, rows that have all but some numbers of them twice or not at all, and rows of the step 0 besides.
func nearCovers() [][][]int {
	var out [][][]int
	for seed := range 300 {
		rows := splitRows(seed, 2+seed%19)
		i := mixedNumbers(seed, 1, 1000)[0] % len(rows)
		row := rows[i]
		others := slices.Delete(slices.Clone(rows), i, i+1)
		out = append(out, rows, others, append(slices.Clone(others), []int{row[0], 0}), append(slices.Clone(others), []int{(row[0] + 1) % 60, row[1]}), append(slices.Clone(others), []int{row[0], min(2*row[1], 60)}))
		if len(rows) < 20 {
			out = append(out, append(slices.Clone(rows), row), append(slices.Clone(rows), []int{row[0], 0}), append(slices.Clone(rows), []int{59, 60}))
		}
		if len(rows) < 19 {
			out = append(out, append(slices.Clone(rows), []int{7, 0}, []int{7, 0}), append(slices.Clone(others), []int{row[0], 17}, []int{4, 19}))
		}
	}
	return out
}

// roundOf returns rows of one step, one for each beginning less than it.
func roundOf(step int) [][]int {
	var out [][]int
	for i := range step {
		out = append(out, []int{i, step})
	}
	return out
}

// checkLists checks whether something holds of lists of rows.
func checkLists(t *testing.T, name string, holds func(rows [][]int) bool, want bool, lists [][][]int) {
	t.Helper()
	for _, rows := range lists {
		if holds(rows) != want {
			t.Errorf("%s(%v) is %v", name, rows, !want)
		}
	}
}

// coverLists are all lists of rows that the tests about covers use.
func coverLists() [][][]int {
	return append(ordinaryRows(), nearCovers()...)
}

// coveredOf reports whether rows cover, and whether they do so once.
func coveredOf(rows [][]int) (bool, bool) {
	// Two rows that meet at all do so within 60 times 60 numbers.
	late := counted(rows, max(4000, enoughFor(rows)))[60:]
	return slices.Min(late) > 0, slices.Min(late) == 1 && slices.Max(late) == 1
}

func TestP30Cover(t *testing.T) {
	covered, open := 0, 0
	for _, rows := range coverLists() {
		want, _ := coveredOf(rows)
		if impl.RowsCover(rows) != want {
			t.Fatalf("RowsCover(%v) is %v", rows, !want)
		}
		if want {
			covered++
		} else {
			open++
		}
		text, ok := impl.RowsSet(rows)
		if other, _ := impl.MakeOther(text); ok && impl.SetEnds(other) != want {
			t.Fatalf("RowsCover(%v) is %v, RowsSet is %q", rows, want, text)
		}
		if !ok && want {
			t.Fatalf("RowsCover(%v) holds, RowsSet fails", rows)
		}
	}
	if covered < 500 || open < 500 {
		t.Errorf("just %d lists cover, and %d do not", covered, open)
	}
	checkLists(t, "RowsCover", impl.RowsCover, false, noRowLists())
}

func TestP30CoverExamples(t *testing.T) {
	checkLists(t, "RowsCover", impl.RowsCover, true, [][][]int{
		{{0, 1}}, {{59, 1}}, {{3, 1}, {0, 0}}, {{0, 2}, {1, 2}}, {{58, 2}, {59, 2}}, {{0, 2}, {1, 4}, {3, 4}}, {{0, 2}, {59, 4}, {57, 4}}, {{0, 2}, {0, 3}, {1, 4}, {5, 6}, {7, 12}}, {{0, 2}, {59, 2}, {5, 7}},
		roundOf(20), roundOf(19), append(roundOf(17), []int{5, 59}, []int{0, 0}), append(roundOf(11)[1:], []int{0, 22}, []int{11, 22}, []int{3, 4}), append(roundOf(13)[1:], []int{0, 26}, []int{13, 52}, []int{39, 52}),
		repeatRow([]int{0, 1}, 20), append(lateGap(), []int{31, 32}), append(primeRows(), []int{9, 1}), append(primeRows(), []int{1, 2}), append(primeRows(), []int{0, 6}, []int{2, 3}, []int{3, 6}),
	})
	checkLists(t, "RowsCover", impl.RowsCover, false, [][][]int{
		nil, {}, {{0, 0}}, {{0, 0}, {0, 0}}, repeatRow([]int{5, 0}, 20), {{0, 2}}, {{0, 2}, {0, 2}}, {{0, 2}, {1, 0}}, {{0, 2}, {1, 4}}, {{0, 2}, {0, 3}, {1, 4}, {5, 6}, {7, 13}}, {{0, 60}}, repeatRow([]int{59, 60}, 20),
		roundOf(20)[1:], roundOf(19)[:18], append(roundOf(19)[1:], []int{0, 38}), append(roundOf(11)[1:], []int{0, 22}, []int{11, 44}), append(roundOf(13)[1:], []int{0, 26}, []int{13, 52}, []int{38, 52}),
		{{0, 2}, {1, 4}, {3, 8}, {7, 16}, {15, 32}}, lateGap(), primeRows(), append(primeRows(), []int{1, 4}, []int{3, 8}), append(primeRows(), []int{0, 6}, []int{2, 3}),
	})
}

func TestP31Once(t *testing.T) {
	once, more := 0, 0
	for _, rows := range coverLists() {
		_, want := coveredOf(rows)
		if impl.RowsOnce(rows) != want {
			t.Fatalf("RowsOnce(%v) is %v", rows, !want)
		}
		if !want {
			more++
			continue
		}
		once++
		if upper, lower, ok := impl.RowsShare(rows); !impl.RowsCover(rows) || ok && (upper != 1 || lower != 1) {
			t.Fatalf("RowsOnce(%v) holds, RowsCover is %v, RowsShare %d over %d", rows, impl.RowsCover(rows), upper, lower)
		}
	}
	if once < 300 || more < 500 {
		t.Errorf("just %d lists cover once, and %d do not", once, more)
	}
	checkLists(t, "RowsOnce", impl.RowsOnce, false, noRowLists())
}

func TestP31OnceExamples(t *testing.T) {
	twenty := roundOf(20)
	checkLists(t, "RowsOnce", impl.RowsOnce, true, [][][]int{
		{{0, 1}}, {{59, 1}}, {{3, 1}, {0, 0}}, {{3, 1}, {7, 0}}, {{0, 1}, {7, 0}, {7, 0}}, {{0, 2}, {1, 2}}, {{58, 2}, {59, 2}}, {{58, 2}, {3, 2}, {58, 0}, {59, 0}}, {{0, 2}, {1, 4}, {3, 4}}, {{0, 2}, {59, 4}, {57, 4}, {0, 0}}, twenty,
		{{0, 2}, {1, 4}, {3, 8}, {7, 16}, {15, 32}, {31, 32}},
	})
	checkLists(t, "RowsOnce", impl.RowsOnce, false, [][][]int{
		nil, {}, {{0, 0}}, {{0, 1}, {0, 1}}, {{0, 1}, {59, 1}}, {{0, 1}, {59, 60}}, {{0, 2}, {1, 2}, {1, 2}}, {{0, 2}, {1, 2}, {58, 60}}, {{0, 2}, {1, 2}, {0, 59}}, {{0, 2}}, {{0, 2}, {1, 4}}, {{0, 2}, {1, 0}},
		{{0, 2}, {0, 3}, {1, 4}, {5, 6}, {7, 12}}, {{0, 2}, {0, 2}}, {{0, 3}, {1, 3}, {0, 3}}, append(slices.Clone(twenty[:19]), []int{59, 0}), append(slices.Clone(twenty[:19]), []int{18, 20}), repeatRow([]int{0, 1}, 20), repeatRow([]int{0, 20}, 20),
	})
}

// shareOf returns the sum of one over each step that is not 0, in lowest terms, and true, unless the steps come again together too late.
func shareOf(rows [][]int) (int, int, bool) {
	sum, multiple := new(big.Rat), big.NewInt(1)
	for _, row := range rows {
		if row[1] > 0 {
			step := big.NewInt(int64(row[1]))
			sum.Add(sum, new(big.Rat).SetFrac(big.NewInt(1), step))
			divisor := new(big.Int).GCD(nil, nil, multiple, step)
			multiple.Mul(multiple, step).Div(multiple, divisor)
		}
	}
	if multiple.Cmp(big.NewInt(1000000)) > 0 {
		return 0, 0, false
	}
	return int(sum.Num().Int64()), int(sum.Denom().Int64()), true
}

func TestP32Share(t *testing.T) {
	var mixed [][][]int
	for seed := range 2000 {
		var rows [][]int
		numbers := mixedNumbers(seed, 42, 61)
		for i := range numbers[41] % 21 {
			rows = append(rows, []int{numbers[2*i] % 60, numbers[2*i+1] % (61 - seed%50)})
		}
		mixed = append(mixed, rows)
	}
	told, long := 0, 0
	for _, rows := range append(coverLists(), mixed...) {
		wantUpper, wantLower, fits := shareOf(rows)
		upper, lower, ok := impl.RowsShare(rows)
		if ok != fits || upper != wantUpper || lower != wantLower {
			t.Fatalf("RowsShare(%v) is %d over %d %v, not %d over %d %v", rows, upper, lower, ok, wantUpper, wantLower, fits)
		}
		if !ok {
			long++
			continue
		}
		told++
		if lower < 1 || upper < 0 || new(big.Int).GCD(nil, nil, big.NewInt(int64(upper)), big.NewInt(int64(lower))).Int64() != 1 || impl.RowsCover(rows) && upper < lower {
			t.Fatalf("RowsShare(%v) is %d over %d", rows, upper, lower)
		}
	}
	if told < 1000 || long < 500 {
		t.Errorf("just %d lists have a share, and %d have none", told, long)
	}
	for _, rows := range noRowLists() {
		if upper, lower, ok := impl.RowsShare(rows); ok || upper != 0 || lower != 0 {
			t.Errorf("RowsShare(%v) is %d over %d %v", rows, upper, lower, ok)
		}
	}
}

func TestP32ShareExamples(t *testing.T) {
	for _, c := range []struct {
		rows         [][]int
		upper, lower int
	}{
		{nil, 0, 1}, {[][]int{}, 0, 1}, {[][]int{{5, 0}}, 0, 1}, {repeatRow([]int{59, 0}, 20), 0, 1}, {[][]int{{5, 0}, {0, 2}, {5, 0}}, 1, 2}, {[][]int{{0, 2}, {0, 2}}, 1, 1}, {[][]int{{0, 2}, {1, 4}, {3, 4}}, 1, 1},
		{[][]int{{0, 1}}, 1, 1}, {repeatRow([]int{0, 1}, 20), 20, 1}, {repeatRow([]int{0, 60}, 20), 1, 3}, {[][]int{{0, 60}}, 1, 60}, {[][]int{{0, 2}, {0, 3}, {0, 6}, {1, 6}}, 7, 6}, {[][]int{{0, 59}, {0, 60}}, 119, 3540},
		// 999999 and 1000008 are the common multiples next to 1000000 that rows can have.
		{[][]int{{0, 27}, {0, 7}, {0, 11}, {0, 13}, {0, 37}}, 374753, 999999}, {[][]int{{0, 54}, {0, 7}, {0, 11}, {0, 13}, {0, 37}}, 0, 0},
		{[][]int{{0, 8}, {0, 9}, {0, 17}, {0, 19}, {0, 43}}, 0, 0}, {[][]int{{0, 8}, {0, 9}, {0, 17}, {0, 19}, {0, 0}}, 8083, 23256}, {primeRows(), 0, 0}, {append(primeRows(), []int{0, 60}, []int{0, 32}), 0, 0},
		{[][]int{{0, 60}, {0, 59}, {0, 58}, {0, 57}}, 0, 0}, {[][]int{{0, 60}, {0, 49}, {0, 53}}, 8717, 155820},
	} {
		upper, lower, ok := impl.RowsShare(c.rows)
		if ok != (c.lower > 0) || upper != c.upper || lower != c.lower {
			t.Errorf("RowsShare(%v) is %d over %d %v, not %d over %d", c.rows, upper, lower, ok, c.upper, c.lower)
		}
	}
}

func TestP27P29NoMemoryIsShared(t *testing.T) {
	a, b := []int{5, 0}, []int{5, 0}
	row, ok := impl.RowsMeet(a, b)
	if !ok || !slices.Equal(row, []int{5, 0}) {
		t.Fatalf("RowsMeet(%v, %v) is %v %v", a, b, row, ok)
	}
	row[0] = 7
	if a[0] != 5 || b[0] != 5 {
		t.Errorf("RowsMeet shares memory with %v or %v", a, b)
	}
	rows, _ := impl.RowsOf("11(0110)")
	for i := range rows {
		rows[i] = append(rows[i], 99)
		rows[i][0] = 50 + i
	}
	if !sameRows(rows, [][]int{{50, 0, 99}, {51, 0, 99}, {52, 4, 99}, {53, 4, 99}}) {
		t.Errorf("rows of RowsOf share memory: %v", rows)
	}
	list := [][]int{{0, 2}, {1, 4}, {3, 4}, {5, 0}}
	impl.RowsSet(list)
	impl.RowsCover(list)
	impl.RowsOnce(list)
	impl.RowsShare(list)
	impl.RowsHas(list, 5)
	if !sameRows(list, [][]int{{0, 2}, {1, 4}, {3, 4}, {5, 0}}) {
		t.Errorf("a list of rows was changed: %v", list)
	}
}
