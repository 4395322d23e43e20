package tests

import (
	"math"
	"slices"
	"strings"
	"testing"

	"loop.example/oneletter/impl"
)

const (
	// machSigns are more numbers than a machine of 5 states needs for all to come again, several times.
	machSigns = 400
	// apartSigns are enough to tell what a single machine of at most 5 states takes from any set: a tidy text has at most 120 signs, and sets of as many rests and of 5 differ ahead of 125.
	apartSigns = 128
)

// stepMatrix tells for each two states whether one may get from the first one to the second one.
type stepMatrix [][]bool

// inMask reports whether a state is in a set of states.
func inMask(mask int, i int) bool {
	return mask/(1<<i)%2 == 1
}

// maskOf returns the set of all states less than size of which the function holds.
func maskOf(size int, holds func(i int) bool) int {
	mask := 0
	for i := range size {
		if holds(i) {
			mask += 1 << i
		}
	}
	return mask
}

// meet reports whether two sets of states have a state in common.
func meet(a int, b int) bool {
	return maskOf(impl.StatesMax, func(i int) bool { return inMask(a, i) && inMask(b, i) }) > 0
}

// sizeOf returns the number of states of a machine.
func sizeOf(m impl.Machine) int {
	return len(m.Steps)
}

// oneStep returns the matrix of single steps of a machine.
func oneStep(m impl.Machine) stepMatrix {
	out := make(stepMatrix, sizeOf(m))
	for i := range out {
		for k := range out {
			out[i] = append(out[i], inMask(m.Steps[i], k))
		}
	}
	return out
}

// times returns the matrix of the steps of one matrix and, behind these, of another one.
func (a stepMatrix) times(b stepMatrix) stepMatrix {
	out := make(stepMatrix, len(a))
	for i := range a {
		out[i] = make([]bool, len(a))
		for k := range a {
			for between := range a {
				out[i][k] = out[i][k] || a[i][between] && b[between][k]
			}
		}
	}
	return out
}

// atByPowers returns the set of states in which one may be after k steps, found by powers of the matrix of steps.
func atByPowers(m impl.Machine, k int) int {
	power := oneStep(m)
	states := m.Starts
	for ; k > 0; k /= 2 {
		if k%2 == 1 {
			before := states
			states = maskOf(sizeOf(m), func(to int) bool {
				for from := range m.Steps {
					if inMask(before, from) && power[from][to] {
						return true
					}
				}
				return false
			})
		}
		power = power.times(power)
	}
	return states
}

// walkedSigns writes for each number less than size whether a machine takes it, found from the end: by the states from which so many steps may lead to one of Ends.
func walkedSigns(m impl.Machine, size int) string {
	out := make([]byte, size)
	from := m.Ends
	for k := range out {
		out[k] = '0'
		for i := range m.Steps {
			if inMask(m.Starts, i) && inMask(from, i) {
				out[k] = '1'
			}
		}
		later := from
		from = maskOf(sizeOf(m), func(i int) bool {
			for to := range m.Steps {
				if inMask(m.Steps[i], to) && inMask(later, to) {
					return true
				}
			}
			return false
		})
	}
	return string(out)
}

// sameMachine reports whether two machines are the same.
func sameMachine(a impl.Machine, b impl.Machine) bool {
	return slices.Equal(a.Steps, b.Steps) && a.Starts == b.Starts && a.Ends == b.Ends
}

// isZeroMachine reports whether a machine is the zero value.
func isZeroMachine(m impl.Machine) bool {
	return len(m.Steps) == 0 && m.Starts == 0 && m.Ends == 0
}

// allMachines returns all machines of just this many states.
func allMachines(size int) []impl.Machine {
	var out []impl.Machine
	sets := 1 << size
	many := 1
	for range size + 2 {
		many *= sets
	}
	for number := range many {
		var digits []int
		for range size + 2 {
			digits = append(digits, number%sets)
			number /= sets
		}
		out = append(out, impl.Machine{Steps: digits[:size:size], Starts: digits[size], Ends: digits[size+1]})
	}
	return out
}

// mixedMachine returns a machine of this many states, another one for another seed: with any steps, few of them, or just one from each state.
func mixedMachine(seed int, size int) impl.Machine {
	numbers := mixedNumbers(seed, 2*size+4, 1<<size)
	m := impl.Machine{Starts: numbers[2*size], Ends: numbers[2*size+1]}
	for i := range size {
		step := numbers[2*i]
		switch seed % 4 {
		case 1:
			step &= numbers[2*i+1]
		case 2:
			step = 1 << (step % size)
		case 3:
			step = 1<<((i+1)%size) | step&numbers[2*i+1]&numbers[(2*i+3)%(2*size)]
		}
		m.Steps = append(m.Steps, step)
	}
	if seed%3 > 0 {
		m.Starts = 1 << (numbers[2*size+2] % size)
	}
	if seed%5 > 1 {
		m.Ends = 1 << (numbers[2*size+3] % size)
	}
	return m
}

// machineExample is the set of a machine.
type machineExample struct {
	m    impl.Machine
	want string
}

// machineExamples are machines at the ends of what they may be: without states to begin in or to end in, with states from which one may not step, of one state and of 5, and with many steps until all comes again.
func machineExamples() []machineExample {
	mach := func(starts int, ends int, steps ...int) impl.Machine {
		return impl.Machine{Steps: steps, Starts: starts, Ends: ends}
	}
	return []machineExample{
		{mach(0, 0, 0), "(0)"}, {mach(1, 0, 1), "(0)"}, {mach(0, 1, 1), "(0)"}, {mach(1, 1, 0), "1(0)"}, {mach(1, 1, 1), "(1)"}, {mach(1, 0, 0), "(0)"}, {mach(0, 1, 0), "(0)"}, {mach(0, 0, 1), "(0)"},
		{mach(1, 2, 2, 1), "(01)"}, {mach(1, 1, 2, 1), "(10)"}, {mach(3, 1, 2, 1), "(1)"}, {mach(1, 3, 2, 1), "(1)"}, {mach(3, 3, 0, 0), "1(0)"}, {mach(1, 2, 0, 3), "(0)"}, {mach(1, 2, 3, 0), "0(1)"}, {mach(2, 1, 0, 1), "01(0)"}, {mach(1, 2, 2, 2), "0(1)"}, {mach(2, 1, 3, 0), "(0)"},
		{mach(0, 31, 31, 31, 31, 31, 31), "(0)"}, {mach(31, 0, 31, 31, 31, 31, 31), "(0)"}, {mach(31, 31, 31, 31, 31, 31, 31), "(1)"}, {mach(31, 31, 0, 0, 0, 0, 0), "1(0)"}, {mach(15, 16, 0, 0, 0, 0, 31), "(0)"}, {mach(1, 16, 2, 4, 8, 0, 16), "(0)"},
		{mach(1, 16, 2, 4, 8, 16, 0), "00001(0)"}, {mach(1, 31, 2, 4, 8, 16, 0), "11111(0)"}, {mach(1, 9, 2, 4, 8, 16, 0), "1001(0)"}, {mach(3, 16, 2, 4, 8, 16, 0), "00011(0)"}, {mach(16, 1, 0, 1, 2, 4, 8), "00001(0)"}, {mach(1, 16, 2, 4, 8, 16, 16), "0000(1)"}, {mach(1, 15, 2, 4, 8, 16, 16), "1111(0)"},
		{mach(1, 1, 2, 4, 8, 16, 1), "(10000)"}, {mach(1, 16, 2, 4, 8, 16, 1), "(00001)"}, {mach(1, 18, 2, 4, 8, 16, 2), "0(1001)"}, {mach(1, 16, 2, 4, 8, 16, 4), "00(001)"}, {mach(1, 16, 2, 4, 8, 16, 8), "000(01)"},
		// Rings of 2 and 3 states side by side make sets of 6 that come again.
		{mach(5, 5, 2, 1, 8, 16, 4), "(101110)"}, {mach(5, 26, 2, 1, 8, 16, 4), "(011111)"}, {mach(5, 18, 2, 1, 8, 16, 4), "(011101)"},
		// Rings of 4 and 5 states that share their states: 0, and sums of 5 and any of 4 and 5, of which 16 is the greatest one that is none.
		{mach(1, 1, 2, 4, 8, 16, 3), "10000100011001110(1)"}, {mach(2, 2, 2, 4, 8, 16, 3), "100011001110(1)"}, {mach(1, 1, 24, 1, 2, 4, 8), "100011001110(1)"},
	}
}

// machines returns machines of all kinds.
func machines() []impl.Machine {
	out := append(allMachines(1), allMachines(2)...)
	for i, m := range allMachines(3) {
		if i%101 == 0 {
			out = append(out, m)
		}
	}
	for size := 3; size <= impl.StatesMax; size++ {
		for seed := range 240 {
			out = append(out, mixedMachine(seed, size))
		}
	}
	for _, c := range machineExamples() {
		out = append(out, c.m)
	}
	return out
}

// noMachines are no machines: of no states and of too many, and with sets that name a state that is none.
func noMachines() []impl.Machine {
	ones := func(size int) []int { return slices.Repeat([]int{1}, size) }
	out := []impl.Machine{
		{}, {Steps: []int{}}, {Starts: 1, Ends: 1}, {Steps: []int{}, Starts: 1, Ends: 1}, {Starts: -1, Ends: -1},
		{Steps: ones(6), Starts: 1, Ends: 1}, {Steps: make([]int, 6)}, {Steps: ones(7), Starts: 1, Ends: 1}, {Steps: ones(32), Starts: 1, Ends: 1}, {Steps: ones(64), Starts: 1, Ends: 1}, {Steps: ones(65), Starts: 1, Ends: 1}, {Steps: ones(10000), Starts: 1, Ends: 1},
	}
	for size := 1; size <= impl.StatesMax; size++ {
		for _, bad := range []int{1 << size, 1<<size + 1, 1<<(size+1) - 1, 64, 1 << 31, 1 << 32, math.MaxInt, -1, -2, -32, math.MinInt, math.MinInt + 1} {
			out = append(out, impl.Machine{Steps: ones(size), Starts: bad, Ends: 1}, impl.Machine{Steps: ones(size), Starts: 1, Ends: bad})
			for i := range size {
				steps := ones(size)
				steps[i] = bad
				out = append(out, impl.Machine{Steps: steps, Starts: 1, Ends: 1})
			}
		}
	}
	return out
}

// walkNumbers are numbers of steps: all small ones, and some up to the greatest one.
func walkNumbers() []int {
	out := []int{}
	for k := range 24 {
		out = append(out, k)
	}
	return append(out, 30, 31, 32, 33, 63, 64, 149, 150, 1000, 65535, 65536, 999990, 999995, 999996, 999997, 999998, 999999, 1000000)
}

// noWalkNumbers are numbers of steps that are not asked about.
func noWalkNumbers() []int {
	return []int{-1, -2, -6, -1000000, 1000001, 1000002, 1000006, 2000000, 1 << 32, math.MaxInt, math.MaxInt - 1, math.MinInt, math.MinInt + 1}
}

func TestP51In(t *testing.T) {
	for _, m := range machines() {
		if at, ok := impl.MachAt(m, 0); !impl.MachIn(m) || !ok || at != m.Starts {
			t.Fatalf("MachIn(%v) does not hold, or MachAt of 0 is %d %v", m, at, ok)
		}
	}
	for _, m := range noMachines() {
		if at, ok := impl.MachAt(m, 0); impl.MachIn(m) || ok || at != 0 {
			t.Errorf("MachIn(%v) holds, or MachAt of 0 is %d %v", m, at, ok)
		}
	}
}

func TestP51InOfAnySets(t *testing.T) {
	for size := range 8 {
		for step := -2; step < 260; step++ {
			want := size >= 1 && size <= 5 && step >= 0 && step < 1<<size
			for i := range size + 2 {
				sets := make([]int, size+2)
				sets[i] = step
				m := impl.Machine{Steps: sets[:size], Starts: sets[size], Ends: sets[size+1]}
				_, ok := impl.MachAt(m, 0)
				if impl.MachIn(m) != want || ok != want {
					t.Fatalf("MachIn(%v) is not %v, or MachAt of 0 is %v", m, want, ok)
				}
			}
		}
	}
}

func TestP52Takes(t *testing.T) {
	for _, m := range machines() {
		signs := walkedSigns(m, machSigns)
		for k := range machSigns {
			if impl.MachTakes(m, k) != (signs[k] == '1') {
				t.Fatalf("MachTakes(%v, %d) is not %q", m, k, signs[k])
			}
		}
		for _, k := range walkNumbers() {
			at, ok := impl.MachAt(m, k)
			if takes := impl.MachTakes(m, k); !ok || takes != meet(at, m.Ends) || takes != meet(atByPowers(m, k), m.Ends) {
				t.Fatalf("MachTakes(%v, %d) is %v, but MachAt is %d %v", m, k, takes, at, ok)
			}
		}
	}
}

func TestP52TakesExamples(t *testing.T) {
	rings := impl.Machine{Steps: []int{2, 1, 8, 16, 4}, Starts: 5, Ends: 5}
	shared := impl.Machine{Steps: []int{2, 4, 8, 16, 3}, Starts: 1, Ends: 1}
	for _, c := range []struct {
		m    impl.Machine
		k    int
		want bool
	}{
		{impl.Machine{Steps: []int{2, 1}, Starts: 1, Ends: 2}, 7, true}, {impl.Machine{Steps: []int{2, 1}, Starts: 1, Ends: 2}, 1000000, false}, {impl.Machine{Steps: []int{2, 1}, Starts: 1, Ends: 2}, 999999, true},
		{rings, 0, true}, {rings, 1, false}, {rings, 5, false}, {rings, 999999, true}, {rings, 1000000, true}, {rings, 999995, false}, {shared, 15, true}, {shared, 16, false}, {shared, 17, true}, {shared, 1000000, true},
		{impl.Machine{Steps: []int{1}, Starts: 1, Ends: 1}, 1000000, true}, {impl.Machine{Steps: []int{0}, Starts: 1, Ends: 1}, 0, true}, {impl.Machine{Steps: []int{0}, Starts: 1, Ends: 1}, 1, false}, {impl.Machine{Steps: []int{0}, Starts: 1, Ends: 1}, 1000000, false},
		{impl.Machine{Steps: []int{1}, Starts: 1, Ends: 0}, 0, false}, {impl.Machine{Steps: []int{1}, Starts: 0, Ends: 1}, 0, false}, {impl.Machine{Steps: []int{1}, Starts: 1, Ends: 0}, 1000000, false},
	} {
		if impl.MachTakes(c.m, c.k) != c.want {
			t.Errorf("MachTakes(%v, %d) is not %v", c.m, c.k, c.want)
		}
	}
	for _, m := range machines() {
		for _, k := range noWalkNumbers() {
			if impl.MachTakes(m, k) {
				t.Fatalf("MachTakes(%v, %d) holds", m, k)
			}
		}
	}
	for _, m := range noMachines() {
		for _, k := range []int{-1, 0, 1, 2, 1000000, 1000001} {
			if impl.MachTakes(m, k) {
				t.Errorf("MachTakes(%v, %d) holds", m, k)
			}
		}
	}
}

func TestP53At(t *testing.T) {
	for _, m := range machines() {
		if at, ok := impl.MachAt(m, 0); !ok || at != m.Starts {
			t.Fatalf("MachAt(%v, 0) is %d %v", m, at, ok)
		}
		for _, k := range walkNumbers() {
			at, ok := impl.MachAt(m, k)
			if !ok || at != atByPowers(m, k) {
				t.Fatalf("MachAt(%v, %d) is %d %v, not %d", m, k, at, ok, atByPowers(m, k))
			}
			if k == 1000000 {
				continue
			}
			want := maskOf(sizeOf(m), func(to int) bool {
				return slices.ContainsFunc([]int{0, 1, 2, 3, 4}[:sizeOf(m)], func(from int) bool { return inMask(at, from) && inMask(m.Steps[from], to) })
			})
			if next, ok := impl.MachAt(m, k+1); !ok || next != want {
				t.Fatalf("MachAt(%v, %d) is %d, but of one step more %d %v", m, k, at, next, ok)
			}
		}
	}
}

func TestP53AtExamples(t *testing.T) {
	rings := impl.Machine{Steps: []int{2, 1, 8, 16, 4}, Starts: 5, Ends: 5}
	for k, want := range map[int]int{0: 5, 1: 10, 2: 17, 3: 6, 4: 9, 5: 18, 6: 5, 7: 10, 999999: 6, 1000000: 9} {
		if at, ok := impl.MachAt(rings, k); !ok || at != want {
			t.Errorf("MachAt(%v, %d) is %d %v, not %d", rings, k, at, ok, want)
		}
	}
	line := impl.Machine{Steps: []int{2, 4, 8, 16, 0}, Starts: 3}
	for k, want := range map[int]int{0: 3, 1: 6, 3: 24, 4: 16, 5: 0, 6: 0, 1000000: 0} {
		if at, ok := impl.MachAt(line, k); !ok || at != want {
			t.Errorf("MachAt(%v, %d) is %d %v, not %d", line, k, at, ok, want)
		}
	}
	for _, m := range machines() {
		for _, k := range noWalkNumbers() {
			if at, ok := impl.MachAt(m, k); ok || at != 0 {
				t.Fatalf("MachAt(%v, %d) is %d %v", m, k, at, ok)
			}
		}
	}
	for _, m := range noMachines() {
		for _, k := range []int{-1, 0, 1, 2, 1000000, 1000001} {
			if at, ok := impl.MachAt(m, k); ok || at != 0 {
				t.Errorf("MachAt(%v, %d) is %d %v", m, k, at, ok)
			}
		}
	}
}

func TestP54Set(t *testing.T) {
	for _, m := range machines() {
		signs := walkedSigns(m, machSigns)
		want, _ := tidyOfSigns(signs)
		text, ok := impl.MachSet(m)
		if !ok || text != want {
			t.Fatalf("MachSet(%v) is %q %v, not %q", m, text, ok, want)
		}
		for n := range 151 {
			if impl.SetHas(text, n) != impl.MachTakes(m, n) {
				t.Fatalf("MachSet(%v) is %q, of which MachTakes of %d tells another", m, text, n)
			}
		}
	}
}

func TestP54SetExamples(t *testing.T) {
	for _, c := range machineExamples() {
		if text, ok := impl.MachSet(c.m); !ok || text != c.want {
			t.Errorf("MachSet(%v) is %q %v, not %q", c.m, text, ok, c.want)
		}
	}
	for _, m := range noMachines() {
		if text, ok := impl.MachSet(m); ok || text != "" {
			t.Errorf("MachSet(%v) is %q %v", m, text, ok)
		}
	}
}

func TestP55Turn(t *testing.T) {
	for _, m := range machines() {
		turned, ok := impl.MachTurn(m)
		want := impl.Machine{Starts: m.Ends, Ends: m.Starts}
		for k := range m.Steps {
			want.Steps = append(want.Steps, maskOf(sizeOf(m), func(i int) bool { return inMask(m.Steps[i], k) }))
		}
		if !ok || !sameMachine(turned, want) {
			t.Fatalf("MachTurn(%v) is %v %v, not %v", m, turned, ok, want)
		}
		text, _ := impl.MachSet(m)
		if other, ok := impl.MachSet(turned); !ok || other != text {
			t.Fatalf("MachSet(%v) is %q, but turned %q %v", m, text, other, ok)
		}
		if back, ok := impl.MachTurn(turned); !ok || !sameMachine(back, m) {
			t.Fatalf("%v turned twice is %v %v", m, back, ok)
		}
	}
}

func TestP55TurnExamples(t *testing.T) {
	for _, c := range []struct{ m, want impl.Machine }{
		{impl.Machine{Steps: []int{0}, Starts: 1}, impl.Machine{Steps: []int{0}, Ends: 1}},
		{impl.Machine{Steps: []int{1}, Ends: 1}, impl.Machine{Steps: []int{1}, Starts: 1}},
		{impl.Machine{Steps: []int{2, 0}, Starts: 1, Ends: 2}, impl.Machine{Steps: []int{0, 1}, Starts: 2, Ends: 1}},
		{impl.Machine{Steps: []int{6, 4, 4}, Starts: 3, Ends: 4}, impl.Machine{Steps: []int{0, 1, 7}, Starts: 4, Ends: 3}},
		{impl.Machine{Steps: []int{31, 0, 0, 0, 0}, Starts: 1, Ends: 16}, impl.Machine{Steps: []int{1, 1, 1, 1, 1}, Starts: 16, Ends: 1}},
	} {
		if turned, ok := impl.MachTurn(c.m); !ok || !sameMachine(turned, c.want) {
			t.Errorf("MachTurn(%v) is %v %v, not %v", c.m, turned, ok, c.want)
		}
	}
	for _, m := range noMachines() {
		if turned, ok := impl.MachTurn(m); ok || !isZeroMachine(turned) {
			t.Errorf("MachTurn(%v) is %v %v", m, turned, ok)
		}
	}
}

// hasOne reports whether just one state is in a set of states.
func hasOne(mask int) bool {
	return slices.Contains([]int{1, 2, 4, 8, 16}, mask)
}

func TestP56Single(t *testing.T) {
	single := 0
	for _, m := range machines() {
		want := hasOne(m.Starts) && !slices.ContainsFunc(m.Steps, func(set int) bool { return !hasOne(set) })
		if impl.MachSingle(m) != want {
			t.Fatalf("MachSingle(%v) is not %v", m, want)
		}
		if !want {
			continue
		}
		single++
		for _, k := range walkNumbers() {
			if at, ok := impl.MachAt(m, k); !ok || !hasOne(at) {
				t.Fatalf("MachSingle(%v) holds, but MachAt of %d is %d %v", m, k, at, ok)
			}
		}
	}
	if single < 80 {
		t.Errorf("just %d were single", single)
	}
}

func TestP56SingleExamples(t *testing.T) {
	for _, c := range []struct {
		starts int
		steps  []int
		want   bool
	}{
		{1, []int{1}, true}, {0, []int{1}, false}, {1, []int{0}, false}, {0, []int{0}, false},
		{1, []int{2, 1}, true}, {2, []int{1, 1}, true}, {3, []int{2, 1}, false}, {0, []int{2, 1}, false}, {1, []int{3, 1}, false}, {1, []int{2, 0}, false}, {1, []int{0, 1}, false},
		// From a state to which no step leads there must be just one step as well.
		{1, []int{1, 3}, false}, {1, []int{1, 0}, false}, {1, []int{1, 2}, true}, {2, []int{0, 2}, false},
		{16, []int{2, 4, 8, 16, 1}, true}, {24, []int{2, 4, 8, 16, 1}, false}, {16, []int{2, 4, 8, 16, 17}, false}, {16, []int{2, 4, 8, 16, 0}, false}, {31, []int{31, 31, 31, 31, 31}, false},
	} {
		for ends := range 1 << len(c.steps) {
			m := impl.Machine{Steps: c.steps, Starts: c.starts, Ends: ends}
			if impl.MachSingle(m) != c.want {
				t.Errorf("MachSingle(%v) is not %v", m, c.want)
			}
		}
	}
	for _, m := range noMachines() {
		if impl.MachSingle(m) {
			t.Errorf("MachSingle(%v) holds", m)
		}
	}
}

// fewestStates tells, for the first signs of what a single machine of at most 5 states takes, the least number of states of one.
func fewestStates() map[string]int {
	fewest := map[string]int{}
	for size := 1; size <= 5; size++ {
		many := 1
		for range size {
			many *= size
		}
		for number := range many {
			var next []int
			for range size {
				next = append(next, number%size)
				number /= size
			}
			// It may as well begin in the state 0.
			var walk []int
			for at := 0; len(walk) < apartSigns; at = next[at] {
				walk = append(walk, at)
			}
			for ends := range 1 << size {
				signs := make([]byte, len(walk))
				for k, at := range walk {
					signs[k] = '0' + byte(ends>>at&1)
				}
				if _, known := fewest[string(signs)]; !known {
					fewest[string(signs)] = size
				}
			}
		}
	}
	return fewest
}

// machineOfTidy returns the machine that the document tells of a tidy text, which has at most 5 signs.
func machineOfTidy(tidy string) impl.Machine {
	tail := strings.Index(tidy, "(")
	m := impl.Machine{Starts: 1}
	signs := strings.NewReplacer("(", "", ")", "").Replace(tidy)
	for i, sign := range signs {
		to := i + 1
		if to == len(signs) {
			to = tail
		}
		m.Steps = append(m.Steps, 1<<to)
		if sign == '1' {
			m.Ends += 1 << i
		}
	}
	return m
}

func TestP57Of(t *testing.T) {
	fewest := fewestStates()
	made, failed := 0, 0
	for _, s := range slices.Concat(smallTexts(5, 6), longTexts(), edgeTexts()) {
		tidy, _ := impl.SetTidy(s)
		m, ok := impl.MachOf(s)
		if len(tidy) > 7 {
			failed++
			if ok || !isZeroMachine(m) || fewest[signsOf(tidy)[:apartSigns]] != 0 {
				t.Fatalf("MachOf(%q) is %v %v", s, m, ok)
			}
			continue
		}
		made++
		if !ok || !sameMachine(m, machineOfTidy(tidy)) {
			t.Fatalf("MachOf(%q) is %v %v, not %v", s, m, ok, machineOfTidy(tidy))
		}
		if text, ok := impl.MachSet(m); !impl.MachSingle(m) || !ok || text != tidy {
			t.Fatalf("MachOf(%q) is %v, which is not single, or whose set is %q %v", s, m, text, ok)
		}
		if few := fewest[signsOf(tidy)[:apartSigns]]; few != len(m.Steps) {
			t.Fatalf("MachOf(%q) is %v, but %d states are enough", s, m, few)
		}
	}
	if made < 500 || failed < 500 {
		t.Errorf("just %d were made, and %d were not", made, failed)
	}
}

func TestP57OfExamples(t *testing.T) {
	for _, c := range []struct {
		s    string
		want impl.Machine
	}{
		{"(0)", impl.Machine{Steps: []int{1}, Starts: 1}}, {"000(00)", impl.Machine{Steps: []int{1}, Starts: 1}}, {zeros60 + "(" + zeros60 + ")", impl.Machine{Steps: []int{1}, Starts: 1}}, {"(1)", impl.Machine{Steps: []int{1}, Starts: 1, Ends: 1}}, {ones60 + "(" + ones60 + ")", impl.Machine{Steps: []int{1}, Starts: 1, Ends: 1}},
		{"1(0)", impl.Machine{Steps: []int{2, 2}, Starts: 1, Ends: 1}}, {"0(1)", impl.Machine{Steps: []int{2, 2}, Starts: 1, Ends: 2}}, {"(01)", impl.Machine{Steps: []int{2, 1}, Starts: 1, Ends: 2}}, {"010101(0101)", impl.Machine{Steps: []int{2, 1}, Starts: 1, Ends: 2}}, {"01010(10)", impl.Machine{Steps: []int{2, 1}, Starts: 1, Ends: 2}},
		{"11(0101)", impl.Machine{Steps: []int{2, 4, 2}, Starts: 1, Ends: 3}}, {"11(001)", impl.Machine{Steps: []int{2, 4, 8, 2}, Starts: 1, Ends: 3}},
		{"0001(0)", impl.Machine{Steps: []int{2, 4, 8, 16, 16}, Starts: 1, Ends: 8}}, {"000100(00)", impl.Machine{Steps: []int{2, 4, 8, 16, 16}, Starts: 1, Ends: 8}}, {"(00001)", impl.Machine{Steps: []int{2, 4, 8, 16, 1}, Starts: 1, Ends: 16}}, {"00001(0000100001)", impl.Machine{Steps: []int{2, 4, 8, 16, 1}, Starts: 1, Ends: 16}}, {"001(10)", impl.Machine{Steps: []int{2, 4, 8, 16, 8}, Starts: 1, Ends: 12}},
		// One sign more than StatesMax, or many.
		{"00001(0)", impl.Machine{}}, {"(000001)", impl.Machine{}}, {"0001(10)", impl.Machine{}}, {"000010(00)", impl.Machine{}}, {"1(10000)", impl.Machine{}}, {zeros60 + "(1)", impl.Machine{}}, {"(" + lateRing + ")", impl.Machine{}}, {ones60 + "(" + zeros60[1:] + "1)", impl.Machine{}},
	} {
		if m, ok := impl.MachOf(c.s); ok != (sizeOf(c.want) > 0) || !sameMachine(m, c.want) {
			t.Errorf("MachOf(%q) is %v %v, not %v", c.s, m, ok, c.want)
		}
	}
	for _, s := range noTexts() {
		if m, ok := impl.MachOf(s); ok || !isZeroMachine(m) {
			t.Errorf("MachOf(%q) is %v %v", s, m, ok)
		}
	}
}

// machinesOf returns machines of just this many states, not too many of them.
func machinesOf(size int) []impl.Machine {
	var out []impl.Machine
	for i, m := range machines() {
		if sizeOf(m) == size && (size == 1 || i%7 == 0) {
			out = append(out, m)
		}
	}
	return out
}

// pairOf returns the machine of pairs that the document tells of two machines.
func pairOf(a impl.Machine, b impl.Machine) impl.Machine {
	n := sizeOf(b)
	pairs := func(first int, second int) int {
		return maskOf(sizeOf(a)*n, func(pair int) bool { return inMask(first, pair/n) && inMask(second, pair%n) })
	}
	m := impl.Machine{Starts: pairs(a.Starts, b.Starts), Ends: pairs(a.Ends, b.Ends)}
	for pair := range sizeOf(a) * n {
		m.Steps = append(m.Steps, pairs(a.Steps[pair/n], b.Steps[pair%n]))
	}
	return m
}

func TestP58Both(t *testing.T) {
	for _, sizes := range [][2]int{{1, 1}, {1, 2}, {2, 1}, {1, 3}, {3, 1}, {2, 2}, {1, 4}, {4, 1}, {1, 5}, {5, 1}} {
		for _, a := range machinesOf(sizes[0]) {
			for _, b := range machinesOf(sizes[1]) {
				both, ok := impl.MachBoth(a, b)
				if !ok || !sameMachine(both, pairOf(a, b)) {
					t.Fatalf("MachBoth(%v, %v) is %v %v, not %v", a, b, both, ok, pairOf(a, b))
				}
				for _, k := range []int{0, 1, 2, 3, 4, 5, 6, 7, 11, 16, 17, 150, 999999, 1000000} {
					if impl.MachTakes(both, k) != (impl.MachTakes(a, k) && impl.MachTakes(b, k)) {
						t.Fatalf("MachBoth(%v, %v) is %v, of which MachTakes of %d tells another", a, b, both, k)
					}
				}
			}
		}
	}
}

func TestP58BothExamples(t *testing.T) {
	even, odd := impl.Machine{Steps: []int{2, 1}, Starts: 1, Ends: 1}, impl.Machine{Steps: []int{2, 1}, Starts: 1, Ends: 2}
	all, none := impl.Machine{Steps: []int{1}, Starts: 1, Ends: 1}, impl.Machine{Steps: []int{0}, Starts: 1, Ends: 1}
	five := impl.Machine{Steps: []int{2, 4, 8, 16, 3}, Starts: 9, Ends: 17}
	for _, c := range []struct{ a, b, want impl.Machine }{
		{even, odd, impl.Machine{Steps: []int{8, 4, 2, 1}, Starts: 1, Ends: 2}}, {odd, even, impl.Machine{Steps: []int{8, 4, 2, 1}, Starts: 1, Ends: 4}}, {even, impl.Machine{Steps: []int{3, 0}, Starts: 3, Ends: 2}, impl.Machine{Steps: []int{12, 0, 3, 0}, Starts: 3, Ends: 2}},
		{all, all, all}, {all, none, none}, {none, all, none}, {all, even, even}, {even, all, even}, {all, five, five}, {five, all, five},
		{none, five, impl.Machine{Steps: []int{0, 0, 0, 0, 0}, Starts: 9, Ends: 17}}, {five, impl.Machine{Steps: []int{1}, Ends: 1}, impl.Machine{Steps: five.Steps, Ends: 17}},
	} {
		if both, ok := impl.MachBoth(c.a, c.b); !ok || !sameMachine(both, c.want) {
			t.Errorf("MachBoth(%v, %v) is %v %v, not %v", c.a, c.b, both, ok, c.want)
		}
	}
}

func TestP58BothFails(t *testing.T) {
	fails := func(a impl.Machine, b impl.Machine) {
		if both, ok := impl.MachBoth(a, b); ok || !isZeroMachine(both) {
			t.Errorf("MachBoth(%v, %v) is %v %v", a, b, both, ok)
		}
	}
	for _, sizes := range [][2]int{{2, 3}, {3, 2}, {2, 4}, {4, 2}, {3, 3}, {2, 5}, {5, 2}, {4, 4}, {5, 5}} {
		for seed := range 4 {
			fails(mixedMachine(seed, sizes[0]), mixedMachine(seed+1, sizes[1]))
		}
	}
	for _, m := range noMachines() {
		for _, o := range []impl.Machine{{Steps: []int{1}, Starts: 1, Ends: 1}, {Steps: []int{0}}, {Steps: []int{2, 4, 8, 16, 1}, Starts: 1, Ends: 1}, m, {}} {
			fails(m, o)
			fails(o, m)
		}
	}
}

func TestP59Few(t *testing.T) {
	fewest := fewestStates()
	within, more := 0, 0
	for _, m := range machines() {
		signs := walkedSigns(m, machSigns)
		rests := map[string]bool{}
		for k := range 100 {
			rests[signs[k:k+200]] = true
		}
		few, ok := impl.MachFew(m)
		if !ok || few != len(rests) {
			t.Fatalf("MachFew(%v) is %d %v, not %d", m, few, ok, len(rests))
		}
		if known := fewest[signs[:apartSigns]]; known != 0 && known != few || known == 0 && few <= impl.StatesMax {
			t.Fatalf("MachFew(%v) is %d, but %d states are enough", m, few, known)
		}
		text, _ := impl.MachSet(m)
		if many, ok := impl.RestMany(text); !ok || many != few {
			t.Fatalf("MachFew(%v) is %d, but RestMany(%q) is %d %v", m, few, text, many, ok)
		}
		if few > impl.StatesMax {
			more++
		} else {
			within++
		}
	}
	if within < 500 || more < 20 {
		t.Errorf("just %d had few states, and %d had more", within, more)
	}
}

func TestP59FewExamples(t *testing.T) {
	for _, c := range []struct {
		m    impl.Machine
		want int
	}{
		{impl.Machine{Steps: []int{0}}, 1}, {impl.Machine{Steps: []int{1}, Starts: 1, Ends: 1}, 1}, {impl.Machine{Steps: []int{0}, Starts: 1, Ends: 1}, 2}, {impl.Machine{Steps: []int{31, 31, 31, 31, 31}, Starts: 31, Ends: 31}, 1}, {impl.Machine{Steps: []int{2, 4, 8, 16, 1}, Starts: 31, Ends: 3}, 1},
		{impl.Machine{Steps: []int{2, 4, 8, 16, 1}, Starts: 1, Ends: 1}, 5}, {impl.Machine{Steps: []int{2, 4, 8, 1}, Starts: 1, Ends: 5}, 2}, {impl.Machine{Steps: []int{2, 4, 8, 16, 16}, Starts: 1, Ends: 8}, 5},
		// More than StatesMax: a line that just ends, two rings side by side, and two that share their states.
		{impl.Machine{Steps: []int{2, 4, 8, 16, 0}, Starts: 1, Ends: 16}, 6}, {impl.Machine{Steps: []int{2, 1, 8, 16, 4}, Starts: 5, Ends: 5}, 6}, {impl.Machine{Steps: []int{2, 4, 8, 16, 3}, Starts: 2, Ends: 2}, 13}, {impl.Machine{Steps: []int{2, 4, 8, 16, 3}, Starts: 1, Ends: 1}, 18},
	} {
		if few, ok := impl.MachFew(c.m); !ok || few != c.want {
			t.Errorf("MachFew(%v) is %d %v, not %d", c.m, few, ok, c.want)
		}
	}
	for _, m := range noMachines() {
		if few, ok := impl.MachFew(m); ok || few != 0 {
			t.Errorf("MachFew(%v) is %d %v", m, few, ok)
		}
	}
}

func TestP60SetOfBoth(t *testing.T) {
	made := 0
	all := machines()
	for i, a := range all {
		for k := i % 3; k < len(all); k += 61 {
			both, ok := impl.MachBoth(a, all[k])
			if !ok {
				continue
			}
			first, _ := impl.MachSet(a)
			second, _ := impl.MachSet(all[k])
			want, okWant := impl.MakeBoth(first, second)
			text, okText := impl.MachSet(both)
			if okWant && (!okText || text != want) {
				t.Fatalf("MachSet of MachBoth(%v, %v) is %q %v, not %q", a, all[k], text, okText, want)
			}
			if okWant {
				made++
			}
		}
	}
	if made < 1000 {
		t.Errorf("just %d were made", made)
	}
}

func TestP53P55P57P58NoMemoryIsShared(t *testing.T) {
	room := []int{2, 1, 77, 78, 79, 80}
	m := impl.Machine{Steps: room[:2], Starts: 1, Ends: 2}
	one := impl.Machine{Steps: []int{1}, Starts: 1, Ends: 1}
	spoil := func(made impl.Machine, ok bool) {
		if !ok {
			t.Errorf("a machine is missing")
		}
		made.Steps = append(made.Steps, 99)
		for i := range made.Steps {
			made.Steps[i] = 55
		}
	}
	spoil(impl.MachTurn(m))
	spoil(impl.MachBoth(m, one))
	spoil(impl.MachBoth(one, m))
	spoil(impl.MachBoth(m, m))
	spoil(impl.MachOf("(01)"))
	impl.MachIn(m)
	impl.MachTakes(m, 1000000)
	impl.MachAt(m, 1000000)
	impl.MachSet(m)
	impl.MachSingle(m)
	impl.MachFew(m)
	if !slices.Equal(room, []int{2, 1, 77, 78, 79, 80}) || m.Starts != 1 || m.Ends != 2 || one.Steps[0] != 1 {
		t.Errorf("arguments were changed: %v %v", room, one)
	}
	if again, ok := impl.MachOf("(01)"); !ok || !sameMachine(again, impl.Machine{Steps: []int{2, 1}, Starts: 1, Ends: 2}) {
		t.Errorf("MachOf shares memory between calls: %v", again)
	}
}
