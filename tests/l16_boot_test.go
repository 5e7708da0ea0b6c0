package tests

import (
	"math"
	"slices"
	"strings"
	"testing"

	"loop.example/g00983/impl"
)

func sameBoot(a, b impl.Boot) bool {
	return slices.Equal(a.Mem, b.Mem) && a.At == b.At && sameUsed(a.Used, b.Used) && a.Left == b.Left
}

// A bootPart is the recovery, or a task and what it uses.
type bootPart struct {
	steps  []impl.Micro
	used   []int
	isTask bool
}

// partsOfText reads the steps of the recovery, and behind each slash those of a task.
func partsOfText(text string, used ...[]int) []bootPart {
	parts := []bootPart{}
	for i, steps := range strings.Split(text, "/") {
		part := bootPart{steps: microsOf(steps)}
		if i > 0 {
			part.used, part.isTask = used[i-1], true
		}
		parts = append(parts, part)
	}
	return parts
}

// wantedParts are the recovery and this many tasks, by the document read a second time.
func wantedParts(c tracedTask, tasks int, words map[int]controlParts) []bootPart {
	parts := []bootPart{{}}
	for _, w := range wantedRecovery(c.mem, words) {
		parts[0].steps = append(parts[0].steps, micro(3, w.At, w.Value))
	}
	mem, at := wantedRecovered(c.mem, words), c.at
	for range tasks {
		trace := wantedTrace(c.program, mem, c.readings, at)
		parts = append(parts, bootPart{trace.Steps, trace.Used, true})
		for _, step := range trace.Steps {
			if step.At >= 0 {
				mem[step.At] = step.Value
			}
		}
		at += len(trace.Used)
	}
	return parts
}

// A moment is what a boot has reached behind one of its steps.
type moment struct {
	spent int
	mem   []int
	at    int
	used  [][]int
}

// momentsOf performs all steps one by one, as if the power never failed; a step of 5 is a reading.
func momentsOf(c tracedTask, parts []bootPart) []moment {
	now := moment{mem: c.mem, at: c.at}
	list := []moment{now}
	for _, part := range parts {
		for i, step := range part.steps {
			now.spent += step.Cost
			if step.At >= 0 {
				now.mem = withWord(now.mem, step.At, step.Value)
			} else if step.Cost == 5 {
				now.at++
			}
			if part.isTask && i == len(part.steps)-1 {
				now.used = append(slices.Clone(now.used), part.used)
			}
			list = append(list, now)
		}
	}
	return list
}

// bootWith stops at the last moment that the energy allows.
func bootWith(list []moment, energy int) impl.Boot {
	reached := list[0]
	for _, m := range list {
		if m.spent <= energy {
			reached = m
		}
	}
	return impl.Boot{Mem: reached.mem, At: reached.at, Used: reached.used, Left: energy - reached.spent}
}

func lastOf[E any](list []E) E { return list[len(list)-1] }

func checkBoot(t *testing.T, c tracedTask, energy int, want impl.Boot) {
	t.Helper()
	got, ok := impl.BootOnce(c.program, c.mem, c.readings, c.at, energy)
	if !ok || !sameBoot(got, want) {
		t.Errorf("BootOnce(%v, %v, %v, %d, %d) = %v, %v; want %v", c.program, c.mem, c.readings, c.at, energy, got, ok, want)
	}
	if count := impl.BootTasks(got); count != len(want.Used) {
		t.Errorf("BootTasks(%v) = %d", got, count)
	}
}

func checkNeedsEnergy(t *testing.T, c tracedTask, want int) {
	t.Helper()
	if got := impl.NeedsEnergy(c.program, c.mem, c.readings, c.at); got != want {
		t.Errorf("NeedsEnergy(%v, %v, %v, %d) = %d; want %d", c.program, c.mem, c.readings, c.at, got, want)
	}
}

func checkNoBoot(t *testing.T, c tracedTask, energy int) {
	t.Helper()
	if got, ok := impl.BootOnce(c.program, c.mem, c.readings, c.at, energy); ok || !sameBoot(got, impl.Boot{}) {
		t.Errorf("BootOnce(%v, %v, %v, %d, %d) = %v, %v; want none", c.program, c.mem, c.readings, c.at, energy, got, ok)
	}
}

// checkNoBoots refuses the arguments of which there are no boots with any energy.
func checkNoBoots(t *testing.T, c tracedTask) {
	t.Helper()
	for _, energy := range []int{0, 3, 1000, 100000, -1, 100001} {
		checkNoBoot(t, c, energy)
	}
	checkNeedsEnergy(t, c, -1)
}

// checkRefused expects a refusal because of the program or the memory, whatever the other arguments are.
func checkRefused(t *testing.T, p impl.Program, mem []int) {
	t.Helper()
	checkNoBoots(t, tracedTask{p, mem, nil, 0})
	checkNoBoots(t, tracedTask{p, mem, []int{3, 4}, 500000})
	checkNoBoots(t, tracedTask{p, mem, []int{1000001}, 0})
	checkNoBoots(t, tracedTask{p, mem, []int{3}, -1})
}

// bootOf expects that there is a boot.
func bootOf(t *testing.T, c tracedTask, energy int) impl.Boot {
	t.Helper()
	b, ok := impl.BootOnce(c.program, c.mem, c.readings, c.at, energy)
	if !ok {
		t.Fatalf("BootOnce(%v, %v, %v, %d, %d) refuses", c.program, c.mem, c.readings, c.at, energy)
	}
	return b
}

// behind continues with what a boot has left.
func (c tracedTask) behind(b impl.Boot) tracedTask {
	return tracedTask{c.program, b.Mem, c.readings, b.At}
}

// costOf sums up the steps of the recovery and of the first tasks.
func costOf(parts []bootPart, tasks int) int {
	sum := 0
	for _, part := range parts[:tasks+1] {
		for _, step := range part.steps {
			sum += step.Cost
		}
	}
	return sum
}

// checkEachEnergy needs the parts of three tasks: there is more energy than two tasks need.
func checkEachEnergy(t *testing.T, c tracedTask, parts []bootPart) {
	t.Helper()
	moments := momentsOf(c, parts)
	for energy := range lastOf(moments).spent + 1 {
		checkBoot(t, c, energy, bootWith(moments, energy))
	}
	checkNeedsEnergy(t, c, costOf(parts, 1))
}

// checkSomeEnergies looks at every step-th moment, and at the ends of the recovery and of each task but the last one.
func checkSomeEnergies(t *testing.T, c tracedTask, parts []bootPart, step int) {
	t.Helper()
	moments, energies := momentsOf(c, parts), []int{0}
	for i := 0; i < len(moments)-1; i += step {
		energies = append(energies, moments[i].spent)
	}
	for tasks := range len(parts) - 1 {
		energies = append(energies, costOf(parts, tasks))
	}
	for _, energy := range energies {
		for near := max(0, energy-1); near <= energy+1; near++ {
			checkBoot(t, c, near, bootWith(moments, near))
		}
	}
	checkNeedsEnergy(t, c, costOf(parts, 1))
}

// loggedMemory has these variables, and these entries count.
func loggedMemory(vars []int, task, tail int, entries ...logEntry) []int {
	mem := withEntries(filledMemory(controlParts{task, len(entries), tail}), entries...)
	copy(mem, vars)
	return mem
}

// A case of a boot has the steps of its recovery and of three tasks, and what each of these uses.
type bootCase struct {
	text     string
	mem      []int
	readings []int
	at       int
	steps    string
	used     [3][]int
}

func (c bootCase) task(t *testing.T) tracedTask {
	t.Helper()
	return tracedTask{textProgram(t, c.text), c.mem, c.readings, c.at}
}

func bootCases() []bootCase {
	count, full := "task 1 0 0;set 1 1 -2 1", filledMemory(controlParts{0, 8, 3})
	every := "task 6 -1 10;loop 2;sense 0 1;set 1 1 -2 -1;if 6 -1 5;send 1 -1 100;end;end;send 1 -2 0;task 2 -1 -3;sense 2 0;send 3 -1 -3;set 1 2 -2 1"
	return []bootCase{
		{"task 1 0 0;sense 0 1;set 1 1 -2 1;send 1 -1 -2", cleanMemory(varsOf(), 0, 0), []int{7}, 0, "/5 0:107 2 9:1 10:0 8:8 1:1 4 25:108 1 8:128/5 0:107 2 9:1 10:1 8:136 1:2 4 26:109 1 8:256/5 0:107 2 9:1 10:2 8:264 1:3 4 27:110 1 8:384", [3][]int{{107}, {107}, {107}}},
		// Each task begins with the reading behind those of the task before.
		{"task 1 0 1;sense 0 0;sense 1 0;task 1 0 0;sense 2 1", cleanMemory(varsOf(), 0, 0), []int{10, 20, 30, 40, 50}, 3, "/5 0:40 5 1:50 1 8:1/5 2:110 1 8:0/5 0:20 5 1:30 1 8:1", [3][]int{{40, 50}, {110}, {20, 30}}},
		{"task 1 0 1;sense 0 0;sense 1 0;task 1 0 0;sense 2 1", cleanMemory(varsOf(), 1, 0), []int{10, 20, 30, 40, 50}, 3, "/5 2:140 1 8:0/5 0:50 5 1:10 1 8:1/5 2:120 1 8:0", [3][]int{{140}, {50, 10}, {120}}},
		{every, cleanMemory(varsOf(3, 7), 0, 0), []int{-96, -80}, 1, "/1 5 0:20 2 9:1 10:7 8:8 1:27 1 5 0:4 2 1:31 1 4 25:104 4 26:31 1 8:257/5 2:-80 4 27:-320 2 9:1 10:31 8:265 1:30 1 8:384/1 5 0:4 2 9:1 10:30 8:392 1:34 1 4 28:104 5 0:20 2 1:54 1 4 29:54 1 8:640", [3][]int{{20, 4}, {-80}, {4, 20}}},
		// What a condition decides is decided in each task anew.
		{"task 1 0 0;loop 2;sense 0 0;if 6 5 -1;set 1 1 -2 -1;end;end", cleanMemory(varsOf(0, 4), 0, 0), []int{3, 8, 2}, 0, "/1 5 0:3 1 5 0:8 1 2 9:1 10:4 8:8 1:12 1 8:0/1 5 0:2 1 5 0:3 1 1 8:0/1 5 0:8 1 2 9:1 10:12 8:8 1:20 5 0:2 1 1 8:0", [3][]int{{3, 8}, {2, 3}, {8, 2}}},
		// Without readings, all values are 0.
		{"task 1 0 0;sense 4 3", cleanMemory(distinctVars(), 0, 24), nil, 9, "/5 4:0 1 8:3072/5 4:0 1 8:3072/5 4:0 1 8:3072", [3][]int{{0}, {0}, {0}}},
		// Tasks without statements.
		{"task 1 0 0", cleanMemory(varsOf(), 0, 5), []int{7}, 0, "/1 8:640/1 8:640/1 8:640", [3][]int{}},
		{"task 1 0 1;task 1 0 2;task 1 0 0", cleanMemory(varsOf(), 2, 0), []int{7}, 0, "/1 8:0/1 8:1/1 8:2", [3][]int{}},
		// An outbox that becomes full.
		{"task 1 0 0;send 1 1 0;send 1 2 0", cleanMemory(varsOf(), 0, 21), nil, 0, "/4 46:1 4 47:2 1 8:2944/4 48:1 4 1 8:3072/4 4 1 8:3072", [3][]int{}},
		// The recovery comes first, and the task begins with the old values.
		{count, loggedMemory(varsOf(0, 9), 0, 2, logEntry{1, 5}), nil, 0, "1:5 8:256/2 9:1 10:5 8:264 1:6 1 8:256/2 9:1 10:6 8:264 1:7 1 8:256/2 9:1 10:7 8:264 1:8 1 8:256", [3][]int{}},
		{count, loggedMemory(varsOf(3, 9), 0, 0, logEntry{1, 5}, logEntry{0, 6}, logEntry{1, 8}), nil, 0, "1:8 0:6 1:5 8:0/2 9:1 10:5 8:8 1:6 1 8:0/2 9:1 10:6 8:8 1:7 1 8:0/2 9:1 10:7 8:8 1:8 1 8:0", [3][]int{}},
		{"task 1 0 0", full, nil, 0, "2:107 5:106 0:105 3:104 6:103 1:102 4:101 7:100 8:384/1 8:384/1 8:384/1 8:384", [3][]int{}},
		// The recovery reads nothing, although its writes come ahead of the reading.
		{"task 1 0 1;task 1 0 0;sense 3 2", loggedMemory(varsOf(), 1, 1, logEntry{2, -8}, logEntry{3, 4}), []int{1, 2, 3}, 7, "3:4 2:-8 8:129/5 3:202 1 8:128/1 8:129/5 3:203 1 8:128", [3][]int{{202}, {}, {203}}},
	}
}

func TestBootsWithEachEnergy(t *testing.T) {
	words := controlsByWord()
	for _, c := range bootCases() {
		parts := partsOfText(c.steps, c.used[:]...)
		checkEachEnergy(t, c.task(t), parts)
		model := wantedParts(c.task(t), 3, words)
		for i, part := range parts {
			if !slices.Equal(model[i].steps, part.steps) || !slices.Equal(model[i].used, part.used) {
				t.Errorf("%s: the model has %v; want %v", c.text, model[i], part)
			}
		}
	}
}

// A row tells what a boot with this energy has written, and what it returns beside the memory.
type bootRow struct {
	energy int
	writes string
	at     int
	left   int
	used   [][]int
}

func checkRows(t *testing.T, c tracedTask, rows []bootRow) {
	t.Helper()
	for _, row := range rows {
		writes := writesOfText(row.writes)
		mem := wantedApplied(c.mem, writes, len(writes))
		checkBoot(t, c, row.energy, impl.Boot{Mem: mem, At: row.at, Used: row.used, Left: row.left})
	}
}

func TestBootOnce(t *testing.T) {
	c := tracedTask{textProgram(t, "task 1 0 0;sense 0 1;set 1 1 -2 1;send 1 -1 -2"), cleanMemory(varsOf(), 0, 0), []int{7}, 0}
	first, second := "0:107 9:1 10:0 8:8 1:1 25:108 8:128", "0:107 9:1 10:0 8:8 1:1 25:108 8:128 0:107 9:1 10:1 8:136 1:2 26:109"
	checkRows(t, c, []bootRow{
		// The reading ahead of the first step, with it, and with its write.
		{0, "", 0, 0, nil}, {1, "", 0, 1, nil}, {4, "", 0, 4, nil}, {5, "", 1, 0, nil}, {7, "", 1, 2, nil}, {8, "0:107", 1, 0, nil}, {9, "0:107", 1, 1, nil}, {10, "0:107", 1, 0, nil},
		// The entry of the log counts with its third write alone.
		{12, "0:107", 1, 2, nil}, {13, "0:107 9:1", 1, 0, nil}, {16, "0:107 9:1 10:0", 1, 0, nil}, {18, "0:107 9:1 10:0", 1, 2, nil}, {19, "0:107 9:1 10:0 8:8", 1, 0, nil}, {20, "0:107 9:1 10:0 8:8", 1, 1, nil}, {22, "0:107 9:1 10:0 8:8 1:1", 1, 0, nil},
		{25, "0:107 9:1 10:0 8:8 1:1", 1, 3, nil}, {26, "0:107 9:1 10:0 8:8 1:1", 1, 0, nil},
		// The write costs more than what is left, whereas the step behind it would cost less.
		{27, "0:107 9:1 10:0 8:8 1:1", 1, 1, nil}, {28, "0:107 9:1 10:0 8:8 1:1", 1, 2, nil}, {29, "0:107 9:1 10:0 8:8 1:1 25:108", 1, 0, nil},
		// The energy ends ahead of the last step of the task, with it, and behind it.
		{30, "0:107 9:1 10:0 8:8 1:1 25:108", 1, 0, nil}, {32, "0:107 9:1 10:0 8:8 1:1 25:108", 1, 2, nil}, {33, first, 1, 0, [][]int{{107}}}, {34, first, 1, 1, [][]int{{107}}}, {37, first, 1, 4, [][]int{{107}}}, {38, first, 2, 0, [][]int{{107}}},
		// And so with the second task.
		{65, second, 2, 2, [][]int{{107}}}, {66, second + " 8:256", 2, 0, [][]int{{107}, {107}}}, {70, second + " 8:256", 2, 4, [][]int{{107}, {107}}}, {71, second + " 8:256", 3, 0, [][]int{{107}, {107}}},
	})
	checkNeedsEnergy(t, c, 33)
}

// A step that is not performed is not passed over, although the next ones cost less.
func TestNothingHappensBehindAPowerFailure(t *testing.T) {
	sends := tracedTask{textProgram(t, "task 1 0 0;send 1 5 0;if 1 1 0;end;send 1 6 0"), cleanMemory(varsOf(), 0, 23), nil, 0}
	checkRows(t, sends, []bootRow{{3, "", 0, 3, nil}, {4, "", 0, 0, nil}, {6, "", 0, 2, nil}, {7, "48:5", 0, 0, nil}, {8, "48:5", 0, 0, nil}, {11, "48:5", 0, 3, nil}, {12, "48:5", 0, 0, nil}, {15, "48:5", 0, 2, nil}, {16, "48:5 8:3072", 0, 0, [][]int{nil}}})
	senses := tracedTask{textProgram(t, "task 1 0 0;sense 0 0;sense 1 0"), cleanMemory(varsOf(), 0, 0), []int{8, 9}, 0}
	checkRows(t, senses, []bootRow{{3, "", 0, 3, nil}, {4, "", 0, 4, nil}, {7, "", 1, 2, nil}, {8, "0:8", 1, 0, nil}, {11, "0:8", 1, 3, nil}, {12, "0:8", 1, 4, nil}, {15, "0:8", 2, 2, nil}, {19, "0:8 1:9", 2, 2, nil}, {20, "0:8 1:9 8:0", 2, 0, [][]int{{8, 9}}}})
	loops := tracedTask{textProgram(t, "task 1 0 0;loop 2;set 0 1 6 0;end;if 1 0 0;end"), cleanMemory(varsOf(), 0, 0), nil, 0}
	checkRows(t, loops, []bootRow{{2, "", 0, 1, nil}, {3, "", 0, 0, nil}, {5, "", 0, 2, nil}, {6, "0:6", 0, 0, nil}, {7, "0:6", 0, 1, nil}, {10, "0:6", 0, 2, nil}, {11, "0:6 0:6", 0, 0, nil}, {12, "0:6 0:6", 0, 0, nil}, {15, "0:6 0:6", 0, 2, nil}, {16, "0:6 0:6 8:0", 0, 0, [][]int{nil}}})
}

func TestEnergyThatEndsWithTheRecovery(t *testing.T) {
	c := tracedTask{textProgram(t, "task 1 0 0;sense 0 0;set 1 1 -2 1"), loggedMemory(varsOf(0, 9, 8), 0, 2, logEntry{1, 5}, logEntry{2, 6}), []int{3}, 4}
	checkRows(t, c, []bootRow{
		{0, "", 4, 0, nil}, {1, "", 4, 1, nil}, {2, "", 4, 2, nil}, {3, "2:6", 4, 0, nil}, {4, "2:6", 4, 1, nil}, {5, "2:6", 4, 2, nil}, {6, "2:6 1:5", 4, 0, nil}, {8, "2:6 1:5", 4, 2, nil},
		{9, "2:6 1:5 8:256", 4, 0, nil}, {10, "2:6 1:5 8:256", 4, 1, nil}, {13, "2:6 1:5 8:256", 4, 4, nil}, {14, "2:6 1:5 8:256", 5, 0, nil}, {17, "2:6 1:5 8:256 0:3", 5, 0, nil},
		{34, "2:6 1:5 8:256 0:3 9:1 10:5 8:264 1:6", 5, 2, nil}, {35, "2:6 1:5 8:256 0:3 9:1 10:5 8:264 1:6 8:256", 5, 0, [][]int{{3}}},
	})
	checkNeedsEnergy(t, c, 35)
	// An empty task would cost less than a write of the recovery.
	full := tracedTask{textProgram(t, "task 1 0 0"), filledMemory(controlParts{0, 8, 3}), nil, 0}
	checkRows(t, full, []bootRow{
		{2, "", 0, 2, nil}, {24, "2:107 5:106 0:105 3:104 6:103 1:102 4:101 7:100", 0, 0, nil}, {26, "2:107 5:106 0:105 3:104 6:103 1:102 4:101 7:100", 0, 2, nil}, {27, "2:107 5:106 0:105 3:104 6:103 1:102 4:101 7:100 8:384", 0, 0, nil},
		{28, "2:107 5:106 0:105 3:104 6:103 1:102 4:101 7:100 8:384", 0, 0, nil}, {30, "2:107 5:106 0:105 3:104 6:103 1:102 4:101 7:100 8:384", 0, 2, nil}, {31, "2:107 5:106 0:105 3:104 6:103 1:102 4:101 7:100 8:384", 0, 0, [][]int{nil}},
	})
	checkNeedsEnergy(t, full, 31)
	// For each number of entries, the energy ends ahead of the last write, with it, and just behind it.
	for count := 1; count <= 8; count++ {
		c := tracedTask{programLogging(4), filledMemory(controlParts{0, count, 7}), []int{6}, 11}
		list := wantedRecovery(c.mem, controlsByWord())
		for energy := range 3*count + 5 {
			done := energy / 3
			checkBoot(t, c, energy, impl.Boot{Mem: wantedApplied(c.mem, list, done), At: 11, Left: energy - 3*min(done, count+1)})
		}
	}
}

// With no energy, nothing is done, and no reading is used up.
func TestBootsWithoutEnergy(t *testing.T) {
	for i, c := range variedTraces()[:500] {
		c.mem = filledMemory(controlParts{c.mem[8] % 8, i % 9, i % 25})
		checkBoot(t, c, 0, impl.Boot{Mem: c.mem, At: c.at})
	}
	for _, control := range allControls() {
		c := tracedTask{programLogging(1, 2, 3, 4, 5, 6), filledMemory(control), []int{4}, 500000}
		checkBoot(t, c, 0, impl.Boot{Mem: c.mem, At: 500000})
	}
}

// After ten tasks, a boot ends, whatever energy is left.
func TestBootsOfTenTasks(t *testing.T) {
	if impl.MaxCommits != 10 {
		t.Error("the constant differs from the document:", impl.MaxCommits)
	}
	ten := slices.Repeat([][]int{nil}, 10)
	empty := tracedTask{textProgram(t, "task 1 0 1;task 1 0 2;task 1 0 0"), cleanMemory(distinctVars(), 0, 3), []int{5}, 9}
	checkRows(t, empty, []bootRow{{35, "8:386", 9, 2, ten[:8]}, {36, "8:384", 9, 0, ten[:9]}, {39, "8:384", 9, 2, ten[:9]}, {40, "8:385", 9, 0, ten}, {41, "8:385", 9, 1, ten}, {43, "8:385", 9, 3, ten}, {44, "8:385", 9, 4, ten}, {80, "8:385", 9, 40, ten}, {99999, "8:385", 9, 99959, ten}, {100000, "8:385", 9, 99960, ten}})
	// What follows reads no sensor.
	used := [][]int{{1}, {2}, {3}, {1}, {2}, {3}, {1}, {2}, {3}, {1}}
	senses := tracedTask{textProgram(t, "task 1 0 0;sense 0 0"), cleanMemory(varsOf(), 0, 0), []int{1, 2, 3}, 0}
	checkRows(t, senses, []bootRow{{108, "0:3", 9, 0, used[:9]}, {112, "0:3", 9, 4, used[:9]}, {113, "0:3", 10, 0, used[:9]}, {116, "0:1", 10, 0, used[:9]}, {119, "0:1", 10, 2, used[:9]}, {120, "0:1", 10, 0, used}, {125, "0:1", 10, 5, used}, {128, "0:1", 10, 8, used}, {100000, "0:1", 10, 99880, used}})
	// The recovery is no task.
	restored := tracedTask{textProgram(t, "task 1 0 0"), loggedMemory(varsOf(), 0, 0, logEntry{3, 4}), nil, 0}
	checkRows(t, restored, []bootRow{{42, "3:4 8:0", 0, 0, ten[:9]}, {45, "3:4 8:0", 0, 2, ten[:9]}, {46, "3:4 8:0", 0, 0, ten}, {50, "3:4 8:0", 0, 4, ten}, {100000, "3:4 8:0", 0, 99954, ten}})
}

// A reading counts as soon as its step is performed: the next boot begins with the reading behind it.
func TestReadingsOfInterruptedBoots(t *testing.T) {
	c := tracedTask{textProgram(t, "task 1 0 0;sense 0 0;sense 1 0;send 1 -1 -2"), cleanMemory(varsOf(), 0, 0), []int{1, 2, 3, 4, 5, 6, 7, 8, 9}, 0}
	for _, row := range []bootRow{
		{4, "", 0, 4, nil}, {5, "", 1, 0, nil}, {12, "0:2", 2, 4, nil}, {13, "0:3", 4, 0, nil}, {7, "", 5, 2, nil}, {0, "", 5, 0, nil}, {26, "0:6 1:7 25:13", 7, 2, nil},
		{27, "0:8 1:9 25:17 8:128", 9, 0, [][]int{{8, 9}}}, {31, "0:1 1:2 26:3 8:256", 11, 4, [][]int{{1, 2}}}, {32, "0:3 1:4 27:7 8:384", 14, 0, [][]int{{3, 4}}}, {54, "0:6 1:7 28:13 0:8 1:9 29:17 8:640", 18, 0, [][]int{{6, 7}, {8, 9}}},
	} {
		checkRows(t, c, []bootRow{row})
		c = c.behind(bootOf(t, c, row.energy))
	}
	// A recovery uses up no reading, nor does a statement of another kind.
	c = tracedTask{textProgram(t, "task 1 0 0;if 1 1 0;loop 2;set 1 1 -2 1;send 1 -2 0;end;end;sense 0 0"), cleanMemory(varsOf(), 0, 0), []int{1, 2, 3}, 7}
	for _, row := range []bootRow{
		{24, "9:1 10:0 8:8 1:1 25:1", 7, 1, nil}, {28, "1:0 8:0 9:1 10:0 8:8 1:1", 7, 2, nil}, {45, "1:0 8:0 9:1 10:0 8:8 1:1 25:1 1:2 26:2", 7, 4, nil}, {46, "1:0 8:0 9:1 10:0 8:8 1:1 25:1 1:2 26:2", 8, 0, nil}, {53, "1:0 8:0 9:1 10:0 8:8 1:1 25:1 1:2 26:2 0:3 8:256", 9, 0, [][]int{{3}}},
	} {
		checkRows(t, c, []bootRow{row})
		c = c.behind(bootOf(t, c, row.energy))
	}
}

func TestBoundsOfTheFirstReadingOfABoot(t *testing.T) {
	for _, text := range []string{"task 1 0 0;sense 0 1", "task 1 0 0"} {
		c := tracedTask{textProgram(t, text), cleanMemory(varsOf(), 0, 0), []int{1, 2, 3, 4, 5}, 0}
		for _, at := range []int{-1, -2, -5, -500000, 500001, 500002, 1000000, 1000001, 1 << 32, math.MaxInt, math.MaxInt - 1, math.MinInt, math.MinInt + 1} {
			c.at = at
			checkNoBoots(t, c)
			// Also where the recovery would use up the energy, or there are no readings.
			checkNoBoots(t, tracedTask{c.program, loggedMemory(varsOf(), 0, 0, logEntry{1, 2}), nil, at})
		}
	}
	c := tracedTask{textProgram(t, "task 1 0 0;sense 0 1"), cleanMemory(varsOf(), 0, 0), []int{1, 2, 3, 4, 5}, 0}
	for _, at := range []int{0, 1, 4, 5, 9999, 499999, 500000} {
		c.at = at
		value := func(n int) []int { return []int{101 + (at+n)%5} }
		checkNeedsEnergy(t, c, 12)
		// Only the number of the first reading is bounded.
		checkBoot(t, c, 29, impl.Boot{Mem: withWord(c.mem, 0, value(1)[0]), At: at + 3, Used: [][]int{value(0), value(1)}, Left: 0})
		checkBoot(t, c, 100000, impl.Boot{Mem: withWord(c.mem, 0, value(9)[0]), At: at + 10, Used: [][]int{value(0), value(1), value(2), value(3), value(4), value(5), value(6), value(7), value(8), value(9)}, Left: 99880})
	}
}

func TestBoundsOfTheEnergy(t *testing.T) {
	used := slices.Repeat([][]int{nil}, 10)
	for _, entries := range [][]logEntry{nil, {{3, 8}}} {
		c := tracedTask{textProgram(t, "task 1 0 0"), loggedMemory(varsOf(), 0, 5, entries...), []int{1}, 7}
		cost, mem := 40+impl.RecoveryCost(len(entries)), impl.Recovered(c.mem)
		for _, energy := range []int{-1, -2, -3, -100000, 100001, 100002, 200000, 1 << 32, 1<<32 + 1, math.MaxInt, math.MaxInt - 1, math.MinInt, math.MinInt + 1} {
			checkNoBoot(t, c, energy)
		}
		checkBoot(t, c, 0, impl.Boot{Mem: c.mem, At: 7})
		checkBoot(t, c, 1, bootWith(momentsOf(c, wantedParts(c, 1, controlsByWord())), 1))
		for _, energy := range []int{cost, 1000, 99999, 100000} {
			checkBoot(t, c, energy, impl.Boot{Mem: mem, At: 7, Used: used, Left: energy - cost})
		}
	}
}

// With the greatest energy, a boot reads its sensors thousands of times, and still ends within its sixth task.
func TestTheGreatestBoots(t *testing.T) {
	body := "loop 5;loop 5;loop 5;" + strings.Repeat("sense 0 1;", 18) + "end;end;end"
	c := tracedTask{textProgram(t, "task 1 0 0;"+body), cleanMemory(varsOf(), 0, 0), []int{1, 2, 3, 4, 5}, 0}
	parts := wantedParts(c, 6, controlsByWord())
	want := bootWith(momentsOf(c, parts), 100000)
	if len(want.Used) != 5 || len(want.Used[4]) != 2250 || want.At < 5*2250+1000 {
		t.Errorf("the test expects %d tasks and the reading %d", len(want.Used), want.At)
	}
	checkBoot(t, c, 100000, want)
	checkNeedsEnergy(t, c, 18035)
	for _, tasks := range []int{1, 2, 5} {
		checkBoot(t, c, tasks*18035, bootWith(momentsOf(c, parts), tasks*18035))
		checkBoot(t, c, tasks*18035-1, bootWith(momentsOf(c, parts), tasks*18035-1))
	}
	c.at, want.At = 500000, want.At+500000
	checkBoot(t, c, 100000, want)
	checkNeedsEnergy(t, c, 18035)
}

// A reading that is no value makes the arguments invalid also where no sense uses it.
func TestBootsWithReadingsThatAreNoValues(t *testing.T) {
	words := controlsByWord()
	for _, text := range []string{"task 1 0 0", "task 1 0 0;sense 0 1", "task 1 0 0;loop 4;sense 0 3;send 1 -1 0;end", "task 1 0 0;if 1 0 0;sense 0 1;end"} {
		for _, count := range []int{0, 2} {
			c := tracedTask{textProgram(t, text), filledMemory(controlParts{0, count, 3}), nil, 3}
			for size := 1; size <= 4; size++ {
				for at := range size {
					c.readings = slices.Repeat([]int{5}, size)
					for _, wrong := range noValues() {
						c.readings[at] = wrong
						checkNoBoots(t, c)
					}
					for _, right := range []int{-1000000, -999999, 0, 999999, 1000000} {
						c.readings[at] = right
						checkSomeEnergies(t, c, wantedParts(c, 3, words), 3)
					}
				}
			}
			// What lies behind the readings is not among them.
			c.readings = []int{5, 1000001}[:1]
			checkSomeEnergies(t, c, wantedParts(c, 3, words), 1)
		}
	}
}

func TestBootsOfInvalidMemories(t *testing.T) {
	words := controlsByWord()
	p := textProgram(t, strings.Repeat("task 1 0 1;set 7 1 -8 1;send 1 -8 0;", 2)+"task 1 0 0")
	for _, count := range []int{0, 3} {
		mem := filledMemory(controlParts{2, count, 4})
		for _, other := range wrongSizes() {
			checkRefused(t, p, other)
		}
		for _, word := range append(wrongWords(), 3, 4, 5, 512+3, 512+5, 512+72) {
			checkRefused(t, p, withWord(mem, 8, word))
		}
		for _, wrong := range noValues() {
			for _, at := range []int{0, 1, 6, 7, 25, 26, 28} {
				checkRefused(t, p, withWord(mem, at, wrong))
			}
			// Behind the count and the tail, any word is allowed.
			for _, at := range []int{15, 16, 24, 29, 30, 48} {
				c := tracedTask{p, withWord(mem, at, wrong), []int{4}, 0}
				checkSomeEnergies(t, c, wantedParts(c, 3, words), 4)
			}
		}
	}
	// Entries are looked at as far as they count, also if the energy does not last for the recovery.
	for _, at := range []int{9, 11, 13} {
		mem := filledMemory(controlParts{2, 3, 4})
		for _, wrong := range append(noVariables(), farNumbers()...) {
			checkRefused(t, p, withWord(mem, at, wrong))
		}
		for _, wrong := range noValues() {
			checkRefused(t, p, withWord(mem, at+1, wrong))
		}
	}
}

func TestBootsOfEachControlWord(t *testing.T) {
	programs, words := tasksOfEachNumber(), controlsByWord()
	for i, control := range allControls() {
		c := tracedTask{programs[1+i%6], filledMemory(control), []int{6, 7, 8}, i}
		if control.task >= len(c.program.Tasks) {
			checkRefused(t, c.program, c.mem)
			continue
		}
		checkSomeEnergies(t, c, wantedParts(c, 2, words), 7)
	}
}

func TestBootsOfInvalidPrograms(t *testing.T) {
	for i, p := range invalidPrograms() {
		for _, task := range []int{0, max(0, min(len(p.Tasks), 6)-1)} {
			checkRefused(t, p, filledMemory(controlParts{task, i % 9, 3}))
		}
	}
	for _, list := range invalidBodies()[:40] {
		// The wrong task is the current one, or another one.
		p := programOfTasks(impl.Task{Body: blockOfWords("3=3"), Next: constantExpr(0)}, impl.Task{Body: list, Next: constantExpr(0)})
		checkRefused(t, p, cleanMemory(distinctVars(), 0, 3))
		checkRefused(t, p, cleanMemory(distinctVars(), 1, 3))
	}
}

func TestBootsOfEmptyTasks(t *testing.T) {
	for _, list := range [][]impl.Stmt{nil, {}, blockOfWords("3=3 !4")[:0], blockOfWords("3=3 !4")[2:]} {
		p := programOfTasks(impl.Task{Body: list, Next: constantExpr(1)}, taskOfWords("3~", ""), impl.Task{Body: list, Next: constantExpr(2)})
		for count := range 9 {
			for task := range 3 {
				c := tracedTask{p, filledMemory(controlParts{task, count, 5}), []int{6, 7}, 3}
				checkEachEnergy(t, c, wantedParts(c, 3, controlsByWord()))
			}
			checkNeedsEnergy(t, tracedTask{p, filledMemory(controlParts{2, count, 5}), nil, 0}, 4+impl.RecoveryCost(count))
		}
	}
}

func TestBootsWithoutElements(t *testing.T) {
	words := controlsByWord()
	for _, readings := range emptyLists() {
		for count := range 9 {
			c := tracedTask{programLogging(3, 5), filledMemory(controlParts{1, count, 5}), readings, count}
			checkSomeEnergies(t, c, wantedParts(c, 3, words), 3)
		}
	}
	for _, mem := range append(emptyLists(), filledMemory(controlParts{0, 2, 3})[:0]) {
		for _, p := range []impl.Program{{}, {Tasks: []impl.Task{}}, programLogging(0), programLogging(8, 8)} {
			checkRefused(t, p, mem)
		}
	}
	for _, c := range greatControls() {
		checkRefused(t, impl.Program{}, filledMemory(c))
		checkRefused(t, impl.Program{Tasks: []impl.Task{}}, filledMemory(c))
	}
	checkRefused(t, impl.Program{}, make([]int, 49))
	empty := tracedTask{programOfTasks(impl.Task{Next: constantExpr(0)}), make([]int, 49), nil, 0}
	checkEachEnergy(t, empty, wantedParts(empty, 3, words))
}

// The completed tasks are counted, whatever the rest of a boot is.
func TestBootTasks(t *testing.T) {
	for _, c := range []struct {
		boot impl.Boot
		want int
	}{
		{impl.Boot{}, 0}, {impl.Boot{Used: [][]int{}}, 0}, {impl.Boot{Used: [][]int{nil}}, 1}, {impl.Boot{Used: [][]int{{}, nil, {}}}, 3}, {impl.Boot{Used: [][]int{{1, 2, 3}}}, 1}, {impl.Boot{Used: [][]int{{1, 2}, {3}, nil, {4}}}, 4},
		{impl.Boot{Mem: make([]int, 49), At: 5, Left: 9}, 0}, {impl.Boot{Mem: []int{1, 2}, At: -3, Used: make([][]int, 10), Left: -1}, 10}, {impl.Boot{Used: make([][]int, 1000)}, 1000}, {impl.Boot{Used: [][]int{{1}, {2}, {3}}[:2]}, 2}, {impl.Boot{Used: [][]int{{math.MaxInt}, {math.MinInt}}, At: math.MinInt, Left: math.MaxInt}, 2},
	} {
		if got := impl.BootTasks(c.boot); got != c.want {
			t.Errorf("BootTasks(%v) = %d; want %d", c.boot, got, c.want)
		}
	}
}

// interruptedTraces are the tasks of variedTraces, stopped behind one of their writes, with other readings.
func interruptedTraces(t *testing.T) []tracedTask {
	t.Helper()
	list := variedTraces()
	for i, c := range list {
		writes := impl.WritesOf(c.trace(t))
		list[i].mem = impl.ApplyWrites(c.mem, writes, i*7%len(writes))
		list[i].readings, list[i].at = someReadings()[(i+4)%9], c.at+i%7
	}
	return list
}

// Tasks of every kind, with clean memories and with log entries, against the document read a second time.
func TestManyBoots(t *testing.T) {
	words, entries, every := controlsByWord(), map[int]bool{}, 0
	for i, c := range append(variedTraces(), interruptedTraces(t)...) {
		if i%4 != 0 {
			continue
		}
		parts := wantedParts(c, 3, words)
		cost := costOf(parts, 3)
		switch {
		case cost < 150:
			checkEachEnergy(t, c, parts)
			every++
		case cost < 3000:
			checkSomeEnergies(t, c, parts, 1+cost/25)
		}
		entries[c.mem[8]/8%16] = true
	}
	if len(entries) < 6 || every < 100 {
		t.Errorf("the memories of this test have %v entries; %d of them are tested with every energy", entries, every)
	}
}

// Promise 16: a boot completes a task exactly if it has the energy that is needed, and uses up just this energy for it.
func TestNeededEnergyIsNeeded(t *testing.T) {
	for _, c := range append(variedTraces(), interruptedTraces(t)...) {
		needs := impl.NeedsEnergy(c.program, c.mem, c.readings, c.at)
		exact := bootOf(t, c, needs)
		if impl.BootTasks(exact) != 1 || exact.Left != 0 || exact.At != c.at+len(exact.Used[0]) {
			t.Errorf("with the energy %d, the boot of %v in %v is %v", needs, c.program, c.mem, exact)
		}
		if less := bootOf(t, c, needs-1); impl.BootTasks(less) != 0 || less.At != exact.At {
			t.Errorf("with the energy %d, the boot of %v in %v is %v", needs-1, c.program, c.mem, less)
		}
		for _, energy := range []int{0, needs / 3, needs / 2, needs + 1, needs + 3, min(2*needs, 100000)} {
			if b := bootOf(t, c, energy); (impl.BootTasks(b) > 0) != (energy >= needs) {
				t.Errorf("with the energy %d of %d, the boot of %v in %v is %v", energy, needs, c.program, c.mem, b)
			}
		}
		// The next task has its own needs, to which it adds up.
		next := c.behind(exact)
		both := needs + impl.NeedsEnergy(next.program, next.mem, next.readings, next.at)
		if b := bootOf(t, c, both); impl.BootTasks(b) != 2 || b.Left != 0 {
			t.Errorf("with the energy %d, the boot of %v in %v is %v", both, c.program, c.mem, b)
		}
		if b := bootOf(t, c, both-1); impl.BootTasks(b) != 1 {
			t.Errorf("with the energy %d, the boot of %v in %v is %v", both-1, c.program, c.mem, b)
		}
	}
}

// More energy completes at least as many tasks, of which the first ones stay the same, and reads at least as often.
func TestMoreEnergyCompletesMoreTasks(t *testing.T) {
	for i, c := range interruptedTraces(t)[:400] {
		before := impl.Boot{At: c.at}
		for energy := range 60 {
			b := bootOf(t, c, energy*(5+i%40))
			if len(b.Used) < len(before.Used) || !sameUsed(b.Used[:len(before.Used)], before.Used) || b.At < before.At || b.Left < 0 || b.Left > energy*(5+i%40) {
				t.Errorf("%v in %v: less energy yields %v, more yields %v", c.program, c.mem, before, b)
			}
			before = b
		}
	}
}

// What a boot completes is what its tasks mean for the values that it tells as used.
func TestBootsDoWhatTheirTasksMean(t *testing.T) {
	greatest := 0
	for i, c := range interruptedTraces(t) {
		b := bootOf(t, c, 40*(i%60))
		before, after := impl.Recovered(c.mem), impl.Recovered(b.Mem)
		ref := refOf(t, c.program, before[8]%8, impl.MemVars(before), b.Used)
		dirty := impl.DirtyVars(c.program, b.Mem)
		if !impl.MemOk(c.program, b.Mem) || after[8]%8 != ref.Task || !slices.Equal(impl.MemSent(b.Mem), firstOf(slices.Concat(impl.MemSent(c.mem), ref.Sent), 24)) {
			t.Errorf("the boot of %v in %v is %v; want %v", c.program, c.mem, b, ref)
		}
		for k := range 8 {
			if after[k] != ref.Vars[k] && !slices.Contains(dirty, k) {
				t.Errorf("the boot of %v in %v is %v; the variable %d should be %d", c.program, c.mem, b, k, ref.Vars[k])
			}
		}
		readings := 0
		for _, values := range b.Used {
			readings += len(values)
		}
		if b.At < c.at+readings {
			t.Errorf("the boot of %v from %d on is %v", c.program, c.at, b)
		}
		greatest = max(greatest, len(b.Used))
	}
	if greatest < 8 {
		t.Errorf("the boots of this test complete up to %d tasks", greatest)
	}
}

// Boot after boot, each with what the one before has left, until the tasks of a program are completed.
func TestBootsFollowEachOther(t *testing.T) {
	words, next := controlsByWord(), chooser(17)
	interrupted, completed := 0, 0
	for _, c := range variedTraces()[:600] {
		if costOf(wantedParts(c, 1, words), 1) > 400 {
			continue
		}
		for range 12 {
			energy := next(1 + next(250))
			parts := wantedParts(c, 10, words)
			checkBoot(t, c, energy, bootWith(momentsOf(c, parts), energy))
			checkNeedsEnergy(t, c, costOf(parts, 1))
			b := bootOf(t, c, energy)
			c = c.behind(b)
			completed += len(b.Used)
			if !impl.IsClean(c.mem) {
				interrupted++
			}
		}
	}
	if interrupted < 500 || completed < 500 {
		t.Errorf("%d boots of this test end with log entries, and %d tasks are completed", interrupted, completed)
	}
}

// listsOf are all slices of a boot.
func listsOf(b impl.Boot) [][]int { return append([][]int{b.Mem}, b.Used...) }

func cloneBoot(b impl.Boot) impl.Boot {
	return impl.Boot{Mem: slices.Clone(b.Mem), At: b.At, Used: cloneUsed(b.Used), Left: b.Left}
}

func TestBootResultsAreNewMemory(t *testing.T) {
	for i, c := range interruptedTraces(t)[:400] {
		energy := 60 * (i % 50)
		mem, readings := slices.Clone(c.mem), slices.Clone(c.readings)
		given := tracedTask{cloneProgram(c.program), mem, readings, c.at}
		first := bootOf(t, given, energy)
		want := cloneBoot(first)
		for place := range listsOf(first) {
			lists, wanted := listsOf(bootOf(t, given, energy)), listsOf(want)
			spoil(lists[place])
			for other := range lists {
				if other != place && !slices.Equal(lists[other], wanted[other]) {
					t.Errorf("the slices %d and %d of %v share memory", place, other, first)
				}
			}
		}
		again := bootOf(t, given, energy)
		clear(again.Used[:cap(again.Used)])
		if !sameBoot(first, want) || !slices.Equal(mem, c.mem) || !slices.Equal(readings, c.readings) || !sameProgram(given.program, c.program) {
			t.Errorf("changing a result changes %v or %v", given, first)
		}
		spoil(mem)
		spoil(readings)
		for _, task := range given.program.Tasks {
			clear(task.Body)
		}
		if !sameBoot(first, want) {
			t.Errorf("%v shares memory with an argument; before, it was %v", first, want)
		}
	}
}

// Neither the arguments nor what lies behind them is written.
func TestBootArgumentsAreKept(t *testing.T) {
	list := append(variedTraces()[:500], interruptedTraces(t)[:500]...)
	for i, p := range invalidPrograms()[:100] {
		list = append(list, tracedTask{p, filledMemory(controlParts{i % 2, i % 9, i % 25}), someReadings()[i%9], i})
	}
	for i, c := range list {
		given, mem, readings := programWithRoom(c.program), withRoom(c.mem), withRoom(c.readings)
		impl.BootOnce(given, mem, readings, c.at, 60*(i%50))
		impl.BootOnce(given, mem, readings, c.at, 100000)
		impl.BootOnce(given, mem, readings, c.at, -1)
		impl.NeedsEnergy(given, mem, readings, c.at)
		if !isProgramKept(given, c.program) || !isKept(mem, c.mem) || !isKept(readings, c.readings) {
			t.Errorf("a boot changes %v, %v or %v", given, mem, readings)
		}
	}
	used := [][]int{withRoom([]int{1, 2}), withRoom(nil), {45}}
	given := impl.Boot{Mem: withRoom([]int{7}), At: 3, Used: used[:2], Left: 4}
	impl.BootTasks(given)
	if !isKept(given.Mem, []int{7}) || !isKept(used[0], []int{1, 2}) || !isKept(used[1], nil) || !slices.Equal(used[2], []int{45}) {
		t.Errorf("BootTasks changes %v or %v", given, used)
	}
}

// What has been booted before does not matter to a boot.
func TestTheSameMemoryHasTheSameBoot(t *testing.T) {
	list := interruptedTraces(t)
	for i, c := range list[:500] {
		energy, other := 50*(i%40), list[(i*7+1)%len(list)]
		want, needs := bootOf(t, c, energy), impl.NeedsEnergy(c.program, c.mem, c.readings, c.at)
		impl.BootOnce(other.program, other.mem, other.readings, other.at, i%400)
		impl.BootOnce(other.program, other.mem[1:], other.readings, other.at, energy)
		impl.NeedsEnergy(other.program, other.mem, other.readings, other.at)
		checkBoot(t, c, energy, want)
		checkNeedsEnergy(t, c, needs)
	}
}
