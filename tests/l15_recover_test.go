package tests

import (
	"math"
	"slices"
	"strings"
	"testing"

	"loop.example/g00983/impl"
)

// writesOfText reads writes: 8:128 writes 128 into the word 8.
func writesOfText(text string) []impl.Write {
	list := []impl.Write{}
	for _, step := range microsOf(text) {
		list = append(list, impl.Write{At: step.At, Value: step.Value})
	}
	return list
}

// A logEntry is the number of a variable and its old value.
type logEntry [2]int

// withEntries has these entries in the first places of the log, whatever the count is.
func withEntries(mem []int, entries ...logEntry) []int {
	mem = slices.Clone(mem)
	for i, e := range entries {
		mem[9+2*i], mem[10+2*i] = e[0], e[1]
	}
	return mem
}

// wantedRecovery follows the text of the document; words are the control words of controlsByWord.
func wantedRecovery(mem []int, words map[int]controlParts) []impl.Write {
	if len(mem) != 49 {
		return nil
	}
	c, ok := words[mem[8]]
	if !ok || c.count == 0 {
		return nil
	}
	list := []impl.Write{{At: 8, Value: wantedWord(controlParts{c.task, 0, c.tail})}}
	for i := range c.count {
		if mem[9+2*i] < 0 || mem[9+2*i] > 7 {
			return nil
		}
		list = slices.Insert(list, 0, impl.Write{At: mem[9+2*i], Value: mem[10+2*i]})
	}
	return list
}

// wantedRecovered finds for each variable by itself the first valid entry.
func wantedRecovered(mem []int, words map[int]controlParts) []int {
	want := slices.Clone(mem)
	if len(wantedRecovery(mem, words)) == 0 {
		return want
	}
	c := words[mem[8]]
	want[8] = wantedWord(controlParts{c.task, 0, c.tail})
	for k := range 8 {
		for i := range c.count {
			if mem[9+2*i] == k {
				want[k] = mem[10+2*i]
				break
			}
		}
	}
	return want
}

// wantedDirty decides for each variable of a valid task.
func wantedDirty(task impl.Task) []int {
	partner, _ := partners(task.Body)
	may, _ := wantedWrites(task.Body, partner)
	dirty := []int{}
	for k := range 8 {
		if slices.Contains(may, k) && !slices.Contains(wantedLog(task), k) {
			dirty = append(dirty, k)
		}
	}
	return dirty
}

// variablesFrom are the variables that taskLogging writes, but does not log.
func variablesFrom(count int) []int { return []int{0, 1, 2, 3, 4, 5, 6, 7}[count:] }

func checkRecovers(t *testing.T, mem []int, list []impl.Write, recovered []int) {
	t.Helper()
	if got := impl.RecoveryWrites(mem); !slices.Equal(got, list) {
		t.Errorf("RecoveryWrites(%v) = %v; want %v", mem, got, list)
	}
	if got := impl.Recovered(mem); !slices.Equal(got, recovered) {
		t.Errorf("Recovered(%v) = %v; want %v", mem, got, recovered)
	}
}

func checkClean(t *testing.T, mem []int, want bool) {
	t.Helper()
	if got := impl.IsClean(mem); got != want {
		t.Errorf("IsClean(%v) = %v", mem, got)
	}
}

// checkNoRecovery expects that there is nothing to restore, or that it cannot be done.
func checkNoRecovery(t *testing.T, mem []int, clean bool) {
	t.Helper()
	checkRecovers(t, mem, nil, mem)
	checkClean(t, mem, clean)
}

// checkAnyMemory compares with the document read a second time, and accepts any words.
func checkAnyMemory(t *testing.T, mem []int, words map[int]controlParts) {
	t.Helper()
	checkRecovers(t, mem, wantedRecovery(mem, words), wantedRecovered(mem, words))
	clean := false
	if len(mem) == 49 {
		c, ok := words[mem[8]]
		clean = ok && c.count == 0
	}
	checkClean(t, mem, clean)
}

func checkDirty(t *testing.T, p impl.Program, mem []int, want []int) {
	t.Helper()
	if got := impl.DirtyVars(p, mem); !slices.Equal(got, want) {
		t.Errorf("DirtyVars(%v, %v) = %v; want %v", p, mem, got, want)
	}
}

func TestRecoveryWrites(t *testing.T) {
	words := controlsByWord()
	for _, c := range []struct {
		parts   controlParts
		entries []logEntry
		writes  string
	}{
		{controlParts{0, 1, 0}, []logEntry{{3, 40}}, "3:40 8:0"},
		{controlParts{0, 1, 0}, []logEntry{{0, -7}}, "0:-7 8:0"},
		{controlParts{5, 1, 24}, []logEntry{{7, 0}}, "7:0 8:3077"},
		{controlParts{2, 2, 9}, []logEntry{{3, 40}, {5, -7}}, "5:-7 3:40 8:1154"},
		{controlParts{2, 2, 9}, []logEntry{{5, -7}, {3, 40}}, "3:40 5:-7 8:1154"},
		{controlParts{1, 3, 0}, []logEntry{{7, 1}, {0, 2}, {4, 3}}, "4:3 0:2 7:1 8:1"},
		// The old value may be what the variable contains; it is written nevertheless.
		{controlParts{0, 2, 1}, []logEntry{{0, 5}, {1, -2}}, "1:-2 0:5 8:128"},
		{controlParts{4, 8, 3}, []logEntry{{0, 10}, {1, 11}, {2, 12}, {3, 13}, {4, 14}, {5, 15}, {6, 16}, {7, 17}}, "7:17 6:16 5:15 4:14 3:13 2:12 1:11 0:10 8:388"},
		{controlParts{4, 8, 3}, []logEntry{{7, 10}, {6, 11}, {5, 12}, {4, 13}, {3, 14}, {2, 15}, {1, 16}, {0, 17}}, "0:17 1:16 2:15 3:14 4:13 5:12 6:11 7:10 8:388"},
		// The entries behind the count do not count.
		{controlParts{0, 1, 0}, []logEntry{{3, 40}, {5, -7}}, "3:40 8:0"},
		{controlParts{3, 7, 0}, []logEntry{{0, 10}, {1, 11}, {2, 12}, {3, 13}, {4, 14}, {5, 15}, {6, 16}, {7, 17}}, "6:16 5:15 4:14 3:13 2:12 1:11 0:10 8:3"},
	} {
		mem := withEntries(filledMemory(c.parts), c.entries...)
		list := writesOfText(c.writes)
		checkRecovers(t, mem, list, wantedApplied(mem, list, len(list)))
		checkClean(t, mem, false)
		checkAnyMemory(t, mem, words)
	}
}

// Each task, count and tail.
func TestRecoveryOfEachControlWord(t *testing.T) {
	words := controlsByWord()
	for _, c := range allControls() {
		mem := filledMemory(c)
		checkAnyMemory(t, mem, words)
		list, recovered := impl.RecoveryWrites(mem), impl.Recovered(mem)
		if c.count == 0 {
			checkNoRecovery(t, mem, true)
			continue
		}
		if len(list) != c.count+1 || list[c.count] != (impl.Write{At: 8, Value: c.task + 128*c.tail}) || list[0].Value != 99+c.count || list[c.count-1] != (impl.Write{At: 7, Value: 100}) {
			t.Errorf("RecoveryWrites(%v) = %v", mem, list)
		}
		checkUnpack(t, recovered[8], controlParts{c.task, 0, c.tail})
		checkNoRecovery(t, recovered, true)
		if !slices.Equal(recovered[9:], mem[9:]) {
			t.Errorf("recovery changes the log or the outbox of %v: %v", mem, recovered)
		}
	}
}

func TestMemoriesThatAreClean(t *testing.T) {
	for task := range 6 {
		for tail := range 25 {
			mem := cleanMemory(distinctVars(), task, tail)
			checkNoRecovery(t, mem, true)
			// What is behind the count and the tail does not matter, nor do the variables.
			for _, n := range append(noValues(), 0, 3, 8) {
				other := slices.Repeat([]int{n}, 49)
				other[8] = mem[8]
				checkNoRecovery(t, other, true)
			}
		}
	}
	for _, vars := range variedVars() {
		mem, _ := impl.MemNew(vars)
		checkNoRecovery(t, mem, true)
	}
	checkNoRecovery(t, make([]int, 49), true)
}

// Of several entries for one variable, the first one is written last, so that its value stays.
func TestEntriesOfTheSameVariable(t *testing.T) {
	words := controlsByWord()
	for _, c := range []struct {
		entries []logEntry
		writes  string
		vars    map[int]int
	}{
		{[]logEntry{{3, 40}, {3, 41}}, "3:41 3:40 8:386", map[int]int{3: 40}},
		{[]logEntry{{3, 41}, {3, 40}}, "3:40 3:41 8:386", map[int]int{3: 41}},
		{[]logEntry{{3, 40}, {3, 40}}, "3:40 3:40 8:386", map[int]int{3: 40}},
		{[]logEntry{{0, 9}, {0, 8}, {0, 7}}, "0:7 0:8 0:9 8:386", map[int]int{0: 9}},
		{[]logEntry{{7, 9}, {0, 8}, {7, 7}, {0, 6}}, "0:6 7:7 0:8 7:9 8:386", map[int]int{0: 8, 7: 9}},
		{[]logEntry{{1, 9}, {2, 8}, {1, 7}}, "1:7 2:8 1:9 8:386", map[int]int{1: 9, 2: 8}},
		{[]logEntry{{1, 9}, {2, 8}, {2, 7}}, "2:7 2:8 1:9 8:386", map[int]int{1: 9, 2: 8}},
		{[]logEntry{{5, 1}, {5, 2}, {5, 3}, {5, 4}, {5, 5}, {5, 6}, {5, 7}, {5, 8}}, "5:8 5:7 5:6 5:5 5:4 5:3 5:2 5:1 8:386", map[int]int{5: 1}},
	} {
		mem := withEntries(filledMemory(controlParts{2, len(c.entries), 3}), c.entries...)
		want := slices.Clone(mem)
		want[8] = 386
		for k, old := range c.vars {
			want[k] = old
		}
		checkRecovers(t, mem, writesOfText(c.writes), want)
		checkAnyMemory(t, mem, words)
	}
	// Two entries at each two places of a full log.
	for first := range 8 {
		for second := first + 1; second < 8; second++ {
			for k := range 8 {
				mem := withWord(filledMemory(controlParts{1, 8, 2}), 9+2*second, k)
				mem[9+2*first] = k
				checkAnyMemory(t, mem, words)
			}
		}
	}
}

// Old values are restored whether they are values or not.
func TestOldValuesThatAreNoValues(t *testing.T) {
	words := controlsByWord()
	p := programLogging(3, 3)
	for _, old := range slices.Concat(noValues(), []int{1000000, -1000000, 0, -1, 8}) {
		for count := 1; count <= 8; count++ {
			for i := range count {
				mem := withWord(filledMemory(controlParts{1, count, 4}), 10+2*i, old)
				checkAnyMemory(t, mem, words)
				k := mem[9+2*i]
				if got := impl.Recovered(mem)[k]; got != old {
					t.Errorf("recovery of %v restores %d of the variable %d; want %d", mem, got, k, old)
				}
				if !isAnyValue(old) {
					checkDirty(t, p, mem, nil)
				}
			}
		}
		for _, c := range greatControls() {
			mem := slices.Repeat([]int{old}, 49)
			mem[8] = wantedWord(c)
			checkAnyMemory(t, withEntries(mem, logEntry{0, old}, logEntry{7, old}, logEntry{1, old}, logEntry{6, old}, logEntry{2, old}, logEntry{5, old}, logEntry{3, old}, logEntry{4, old}), words)
		}
	}
}

// A number that is no variable matters in a valid entry, and not behind the count.
func TestEntriesOfWrongVariables(t *testing.T) {
	words := controlsByWord()
	p := programLogging(0, 0)
	numbers := append(noVariables(), 48, 49, -1000000, 1000000, math.MinInt, math.MaxInt)
	for count := range 9 {
		for i := range 8 {
			mem := filledMemory(controlParts{1, count, 5})
			for _, k := range numbers {
				wrong := withWord(mem, 9+2*i, k)
				if i < count {
					checkNoRecovery(t, wrong, false)
					checkDirty(t, p, wrong, nil)
				} else {
					checkRecovers(t, wrong, wantedRecovery(mem, words), wantedRecovered(wrong, words))
					checkClean(t, wrong, count == 0)
					checkDirty(t, p, wrong, variablesFrom(0))
				}
			}
			for k := range 8 {
				checkAnyMemory(t, withWord(mem, 9+2*i, k), words)
			}
		}
	}
	// Two at once, and all of them.
	mem := filledMemory(controlParts{1, 8, 5})
	for i := range 8 {
		checkNoRecovery(t, withWord(withWord(mem, 9+2*i, -1), 9+2*(7-i), 8), false)
	}
	for _, k := range numbers {
		all := slices.Clone(mem)
		for i := range 8 {
			all[9+2*i] = k
		}
		checkNoRecovery(t, all, false)
	}
}

func TestRecoveryOfWrongControlWords(t *testing.T) {
	words, programs := controlsByWord(), tasksOfEachNumber()
	numbers := wrongWords()
	for word := -3300; word <= 6700; word++ {
		numbers = append(numbers, word)
	}
	full := filledMemory(controlParts{0, 8, 24})
	for _, word := range numbers {
		if _, ok := words[word]; ok {
			checkAnyMemory(t, withWord(full, 8, word), words)
			continue
		}
		for _, mem := range [][]int{withWord(full, 8, word), withWord(make([]int, 49), 8, word)} {
			checkNoRecovery(t, mem, false)
			checkDirty(t, programs[6], mem, nil)
		}
	}
}

func TestRecoveryOfWrongSizes(t *testing.T) {
	p := programLogging(1, 1)
	for _, mem := range wrongSizes() {
		checkNoRecovery(t, mem, false)
		checkDirty(t, p, mem, nil)
	}
	long := append(filledMemory(controlParts{1, 2, 3}), filledMemory(controlParts{1, 2, 3})...)
	for size := range long {
		mem := long[:size]
		if size == 49 {
			checkRecovers(t, mem, writesOfText("4:101 7:100 8:385"), wantedApplied(mem, writesOfText("4:101 7:100 8:385"), 3))
			checkDirty(t, p, mem, variablesFrom(1))
			continue
		}
		checkNoRecovery(t, mem, false)
		checkNoRecovery(t, make([]int, size), false)
		checkDirty(t, p, mem, nil)
	}
}

func TestRecoveryWithoutElements(t *testing.T) {
	for _, mem := range append(emptyLists(), filledMemory(controlParts{0, 2, 3})[:0]) {
		checkNoRecovery(t, mem, false)
		for _, p := range []impl.Program{{}, {Tasks: []impl.Task{}}, programLogging(0), programLogging(8, 8)} {
			checkDirty(t, p, mem, nil)
		}
	}
	for _, c := range greatControls() {
		checkDirty(t, impl.Program{}, filledMemory(c), nil)
		checkDirty(t, impl.Program{Tasks: []impl.Task{}}, filledMemory(c), nil)
	}
	checkDirty(t, impl.Program{}, make([]int, 49), nil)
	checkDirty(t, programOfTasks(impl.Task{Next: constantExpr(0)}), make([]int, 49), nil)
}

// Each word by another one, against the document read a second time.
func TestRecoveryOfChangedWords(t *testing.T) {
	programs, words := tasksOfEachNumber(), controlsByWord()
	numbers := slices.Concat(noValues(), wrongWords(), []int{0, 1, 5, 7, 8, 9, 64, 69, 128, 136, 3072, 3077, 3141, 1000000, -1000000})
	for i, c := range greatControls() {
		for at := range 49 {
			for _, n := range numbers {
				size, mem := 1+(i+at)%6, withWord(filledMemory(c), at, n)
				checkAnyMemory(t, mem, words)
				if wantedMemOk(programs[size], mem, words) {
					checkDirty(t, programs[size], mem, variablesFrom(size))
				} else {
					checkDirty(t, programs[size], mem, nil)
				}
			}
		}
	}
}

// Memories whose words follow a fixed rule, with repeated variables and wrong ones in their entries.
func TestRecoveryOfManyMemories(t *testing.T) {
	programs, words, next := tasksOfEachNumber(), controlsByWord(), chooser(15)
	recovered, dirty := 0, 0
	for range 20000 {
		mem := filledMemory(controlParts{next(6), next(9), next(25)})
		for i := range 8 {
			if next(4) > 0 {
				mem[9+2*i], mem[10+2*i] = next(8), []int{next(2000) - 1000, 1000001 + next(50)}[next(12)/11]
			}
		}
		for range next(3) {
			at := next(49)
			mem[at] = []int{0, 3, 7, 8, -1, 1000000, 1000001, -1000000, -1000001, next(4000)}[next(10)]
		}
		size, want := 1+next(6), []int(nil)
		if wantedMemOk(programs[size], mem, words) {
			want = variablesFrom(size)
			dirty++
		}
		if len(wantedRecovery(mem, words)) > 0 {
			recovered++
		}
		checkAnyMemory(t, mem, words)
		checkDirty(t, programs[size], mem, want)
	}
	if recovered < 4000 || recovered > 18000 || dirty < 4000 || dirty > 16000 {
		t.Errorf("%d memories of this test are recovered, and %d are valid", recovered, dirty)
	}
}

// Recovery looks at no program, and at no other words than its own: neither the variables nor the outbox have to be values.
func TestRecoveryOfMemoriesThatAreNotValid(t *testing.T) {
	words := controlsByWord()
	p := programLogging(2, 5)
	for count := range 9 {
		mem := filledMemory(controlParts{1, count, 6})
		checkDirty(t, p, mem, variablesFrom(5))
		for _, wrong := range noValues() {
			for _, at := range []int{0, 3, 7, 25, 28, 30} {
				other := withWord(mem, at, wrong)
				checkMemOk(t, p, other, false)
				checkAnyMemory(t, other, words)
				checkDirty(t, p, other, nil)
			}
			// Behind the tail, any word is allowed.
			for _, at := range []int{31, 48} {
				checkAnyMemory(t, withWord(mem, at, wrong), words)
				checkDirty(t, p, withWord(mem, at, wrong), variablesFrom(5))
			}
		}
	}
	// A task that the program does not have.
	for n, p := range tasksOfEachNumber() {
		for _, c := range greatControls() {
			mem := filledMemory(c)
			checkAnyMemory(t, mem, words)
			if c.task < n {
				checkDirty(t, p, mem, variablesFrom(n))
			} else {
				checkDirty(t, p, mem, nil)
			}
		}
	}
}

func TestDirtyVars(t *testing.T) {
	for _, c := range []struct{ words, next, dirty string }{
		{"", "", ""}, {"", "3", ""}, {"!3", "", ""}, {"?3 !4 .", "", ""}, {"*2 .", "7", ""},
		{"3=", "", "3"}, {"3~", "", "3"}, {"3=", "3", "3"}, {"3~ !3", "", "3"}, {"3= 3=3", "", "3"}, {"4=3", "", "4"}, {"3= 4~ 5=", "", "345"},
		{"3=3", "", ""}, {"!3 3=", "", ""}, {"!3 3~", "", ""}, {"?3 . 3~", "", ""}, {"?5 3= .", "", ""}, {"?5 3~ .", "3", ""}, {"4=3 3=", "", "4"}, {"3=4 4=3", "", "3"},
		{"?5 3= . 3=", "", "3"}, {"?5 3= . 3=", "3", "3"}, {"3= ?5 3~ .", "", "3"}, {"?5 3= . 4=", "", "4"}, {"?5 3= . !3 3=", "", ""},
		{"*2 3= .", "", "3"}, {"*2 3~ !3 .", "", "3"}, {"*2 !3 3~ .", "", ""}, {"*5 3=3 .", "", ""}, {"*2 ?5 3= . 4= .", "", "4"}, {"?5 *2 3= . . 3~", "", "3"},
		{"0= 7=", "", "07"}, {"0=0 7=7", "", ""}, {"7~ 0~", "07", "07"}, {"0=0 7=", "", "7"}, {"0= 7=7", "", "0"},
		{"0= 1= 2~ 3~ 4= 5= 6~ 7~", "07", "01234567"}, {"7= 6= 5= 4= 3= 2= 1= 0=", "", "01234567"}, {"0=0 1=1 2=2 3=3 4=4 5=5 6=6 7=7", "", ""}, {"0=0 1= 2=2 3= 4=4 5= 6=6 7=", "", "1357"}, {"0= ? 1= . 2= ? 3= . 4= ? 5= . 6= ? 7= .", "", "0246"},
	} {
		p := programOfTasks(taskOfWords(c.words, c.next))
		for count := range 9 {
			checkDirty(t, p, filledMemory(controlParts{0, count, 3 * count}), varsOfDigits(c.dirty))
		}
		checkDirty(t, p, make([]int, 49), varsOfDigits(c.dirty))
		if got := wantedDirty(p.Tasks[0]); !slices.Equal(got, varsOfDigits(c.dirty)) {
			t.Errorf("%s: the model has %v; want %s", c.words, got, c.dirty)
		}
	}
}

// Each variable by itself, so that the first and the last one are like all others.
func TestDirtyVarsOfEachVariable(t *testing.T) {
	for _, c := range []struct {
		words string
		dirty bool
	}{
		{"#=", true}, {"#~", true}, {"#= !#", true}, {"#~ #=#", true}, {"*3 #= .", true}, {"*3 #~ !# .", true}, {"? #= . #~", true}, {"#= ? #=# .", true},
		{"", false}, {"!#", false}, {"?# .", false}, {"#=#", false}, {"!# #~", false}, {"? #= .", false}, {"?# #~ .", false}, {"*3 !# #= .", false}, {"*2 ? #= . .", false},
	} {
		for k := range 8 {
			digit, dirty := string(rune('0'+k)), []int{}
			if c.dirty {
				dirty = []int{k}
			}
			p := programOfTasks(taskOfWords(strings.ReplaceAll(c.words, "#", digit), ""))
			checkDirty(t, p, filledMemory(controlParts{0, k, k}), dirty)
			p.Tasks[0].Next = exprReading(digit)
			checkDirty(t, p, filledMemory(controlParts{0, 8 - k, k}), dirty)
		}
	}
}

// The current task counts, and what the others write does not.
func TestDirtyVarsOfTheCurrentTask(t *testing.T) {
	p := programOfTasks(taskOfWords("1= 2=2", ""), taskOfWords("", ""), taskOfWords("2= 5~", "1"), taskOfWords("!3", "3"), taskOfWords("6=6", ""), taskOfWords("0= ? 1= . 7~", ""))
	for task, want := range []string{"1", "", "25", "", "", "07"} {
		for _, count := range []int{0, 1, 8} {
			for _, tail := range []int{0, 7, 24} {
				checkDirty(t, p, filledMemory(controlParts{task, count, tail}), varsOfDigits(want))
			}
		}
	}
	for i, p := range variedPrograms() {
		for task := range p.Tasks {
			checkDirty(t, p, filledMemory(controlParts{task, i % 9, i % 25}), wantedDirty(p.Tasks[task]))
		}
	}
}

func TestDirtyVarsOfEmptyTasks(t *testing.T) {
	for _, list := range [][]impl.Stmt{nil, {}, blockOfWords("3=3 !4")[:0], blockOfWords("3=3 !4")[2:]} {
		p := programOfTasks(impl.Task{Body: list, Next: constantExpr(1)}, taskOfWords("3=", ""))
		for count := range 9 {
			checkDirty(t, p, filledMemory(controlParts{0, count, 5}), nil)
			checkDirty(t, p, filledMemory(controlParts{1, count, 5}), []int{3})
		}
		// An empty task has one write alone, behind which it is completed.
		mem := cleanMemory(distinctVars(), 0, 5)
		if writes := impl.WritesOf(traceOf(t, p, mem, nil, 0)); !slices.Equal(writes, writesOfText("8:641")) {
			t.Errorf("the empty task has the writes %v", writes)
		}
		checkNoRecovery(t, mem, true)
	}
}

func TestDirtyVarsOfInvalidPrograms(t *testing.T) {
	for i, p := range invalidPrograms() {
		checkDirty(t, p, filledMemory(controlParts{0, i % 9, 3}), nil)
		checkDirty(t, p, cleanMemory(distinctVars(), max(0, min(len(p.Tasks), 6)-1), 3), nil)
	}
	for _, list := range invalidBodies()[:40] {
		// The wrong task is the current one, or another one.
		p := programOfTasks(taskOfWords("3=", ""), impl.Task{Body: list, Next: constantExpr(0)})
		checkDirty(t, p, filledMemory(controlParts{0, 2, 3}), nil)
		checkDirty(t, p, filledMemory(controlParts{1, 2, 3}), nil)
	}
	for _, next := range invalidExprs() {
		checkDirty(t, programOfTasks(impl.Task{Body: blockOfWords("3="), Next: next}), filledMemory(controlParts{0, 2, 3}), nil)
	}
}

// An interruption tells which writes a recovery needs behind each number of writes of a trace, up to the one that is given.
type interruption struct {
	writes  int
	recover string
}

func TestRecoveryOfInterruptedTraces(t *testing.T) {
	for _, c := range []struct {
		text  string
		task  int
		tail  int
		vars  []int
		dirty string
		parts []interruption
	}{
		{"task 1 0 0;sense 0 1;set 1 1 -2 1;send 1 -1 -2", 0, 0, varsOf(), "0", []interruption{{3, ""}, {6, "1:0 8:0"}}},
		{"task 1 0 0;set 7 1 -8 1;set 0 1 -1 -8;set 7 1 -8 -1;set 3 1 -4 2;set 0 1 3 0", 0, 0, []int{1, 0, 0, 4, 0, 0, 0, 6}, "", []interruption{{2, ""}, {6, "7:6 8:0"}, {11, "0:1 7:6 8:0"}, {14, "3:4 0:1 7:6 8:0"}}},
		{"task 1 0 1;task 1 0 2;loop 2;set 2 1 -3 1;send 1 -3 0;set 1 1 -2 -3;end;task 1 0 0", 1, 7, varsOf(0, 5, 6), "", []interruption{{2, ""}, {7, "2:6 8:897"}, {12, "1:5 2:6 8:897"}}},
		{"task 1 0 0;set 1 1 -2 1;sense 2 0;set 3 1 -4 1;sense 2 0", 0, 24, varsOf(0, 5, 6, 7), "2", []interruption{{2, ""}, {7, "1:5 8:3072"}, {10, "3:7 1:5 8:3072"}}},
		{"task 1 0 0;if 1 1 0;sense 3 0;end;if 1 0 0;set 4 1 1 1;end", 0, 3, varsOf(0, 0, 0, 4), "", []interruption{{2, ""}, {4, "3:4 8:384"}}},
		{"task 1 0 0;sense 3 0;sense 4 0;send 1 -4 -5", 0, 3, varsOf(), "34", []interruption{{3, ""}}},
		{"task 1 0 0", 0, 3, varsOf(), "", []interruption{{0, ""}}},
	} {
		p, mem := textProgram(t, c.text), cleanMemory(c.vars, c.task, c.tail)
		writes := impl.WritesOf(traceOf(t, p, mem, []int{9}, 0))
		count := 0
		for _, part := range c.parts {
			for ; count <= part.writes; count++ {
				stopped, list := impl.ApplyWrites(mem, writes, count), writesOfText(part.recover)
				checkRecovers(t, stopped, list, wantedApplied(stopped, list, len(list)))
				checkClean(t, stopped, len(list) == 0)
				checkDirty(t, p, stopped, varsOfDigits(c.dirty))
			}
		}
		if count != len(writes) {
			t.Errorf("%s has %d writes; the test expects %d", c.text, len(writes), count)
		}
		// Behind its last write, the task is completed, and nothing is undone.
		checkNoRecovery(t, impl.ApplyWrites(mem, writes, count), true)
	}
}

// isUndone reports whether a recovered memory has what it had before, but for the dirty variables, the log and the outbox behind the tail.
func isUndone(before, recovered, dirty []int) bool {
	tail := before[8] / 128
	for k := range 8 {
		if recovered[k] != before[k] && !slices.Contains(dirty, k) {
			return false
		}
	}
	return recovered[8] == before[8] && slices.Equal(recovered[25:25+tail], before[25:25+tail])
}

// Promise 15: an interrupted task is undone, behind whichever of its writes it is interrupted.
func TestInterruptedTasksAreUndone(t *testing.T) {
	dirtyChanged := false
	for _, c := range variedTraces() {
		writes, task := impl.WritesOf(c.trace(t)), c.program.Tasks[c.mem[8]%8]
		dirty, room := wantedDirty(task), len(wantedLog(task))
		for count := range writes {
			stopped := impl.ApplyWrites(c.mem, writes, count)
			list, recovered := impl.RecoveryWrites(stopped), impl.Recovered(stopped)
			if !isUndone(c.mem, recovered, dirty) || !impl.MemOk(c.program, recovered) || !slices.Equal(impl.MemSent(recovered), impl.MemSent(c.mem)) {
				t.Errorf("after %d writes of the task %v, %v becomes %v, where %v is dirty; before, it was %v", count, task, stopped, recovered, dirty, c.mem)
			}
			if entries := stopped[8] / 8 % 16; 3*len(list) != impl.RecoveryCost(entries) || entries > room {
				t.Errorf("%d entries of %v have the writes %v", entries, stopped, list)
			}
			checkNoRecovery(t, recovered, true)
			if count%9 == 0 {
				checkDirty(t, c.program, stopped, dirty)
				checkDirty(t, c.program, recovered, dirty)
			}
			dirtyChanged = dirtyChanged || !isUndone(c.mem, recovered, nil)
		}
		checkNoRecovery(t, impl.ApplyWrites(c.mem, writes, len(writes)), true)
	}
	if !dirtyChanged {
		t.Error("no task of this test leaves another value in a dirty variable")
	}
}

// checkRepeated interrupts a recovery behind each of its writes but the last one, and makes it again.
func checkRepeated(t *testing.T, mem []int) {
	t.Helper()
	list, want := impl.RecoveryWrites(mem), impl.Recovered(mem)
	often := mem
	for count := range len(list) {
		once := impl.ApplyWrites(mem, list, count)
		checkRecovers(t, once, list, want)
		checkClean(t, once, false)
		// This one has been interrupted before each time.
		often = impl.ApplyWrites(often, impl.RecoveryWrites(often), (count*5+3)%len(list))
		checkRecovers(t, often, list, want)
		for second := range len(list) {
			checkRecovers(t, impl.ApplyWrites(once, impl.RecoveryWrites(once), second), list, want)
		}
	}
	checkNoRecovery(t, impl.ApplyWrites(mem, list, len(list)), impl.IsClean(want))
	checkRecovers(t, want, nil, want)
}

// Promise 15: a recovery that is interrupted before its last write can be made again, any number of times.
func TestRecoveriesCanBeRepeated(t *testing.T) {
	for _, c := range allControls() {
		checkRepeated(t, filledMemory(c))
	}
	// Several entries for one variable, and old values that are no values.
	next := chooser(16)
	for range 1000 {
		mem := filledMemory(controlParts{next(6), next(9), next(25)})
		for i := range 8 {
			mem[9+2*i] = next(1 + next(8))
			mem[10+2*i] += next(3) * 1000000
		}
		checkRepeated(t, mem)
	}
}

func TestRecoveriesOfInterruptedTasksCanBeRepeated(t *testing.T) {
	greatest := 0
	for i, c := range variedTraces() {
		writes := impl.WritesOf(c.trace(t))
		for count := i % 3; count < len(writes); count += 3 + len(writes)/8 {
			stopped := impl.ApplyWrites(c.mem, writes, count)
			checkRepeated(t, stopped)
			greatest = max(greatest, len(impl.RecoveryWrites(stopped)))
		}
	}
	if greatest < 7 {
		t.Errorf("the recoveries of this test have at most %d writes", greatest)
	}
}

// Promise 15: after recovery, the task does the same as if it had never begun, with whatever readings it begins again.
func TestUndoneTasksDoTheSame(t *testing.T) {
	for i, c := range variedTraces() {
		writes, again := impl.WritesOf(c.trace(t)), c
		again.readings, again.at = someReadings()[(i+4)%len(someReadings())], c.at+i%7
		want := again.trace(t)
		for count := i % 2; count < len(writes); count += 1 + len(writes)/6 {
			again.mem = impl.Recovered(impl.ApplyWrites(c.mem, writes, count))
			checkTrace(t, c.program, again.mem, again.readings, again.at, want)
		}
	}
}

// Promise 15: a task that is interrupted again and again, with other readings each time, is still undone.
func TestTasksInterruptedManyTimes(t *testing.T) {
	for i, c := range variedTraces()[:1500] {
		now := c
		for round := range 12 {
			now.readings, now.at = someReadings()[(i+round)%len(someReadings())], c.at+round
			writes := impl.WritesOf(now.trace(t))
			stopped := impl.ApplyWrites(now.mem, writes, (i+7*round)%len(writes))
			list := impl.RecoveryWrites(stopped)
			if len(list) > 0 {
				stopped = impl.ApplyWrites(stopped, list, (i+round)%len(list))
			}
			now.mem = impl.Recovered(stopped)
			if !isUndone(c.mem, now.mem, impl.DirtyVars(c.program, stopped)) {
				t.Errorf("after %d interruptions of the task of %v, %v has become %v", round+1, c.program, c.mem, now.mem)
			}
		}
	}
}

// Promise 15 from the other side: without any one of the writes of a recovery, some variable or the count is not what it was before.
func TestEachRecoveryWriteIsNeeded(t *testing.T) {
	for count := range 9 {
		p, mem := programLogging(0, count), cleanMemory([]int{5, -2, 1, 4, -9, 6, 31, 9}, 1, 2)
		writes := impl.WritesOf(traceOf(t, p, mem, []int{5}, 0))
		stopped := impl.ApplyWrites(mem, writes, len(writes)-1)
		list, dirty := impl.RecoveryWrites(stopped), impl.DirtyVars(p, stopped)
		if count > 0 && len(list) != count+1 || !slices.Equal(dirty, variablesFrom(count)) {
			t.Errorf("RecoveryWrites(%v) = %v; %v is dirty", stopped, list, dirty)
		}
		for left := range list {
			part := slices.Delete(slices.Clone(list), left, left+1)
			if isUndone(mem, impl.ApplyWrites(stopped, part, len(part)), dirty) {
				t.Errorf("the write %v of %v is not needed", list[left], list)
			}
		}
	}
}

func spoilWrites(list []impl.Write) {
	list = list[:cap(list)]
	for i := range list {
		list[i] = impl.Write{At: -77, Value: -77}
	}
}

func TestRecoveryResultsAreNewMemory(t *testing.T) {
	words, p := controlsByWord(), programLogging(2, 2, 2, 2, 2, 2)
	lists := append(wrongSizes(), withWord(filledMemory(controlParts{1, 2, 3}), 8, 6), withWord(filledMemory(controlParts{1, 2, 3}), 9, 8))
	for _, c := range greatControls() {
		lists = append(lists, filledMemory(c))
	}
	for _, before := range lists {
		mem := slices.Clone(before)
		list, recovered, dirty := impl.RecoveryWrites(mem), impl.Recovered(mem), impl.DirtyVars(p, mem)
		wantDirty := slices.Clone(dirty)
		for range 2 {
			spoilWrites(impl.RecoveryWrites(mem))
			spoil(impl.Recovered(mem))
			spoil(impl.DirtyVars(p, mem))
		}
		if !slices.Equal(mem, before) || !sameProgram(p, programLogging(2, 2, 2, 2, 2, 2)) {
			t.Errorf("changing a result changes %v to %v, or the program", before, mem)
		}
		spoil(mem)
		if !slices.Equal(list, wantedRecovery(before, words)) || !slices.Equal(recovered, wantedRecovered(before, words)) || !slices.Equal(dirty, wantDirty) {
			t.Errorf("%v, %v or %v shares memory with an argument or a later result", list, recovered, dirty)
		}
	}
}

// Neither the arguments nor what lies behind them is written.
func TestRecoveryArgumentsAreKept(t *testing.T) {
	lists := append(wrongSizes(), withWord(filledMemory(controlParts{1, 2, 3}), 8, 6), withWord(filledMemory(controlParts{1, 2, 3}), 9, 8))
	for _, c := range allControls() {
		lists = append(lists, filledMemory(c))
	}
	for _, list := range lists {
		mem := withRoom(list)
		impl.RecoveryWrites(mem)
		impl.Recovered(mem)
		impl.IsClean(mem)
		impl.DirtyVars(programLogging(1, 2), mem)
		if !isKept(mem, list) {
			t.Errorf("%v was changed to %v", list, mem)
		}
	}
	for i, p := range append(append(plainPrograms(), variedPrograms()[:200]...), invalidPrograms()[:200]...) {
		given, mem := programWithRoom(p), withRoom(filledMemory(controlParts{0, i % 9, i % 25}))
		impl.DirtyVars(given, mem)
		if !isProgramKept(given, p) || !isKept(mem, filledMemory(controlParts{0, i % 9, i % 25})) {
			t.Errorf("DirtyVars changes %v or %v", given, mem)
		}
	}
}

// What has been recovered before does not matter to a recovery.
func TestTheSameMemoryHasTheSameRecovery(t *testing.T) {
	words := controlsByWord()
	lists := append(wrongSizes(), withWord(filledMemory(controlParts{1, 2, 3}), 8, 6))
	for _, c := range greatControls() {
		lists = append(lists, filledMemory(c))
	}
	p := programLogging(3, 3, 3, 3, 3, 3)
	for i, mem := range lists {
		want := impl.DirtyVars(p, mem)
		for step := range 5 {
			other := lists[(7*i+step)%len(lists)]
			impl.RecoveryWrites(other)
			impl.Recovered(other)
			impl.DirtyVars(programLogging(step), other)
			checkAnyMemory(t, mem, words)
			checkDirty(t, p, mem, want)
		}
	}
}
