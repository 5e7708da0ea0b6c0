package tests

import (
	"math"
	"slices"
	"testing"

	"loop.example/g00983/impl"
)

type controlParts struct{ task, count, tail int }

func inRange(c controlParts) bool {
	return c.task >= 0 && c.task <= 5 && c.count >= 0 && c.count <= 8 && c.tail >= 0 && c.tail <= 24
}

// wantedWord is the formula of the document, for parts in their ranges.
func wantedWord(c controlParts) int { return c.task + 8*(c.count+16*c.tail) }

func allControls() []controlParts {
	list := []controlParts{}
	for task := range 6 {
		for count := range 9 {
			for tail := range 25 {
				list = append(list, controlParts{task, count, tail})
			}
		}
	}
	return list
}

// controlsByWord has each control word and what it consists of.
func controlsByWord() map[int]controlParts {
	words := map[int]controlParts{}
	for _, c := range allControls() {
		words[wantedWord(c)] = c
	}
	return words
}

// greatControls have the least, the greatest and a middle number in each part.
func greatControls() []controlParts {
	list := []controlParts{}
	for _, task := range []int{0, 3, 5} {
		for _, count := range []int{0, 1, 4, 8} {
			for _, tail := range []int{0, 1, 11, 24} {
				list = append(list, controlParts{task, count, tail})
			}
		}
	}
	return list
}

// wrongWords have a part outside its range, are negative, or are too great.
func wrongWords() []int {
	words := []int{6, 7, 72, 77, 78, 80, 120, 127, 3200, 3205, 3142, 3143, 3144, 3136 + 72, 3072 + 6, 3072 + 72, 6400, 1 << 16, 1 << 20, 1 << 62}
	for _, n := range []int{1, 2, 5, 6, 7, 8, 9, 64, 72, 127, 128, 129, 3072, 3141, 3142, 3200, 3328, 4096} {
		words = append(words, -n)
	}
	return append(words, farNumbers()...)
}

func noValues() []int {
	return []int{1000001, -1000001, 1000002, 2000000, -2000000, 1 << 32, -(1 << 32), math.MaxInt, math.MinInt}
}

// filledMemory has other words everywhere, and words that are no values, nor numbers of variables, behind the count and the tail.
func filledMemory(c controlParts) []int {
	mem := append(distinctVars(), wantedWord(c))
	for i := range 8 {
		if i < c.count {
			mem = append(mem, (5*i+7)%8, 100+i)
		} else {
			mem = append(mem, 8+i, -1000001-i)
		}
	}
	for i := range 24 {
		if i < c.tail {
			mem = append(mem, -200-i)
		} else {
			mem = append(mem, 1000001+i)
		}
	}
	return mem
}

func withWord(mem []int, at, word int) []int {
	mem = slices.Clone(mem)
	mem[at] = word
	return mem
}

// wrongSizes are memories with too few and too many words, which are right as far as they go.
func wrongSizes() [][]int {
	mem := filledMemory(controlParts{0, 8, 24})
	list := [][]int{nil, {}, mem[:1], mem[:8], mem[:9], mem[:25], mem[:47], mem[:48], mem[1:], append(slices.Clone(mem), 0), append(slices.Clone(mem), mem...)}
	return append(list, make([]int, 48), make([]int, 50), make([]int, 64), make([]int, 1000))
}

func isAnyValue(n int) bool { return n >= -1000000 && n <= 1000000 }

// wantedMemOk decides by the text of the document; words are the control words of controlsByWord.
func wantedMemOk(p impl.Program, mem []int, words map[int]controlParts) bool {
	if !wantedProgramOk(p) || len(mem) != 49 {
		return false
	}
	c, ok := words[mem[8]]
	if !ok || c.task >= len(p.Tasks) {
		return false
	}
	values := slices.Concat(mem[0:8], mem[25:25+c.tail])
	for i := range c.count {
		if mem[9+2*i] < 0 || mem[9+2*i] > 7 {
			return false
		}
		values = append(values, mem[10+2*i])
	}
	return !slices.ContainsFunc(values, func(n int) bool { return !isAnyValue(n) })
}

func checkPack(t *testing.T, c controlParts, want int) {
	t.Helper()
	if got := impl.PackControl(c.task, c.count, c.tail); got != want {
		t.Errorf("PackControl(%d, %d, %d) = %d; want %d", c.task, c.count, c.tail, got, want)
	}
}

func checkUnpack(t *testing.T, word int, want controlParts) {
	t.Helper()
	task, count, tail := impl.UnpackControl(word)
	if got := (controlParts{task, count, tail}); got != want {
		t.Errorf("UnpackControl(%d) = %v; want %v", word, got, want)
	}
}

func checkNoControl(t *testing.T, word int) {
	t.Helper()
	checkUnpack(t, word, controlParts{-1, -1, -1})
}

func checkMemOk(t *testing.T, p impl.Program, mem []int, want bool) {
	t.Helper()
	if got := impl.MemOk(p, mem); got != want {
		t.Errorf("MemOk of %d tasks and %v = %v", len(p.Tasks), mem, got)
	}
}

func checkMemVars(t *testing.T, mem []int, want []int) {
	t.Helper()
	if got := impl.MemVars(mem); !slices.Equal(got, want) {
		t.Errorf("MemVars(%v) = %v; want %v", mem, got, want)
	}
}

func checkMemSent(t *testing.T, mem []int, want []int) {
	t.Helper()
	if got := impl.MemSent(mem); !slices.Equal(got, want) {
		t.Errorf("MemSent(%v) = %v; want %v", mem, got, want)
	}
}

// tasksOfEachNumber are programs of 1 to MaxTasks tasks, by their number.
func tasksOfEachNumber() [7]impl.Program {
	list := [7]impl.Program{}
	for n := 1; n <= 6; n++ {
		list[n] = programLogging(slices.Repeat([]int{n}, n)...)
	}
	return list
}

func TestMemoryConstants(t *testing.T) {
	got := []int{impl.MaxLog, impl.MaxBox, impl.ControlAt, impl.LogAt, impl.BoxAt, impl.MemWords}
	if !slices.Equal(got, []int{8, 24, 8, 9, 25, 49}) {
		t.Error("the constants differ from the document:", got)
	}
}

func TestPackControl(t *testing.T) {
	for _, c := range []struct {
		parts controlParts
		want  int
	}{
		{controlParts{0, 0, 0}, 0}, {controlParts{1, 0, 0}, 1}, {controlParts{5, 0, 0}, 5}, {controlParts{0, 1, 0}, 8}, {controlParts{0, 8, 0}, 64}, {controlParts{0, 0, 1}, 128}, {controlParts{0, 0, 24}, 3072},
		{controlParts{0, 1, 1}, 136}, {controlParts{5, 8, 0}, 69}, {controlParts{5, 0, 24}, 3077}, {controlParts{0, 8, 24}, 3136}, {controlParts{5, 8, 24}, 3141}, {controlParts{3, 2, 7}, 915}, {controlParts{4, 7, 23}, 3004},
	} {
		checkPack(t, c.parts, c.want)
		checkUnpack(t, c.want, c.parts)
	}
}

// Each part from far below its range to far above it, also all of them outside at once.
func TestPackControlOfEachPart(t *testing.T) {
	for task := -9; task <= 17; task++ {
		for count := -17; count <= 33; count++ {
			for tail := -26; tail <= 50; tail++ {
				c, want := controlParts{task, count, tail}, -1
				if inRange(c) {
					want = wantedWord(c)
				}
				checkPack(t, c, want)
			}
		}
	}
}

func TestPackControlOutsideOneRange(t *testing.T) {
	for _, c := range greatControls() {
		for _, n := range append([]int{-1, -2, -8, 100, 255, 256, 1 << 57, 1 << 60, 1 << 61, -(1 << 57), -(1 << 60)}, farNumbers()...) {
			checkPack(t, controlParts{n, c.count, c.tail}, -1)
			checkPack(t, controlParts{c.task, n, c.tail}, -1)
			checkPack(t, controlParts{c.task, c.count, n}, -1)
			checkPack(t, controlParts{n, n, n}, -1)
		}
		checkPack(t, controlParts{6, c.count, c.tail}, -1)
		checkPack(t, controlParts{7, c.count, c.tail}, -1)
		checkPack(t, controlParts{8, c.count, c.tail}, -1)
		checkPack(t, controlParts{c.task, 9, c.tail}, -1)
		checkPack(t, controlParts{c.task, 16, c.tail}, -1)
		checkPack(t, controlParts{c.task, c.count, 25}, -1)
	}
	// Without the ranges, these would have the words of other tasks, counts and tails.
	checkPack(t, controlParts{13, 0, 0}, -1)
	checkPack(t, controlParts{-3, 1, 0}, -1)
	checkPack(t, controlParts{0, 17, 0}, -1)
	checkPack(t, controlParts{0, -16, 1}, -1)
	checkPack(t, controlParts{7, -1, 0}, -1)
	checkPack(t, controlParts{-1, 0, 0}, -1)
}

// Promise 9: control words can be unpacked, and no two of them are the same.
func TestControlWordsCanBeUnpacked(t *testing.T) {
	seen := map[int]controlParts{}
	for _, c := range allControls() {
		word := impl.PackControl(c.task, c.count, c.tail)
		if other, ok := seen[word]; ok {
			t.Errorf("%v and %v both have the word %d", c, other, word)
		}
		seen[word] = c
		checkPack(t, c, wantedWord(c))
		checkUnpack(t, word, c)
	}
	if len(seen) != 6*9*25 {
		t.Errorf("there are %d control words", len(seen))
	}
}

func TestUnpackControlOfEachWord(t *testing.T) {
	words := controlsByWord()
	for word := -20000; word <= 20000; word++ {
		if c, ok := words[word]; ok {
			checkUnpack(t, word, c)
		} else {
			checkNoControl(t, word)
		}
	}
}

func TestUnpackControlOutsideOneRange(t *testing.T) {
	for _, word := range wrongWords() {
		checkNoControl(t, word)
	}
	for _, c := range greatControls() {
		for task := 6; task <= 7; task++ {
			checkNoControl(t, wantedWord(controlParts{task, c.count, c.tail}))
		}
		for count := 9; count <= 15; count++ {
			checkNoControl(t, wantedWord(controlParts{c.task, count, c.tail}))
		}
		for _, tail := range []int{25, 26, 31, 32, 49, 64, 128, 255, 256, 1 << 25, 1 << 50, -1, -2, -24, -25, -(1 << 50)} {
			checkNoControl(t, wantedWord(controlParts{c.task, c.count, tail}))
		}
		// The lower bits of these are a control word.
		for bit := 12; bit < 64; bit++ {
			checkNoControl(t, wantedWord(c)|1<<bit)
			checkNoControl(t, wantedWord(c)-1<<bit)
		}
		checkNoControl(t, -1-wantedWord(c))
	}
}

func TestMemNew(t *testing.T) {
	lists := append(variedVars(), slices.Repeat([]int{1000000}, 8), slices.Repeat([]int{-1000000}, 8), []int{0, 0, 0, 0, 0, 0, 0, 1}, []int{1, 0, 0, 0, 0, 0, 0, 0})
	for k := range 8 {
		for _, n := range []int{1000000, -1000000, 999999, -999999, -1, 5} {
			lists = append(lists, withWord(distinctVars(), k, n))
		}
	}
	for _, vars := range lists {
		got, ok := impl.MemNew(vars)
		if want := append(slices.Clone(vars), make([]int, 41)...); !ok || !slices.Equal(got, want) {
			t.Errorf("MemNew(%v) = %v, %v; want %v", vars, got, ok, want)
		}
	}
}

func TestMemNewOfInvalidVars(t *testing.T) {
	lists := append(invalidVars(), make([]int, 7), make([]int, 9), make([]int, 49), filledMemory(controlParts{}))
	for k := range 8 {
		for _, n := range noValues() {
			lists = append(lists, withWord(make([]int, 8), k, n), withWord(slices.Repeat([]int{1000000}, 8), k, n))
		}
	}
	for _, vars := range lists {
		if got, ok := impl.MemNew(vars); ok || len(got) != 0 {
			t.Errorf("MemNew(%v) = %v, %v; want nil and false", vars, got, ok)
		}
	}
}

// Promise 9: a new memory is valid for every program, contains its variables, and nothing has been sent.
func TestNewMemoryIsValid(t *testing.T) {
	for _, p := range append(append(plainPrograms(), variedPrograms()[:300]...), programLogging(0), programLogging(8, 8, 8, 8, 8, 8)) {
		for _, vars := range variedVars() {
			mem, _ := impl.MemNew(vars)
			checkMemOk(t, p, mem, true)
			checkMemVars(t, mem, vars)
			checkMemSent(t, mem, nil)
		}
	}
	for _, p := range invalidPrograms() {
		mem, _ := impl.MemNew(distinctVars())
		checkMemOk(t, p, mem, false)
	}
}

// Each task, count and tail, with each number of tasks.
func TestMemOkOfEachControlWord(t *testing.T) {
	programs := tasksOfEachNumber()
	for _, c := range allControls() {
		mem := filledMemory(c)
		for n := 1; n <= 6; n++ {
			checkMemOk(t, programs[n], mem, c.task < n)
		}
		checkMemVars(t, mem, distinctVars())
		sent := []int{}
		for i := range c.tail {
			sent = append(sent, -200-i)
		}
		checkMemSent(t, mem, sent)
	}
}

func TestMemoryOfWrongControlWords(t *testing.T) {
	programs, words := tasksOfEachNumber(), wrongWords()
	for word := -3300; word <= 6700; word++ {
		words = append(words, word)
	}
	controls := controlsByWord()
	for _, word := range words {
		if _, ok := controls[word]; ok {
			continue
		}
		mem := withWord(make([]int, 49), 8, word)
		checkMemOk(t, programs[6], mem, false)
		checkMemOk(t, programs[1], mem, false)
		checkMemVars(t, mem, make([]int, 8))
		checkMemSent(t, mem, nil)
		checkMemSent(t, withWord(filledMemory(controlParts{5, 8, 24}), 8, word), nil)
	}
}

// The bounds of the values and of the numbers of variables, everywhere at once.
func TestMemOkOfBounds(t *testing.T) {
	p := programLogging(0, 0, 0, 0, 0, 0)
	for _, c := range greatControls() {
		for _, value := range []int{-1000000, 1000000, 0} {
			for _, variable := range []int{0, 7} {
				mem := slices.Repeat([]int{value}, 49)
				mem[8] = wantedWord(c)
				for i := range 8 {
					// All entries may be for the same variable, and for one that no task logs.
					mem[9+2*i] = variable
				}
				checkMemOk(t, p, mem, true)
				checkMemVars(t, mem, slices.Repeat([]int{value}, 8))
				checkMemSent(t, mem, slices.Repeat([]int{value}, c.tail))
			}
		}
	}
}

func TestMemOkOfWrongVariables(t *testing.T) {
	for _, p := range []impl.Program{programLogging(0), programLogging(8, 2), programLogging(1, 1, 1, 1, 1, 1)} {
		for k := range 8 {
			for _, n := range noValues() {
				checkMemOk(t, p, withWord(make([]int, 49), k, n), false)
				checkMemOk(t, p, withWord(filledMemory(controlParts{0, 8, 24}), k, n), false)
			}
		}
	}
}

// Entries count up to the count, and not behind it.
func TestMemOkOfLogEntries(t *testing.T) {
	p := programLogging(3, 3)
	for count := range 9 {
		for i := range 8 {
			for _, tail := range []int{0, 24} {
				mem := filledMemory(controlParts{1, count, tail})
				for _, k := range append(noVariables(), 1000001) {
					checkMemOk(t, p, withWord(mem, 9+2*i, k), i >= count)
				}
				for _, n := range noValues() {
					checkMemOk(t, p, withWord(mem, 10+2*i, n), i >= count)
				}
				for k := range 8 {
					checkMemOk(t, p, withWord(mem, 9+2*i, k), true)
				}
				for _, n := range []int{-1000000, 1000000, -1, 8} {
					checkMemOk(t, p, withWord(mem, 10+2*i, n), true)
				}
			}
		}
	}
}

// Outbox words count up to the tail, and not behind it.
func TestMemOkOfOutboxWords(t *testing.T) {
	p := programLogging(3, 3)
	for tail := range 25 {
		for i := range 24 {
			mem := filledMemory(controlParts{1, 8, tail})
			for _, n := range noValues() {
				checkMemOk(t, p, withWord(mem, 25+i, n), i >= tail)
			}
			for _, n := range []int{-1000000, 1000000, 0} {
				checkMemOk(t, p, withWord(mem, 25+i, n), true)
			}
		}
	}
}

// Each word by another one, against the document read a second time.
func TestMemOkOfChangedWords(t *testing.T) {
	programs, words := tasksOfEachNumber(), controlsByWord()
	numbers := slices.Concat(noValues(), wrongWords(), []int{0, 1, 5, 7, 8, 9, 64, 69, 128, 136, 3072, 3077, 3141, 1000000, -1000000})
	for i, c := range greatControls() {
		for at := range 49 {
			for _, n := range numbers {
				p, mem := programs[1+(i+at)%6], withWord(filledMemory(c), at, n)
				checkMemOk(t, p, mem, wantedMemOk(p, mem, words))
			}
		}
	}
}

// Memories whose words follow a fixed rule, with one to six tasks; about half of them are valid.
func TestMemOkOfManyMemories(t *testing.T) {
	programs, words, next := tasksOfEachNumber(), controlsByWord(), chooser(9)
	valid := 0
	for range 20000 {
		mem := filledMemory(controlParts{next(6), next(9), next(25)})
		for range next(3) {
			at := next(49)
			mem[at] = []int{0, 3, 7, 8, -1, 1000000, 1000001, -1000000, -1000001, next(4000)}[next(10)]
		}
		p := programs[1+next(6)]
		want := wantedMemOk(p, mem, words)
		if want {
			valid++
		}
		checkMemOk(t, p, mem, want)
	}
	if valid < 4000 || valid > 16000 {
		t.Errorf("%d memories of this test are valid", valid)
	}
}

func TestMemoryOfWrongSizes(t *testing.T) {
	for _, mem := range wrongSizes() {
		checkMemOk(t, programLogging(1, 1), mem, false)
		checkMemVars(t, mem, nil)
		checkMemSent(t, mem, nil)
	}
	for size := range 120 {
		mem := make([]int, size)
		checkMemOk(t, programLogging(1, 1), mem, size == 49)
		if got := impl.MemVars(mem); (len(got) == 8) != (size == 49) {
			t.Errorf("MemVars of %d words = %v", size, got)
		}
	}
}

func TestMemoryOfInvalidPrograms(t *testing.T) {
	for _, p := range invalidPrograms() {
		for _, c := range []controlParts{{0, 0, 0}, {0, 8, 24}, {1, 1, 1}, {5, 0, 3}} {
			checkMemOk(t, p, filledMemory(c), false)
		}
	}
	for _, p := range plainPrograms() {
		checkMemOk(t, p, filledMemory(controlParts{0, 3, 4}), true)
	}
}

// The variables do not depend on any other word.
func TestMemVarsOfAnyWords(t *testing.T) {
	for _, n := range append(noValues(), wrongWords()...) {
		checkMemVars(t, slices.Repeat([]int{n}, 49), slices.Repeat([]int{n}, 8))
		for at := range 49 {
			mem := withWord(filledMemory(controlParts{2, 3, 4}), at, n)
			checkMemVars(t, mem, mem[0:8])
		}
	}
}

// What was sent depends on the control word and the outbox alone, and its words need be no values.
func TestMemSentOfAnyWords(t *testing.T) {
	for _, n := range append(noValues(), wrongWords()...) {
		for _, c := range greatControls() {
			mem := slices.Repeat([]int{n}, 49)
			mem[8] = wantedWord(c)
			checkMemSent(t, mem, slices.Repeat([]int{n}, c.tail))
		}
		for at := range 49 {
			if at != 8 {
				mem := withWord(filledMemory(controlParts{5, 8, 13}), at, n)
				checkMemSent(t, mem, mem[25:38])
			}
		}
	}
}

func TestMemSentOfFullOutbox(t *testing.T) {
	mem := filledMemory(controlParts{4, 2, 24})
	mem[25], mem[48] = 1000000, -1000000
	if got := impl.MemSent(mem); len(got) != 24 || got[0] != 1000000 || got[1] != -201 || got[23] != -1000000 {
		t.Errorf("MemSent(%v) = %v", mem, got)
	}
	mem[8] = impl.PackControl(4, 2, 0)
	checkMemSent(t, mem, nil)
	mem[8] = impl.PackControl(4, 2, 1)
	checkMemSent(t, mem, []int{1000000})
}

// spoil changes all words that can be reached from a result.
func spoil(list []int) {
	list = list[:cap(list)]
	for i := range list {
		list[i] = -77
	}
}

func TestMemoryResultsAreNewMemory(t *testing.T) {
	for _, c := range greatControls() {
		mem, vars := filledMemory(c), distinctVars()
		keptVars, keptSent := impl.MemVars(mem), impl.MemSent(mem)
		keptNew, _ := impl.MemNew(vars)
		for range 3 {
			again, _ := impl.MemNew(vars)
			spoil(again)
			spoil(impl.MemVars(mem))
			spoil(impl.MemSent(mem))
		}
		want := filledMemory(c)
		if !slices.Equal(mem, want) || !slices.Equal(vars, distinctVars()) {
			t.Errorf("changing a result changes %v or %v", mem, vars)
		}
		if !slices.Equal(keptVars, distinctVars()) || !slices.Equal(keptSent, want[25:25+c.tail]) || !slices.Equal(keptNew, append(distinctVars(), make([]int, 41)...)) {
			t.Errorf("results share memory with later ones: %v, %v and %v", keptVars, keptSent, keptNew)
		}
		spoil(mem)
		spoil(vars)
		if !slices.Equal(keptVars, distinctVars()) || !slices.Equal(keptSent, want[25:25+c.tail]) || !slices.Equal(keptNew[:8], distinctVars()) {
			t.Errorf("results share memory with an argument: %v, %v and %v", keptVars, keptSent, keptNew)
		}
	}
}

// Neither the arguments nor what lies behind them is written.
func TestMemoriesAreNotChanged(t *testing.T) {
	lists := wrongSizes()
	for _, c := range greatControls() {
		lists = append(lists, filledMemory(c), withWord(filledMemory(c), 8, 6), withWord(filledMemory(c), 3, 1000001))
	}
	for _, list := range append(lists, variedVars()...) {
		whole := append(slices.Clone(list), filledMemory(controlParts{1, 2, 3})...)
		before, p := slices.Clone(whole), programLogging(1, 2)
		given := whole[:len(list)]
		impl.MemOk(p, given)
		impl.MemVars(given)
		impl.MemSent(given)
		impl.MemNew(given)
		if !slices.Equal(whole, before) || !sameProgram(p, programLogging(1, 2)) {
			t.Errorf("%v was changed to %v, or its program", before, whole)
		}
	}
	for _, p := range append(plainPrograms(), invalidPrograms()[:200]...) {
		whole := cloneProgram(p)
		whole.Tasks = append(whole.Tasks, taskLogging(8), taskOf("?"))
		before := cloneProgram(whole)
		impl.MemOk(impl.Program{Tasks: whole.Tasks[:len(p.Tasks)]}, filledMemory(controlParts{0, 1, 2}))
		if !sameProgram(whole, before) {
			t.Errorf("the program %v was changed to %v", before, whole)
		}
	}
}
