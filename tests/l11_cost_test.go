package tests

import (
	"math"
	"slices"
	"strings"
	"testing"

	"loop.example/g00983/impl"
)

// wantedCost is the list of the document for a valid statement.
func wantedCost(kind int) int {
	switch kind {
	case 1:
		return 2
	case 2:
		return 5
	case 3:
		return 4
	case 4, 5:
		return 1
	}
	return 0
}

// wantedCount is the number of writes for the variable k in a valid task that logs these variables.
func wantedCount(log []int, k int) int {
	switch {
	case k < 0 || k > 7:
		return 0
	case slices.Contains(log, k):
		return 4
	}
	return 1
}

// wrongAmounts are numbers of steps or writes that are outside the range.
func wrongAmounts() []int {
	list := []int{-1, -2, -999999, -1000001, 1000001, 1000002, 2000000, 1<<62 + 1}
	return slices.DeleteFunc(append(list, farNumbers()...), func(n int) bool { return n == 1000000 })
}

func someAmounts() []int {
	return []int{0, 1, 2, 3, 4, 7, 10, 99, 1000, 65536, 333333, 500000, 999998, 999999, 1000000}
}

func checkCost(t *testing.T, s impl.Stmt, want int) {
	t.Helper()
	if got := impl.StmtCost(s); got != want {
		t.Errorf("StmtCost(%v) = %d; want %d", s, got, want)
	}
}

func checkCount(t *testing.T, task impl.Task, k, want int) {
	t.Helper()
	if got := impl.WriteCount(task, k); got != want {
		t.Errorf("WriteCount(%v, %d) = %d; want %d", task, k, got, want)
	}
}

// checkCounts expects that the task is valid and logs these variables.
func checkCounts(t *testing.T, task impl.Task, log []int) {
	t.Helper()
	for k := range 8 {
		checkCount(t, task, k, wantedCount(log, k))
		if got := impl.WriteCount(task, k); (got == 4) != impl.NeedsLog(task, k) || (got == 4) != impl.HasVar(impl.MustLog(task), k) {
			t.Errorf("WriteCount(%v, %d) = %d; it must log %v", task, k, got, impl.MustLog(task))
		}
	}
	for _, k := range noVariables() {
		checkCount(t, task, k, 0)
	}
}

// checkNoCounts expects what the chapter states for a task that is not valid.
func checkNoCounts(t *testing.T, task impl.Task) {
	t.Helper()
	for k := range 8 {
		checkCount(t, task, k, 0)
	}
	for _, k := range noVariables() {
		checkCount(t, task, k, 0)
	}
}

// checkTaskCounts compares with the document read a second time, and accepts any task.
func checkTaskCounts(t *testing.T, task impl.Task) {
	t.Helper()
	if wantedProgramOk(programOfTasks(task)) {
		checkCounts(t, task, wantedLog(task))
	} else {
		checkNoCounts(t, task)
	}
}

func checkRecovery(t *testing.T, count, want int) {
	t.Helper()
	if got := impl.RecoveryCost(count); got != want {
		t.Errorf("RecoveryCost(%d) = %d; want %d", count, got, want)
	}
}

func checkEnergy(t *testing.T, steps, writes, want int) {
	t.Helper()
	if got := impl.EnergyFor(steps, writes); got != want {
		t.Errorf("EnergyFor(%d, %d) = %d; want %d", steps, writes, got, want)
	}
}

func TestCostConstants(t *testing.T) {
	got := []int{impl.CostSet, impl.CostSense, impl.CostSend, impl.CostTest, impl.CostWrite}
	if !slices.Equal(got, []int{2, 5, 4, 1, 3}) {
		t.Error("a constant of chapter 11 differs from the document:", got)
	}
}

func TestStmtCost(t *testing.T) {
	for _, c := range []struct {
		s    impl.Stmt
		want int
	}{
		{impl.Stmt{Kind: impl.StSet, Var: 1, E: impl.Expr{Op: 1, A: -2, B: 1}}, 2}, {impl.Stmt{Kind: impl.StSet, Var: 0, E: impl.Expr{Op: 7, A: 0, B: 999}}, 2},
		{impl.Stmt{Kind: impl.StSense}, 5}, {impl.Stmt{Kind: impl.StSense, Var: 7, N: 3}, 5}, {impl.Stmt{Kind: impl.StSense, Var: 3}, 5}, {impl.Stmt{Kind: impl.StSense, N: 2}, 5},
		{impl.Stmt{Kind: impl.StSend, E: impl.Expr{Op: 4, A: 10, B: -1}}, 4}, {impl.Stmt{Kind: impl.StSend, E: impl.Expr{Op: 1}}, 4},
		{impl.Stmt{Kind: impl.StIf, E: impl.Expr{Op: 6, A: -3, B: 500}}, 1}, {impl.Stmt{Kind: impl.StIf, E: impl.Expr{Op: 1}}, 1},
		{impl.Stmt{Kind: impl.StLoop, N: 1}, 1}, {impl.Stmt{Kind: impl.StLoop, N: 5}, 1}, {impl.Stmt{Kind: impl.StEnd}, 0}, {impl.Stmt{}, 0},
	} {
		checkCost(t, c.s, c.want)
	}
}

// The cost depends on the kind alone, whatever the fields contain.
func TestStmtCostOfAllValidStatements(t *testing.T) {
	for _, s := range append(validStmts(), plainStmts()...) {
		checkCost(t, s, wantedCost(s.Kind))
	}
	for n := leastOperand; n <= greatestOperand; n++ {
		for _, e := range []impl.Expr{{Op: 1, A: n, B: -1}, {Op: 7, A: 999, B: n}, {Op: 4, A: n, B: n}} {
			checkCost(t, impl.Stmt{Kind: impl.StSet, Var: 3, E: e}, 2)
			checkCost(t, impl.Stmt{Kind: impl.StSend, E: e}, 4)
			checkCost(t, impl.Stmt{Kind: impl.StIf, E: e}, 1)
		}
	}
}

// An unknown kind, a field that the kind does not use, and a field that is out of its range.
func TestStmtCostOfInvalidStatements(t *testing.T) {
	for _, s := range invalidStmts() {
		checkCost(t, s, 0)
	}
	for _, s := range []impl.Stmt{
		{Kind: 1}, {Kind: 3}, {Kind: 4}, {Kind: 5}, {Kind: 7}, {Kind: -1}, {Kind: 1, Var: 8, E: exprReading("")}, {Kind: 1, Var: -1, E: exprReading("")}, {Kind: 1, N: 1, E: exprReading("")},
		{Kind: 2, Var: 8}, {Kind: 2, Var: -1}, {Kind: 2, N: 4}, {Kind: 2, N: -1}, {Kind: 2, E: exprReading("")}, {Kind: 3, E: impl.Expr{Op: 8}}, {Kind: 3, Var: 1, E: exprReading("")},
		{Kind: 4, E: impl.Expr{Op: 1, A: 1000}}, {Kind: 4, E: impl.Expr{Op: 1, B: -9}}, {Kind: 4, N: 1, E: exprReading("")}, {Kind: 5, N: 6}, {Kind: 5, N: -1}, {Kind: 5, N: 2, Var: 1}, {Kind: 6, N: 1}, {Kind: 6, Var: 1}, {Kind: 6, E: exprReading("")},
	} {
		checkCost(t, s, 0)
	}
}

// Small numbers in all fields at once, against the document read a second time.
func TestStmtCostOfAllSmallFields(t *testing.T) {
	exprs := []impl.Expr{{}, {Op: 1}, {A: 1}, {B: 1}, {Op: 7, A: -8, B: -8}, {Op: 8, A: 1, B: 1}}
	for kind := -1; kind <= 8; kind++ {
		for n := range 100 {
			for _, e := range exprs {
				s := impl.Stmt{Kind: kind, Var: n/10 - 1, N: n%10 - 1, E: e}
				if wantedStmtOk(s) {
					checkCost(t, s, wantedCost(kind))
				} else {
					checkCost(t, s, 0)
				}
			}
		}
	}
}

func TestWriteCount(t *testing.T) {
	for _, c := range []struct{ words, next, log string }{
		{"3=", "", ""}, {"3~", "3", ""}, {"3~ !3", "", ""}, {"!3", "", ""}, {"", "3", ""}, {"4=3", "", ""}, {"3= 3=3", "", ""},
		{"3=3", "", "3"}, {"!3 3=", "", "3"}, {"!3 3~", "", "3"}, {"?3 . 3~", "", "3"}, {"4=3 3=", "", "3"}, {"?5 3= .", "", "3"}, {"?5 3~ .", "3", "3"}, {"?5 3= . 3=", "", ""}, {"?5 3= . 3=", "3", ""},
		{"*2 3= .", "", ""}, {"*2 3= !3 .", "", ""}, {"*2 !3 3= .", "", "3"}, {"*5 3=3 .", "", "3"}, {"*2 ?5 3= . .", "", "3"}, {"?5 *2 3= . .", "", "3"}, {"?5 *2 3= . . 3~", "", ""},
		{"0=0 7=7", "", "07"}, {"0~ 1=0 ?1 2= . 3=3", "2", "23"}, {"0=0 1=1 2=2 3=3 4=4 5=5 6=6 7=7", "", "01234567"}, {"0= 1= 2~ 3~ 4= 5= 6~ 7~", "07", ""}, {"0=0 1= 2=2 3= 4=4 5= 6=6 7=", "", "0246"},
	} {
		task := taskOfWords(c.words, c.next)
		checkCounts(t, task, varsOfDigits(c.log))
		checkTaskCounts(t, task)
	}
}

// Promise 11: each variable by itself, and then with another one that is read ahead of it, or written behind it, or decides a condition ahead of it.
func TestWriteCountOfEachVariable(t *testing.T) {
	for _, c := range []struct {
		words string
		want  int
	}{
		// Read before it is written.
		{"#=#", 4}, {"!# #=", 4}, {"!# #~", 4}, {"?# . #=", 4}, {"?# #= .", 4}, {"!# #= #= #=", 4},
		// Written first.
		{"#=", 1}, {"#~", 1}, {"#= !#", 1}, {"#~ #=#", 1}, {"#= ?# #~ .", 1}, {"#= ? #=# .", 1},
		// Written in a condition only.
		{"? #= .", 4}, {"? #~ .", 4}, {"? #= !# .", 4}, {"? #= . ? #~ .", 4}, {"? ? ? #= . . .", 4}, {"? *2 #= . .", 4}, {"*2 ? #~ . .", 4}, {"? #= . #=", 1},
		// Written within a loop.
		{"*3 #= .", 1}, {"*1 #~ . !#", 1}, {"*2 *3 #= . .", 1}, {"*3 #=# .", 4}, {"*3 !# #~ .", 4}, {"*3 #= #=# .", 1},
		// Only read, and not used at all.
		{"!#", 1}, {"?# .", 1}, {"*2 !# .", 1}, {"? !# .", 1}, {"", 1}, {"*2 .", 1}, {"!", 1},
	} {
		for k := range 8 {
			digit, log := string(rune('0'+k)), []int{}
			if c.want == 4 {
				log = []int{k}
			}
			words := strings.ReplaceAll(c.words, "#", digit)
			checkCount(t, taskOfWords(words, ""), k, c.want)
			checkCounts(t, taskOfWords(words, ""), log)
			for other := range 8 {
				name := string(rune('0' + other))
				checkTaskCounts(t, taskOfWords("!"+name+" "+words, name))
				checkTaskCounts(t, taskOfWords(words+" "+name+"="+name, digit))
				checkTaskCounts(t, taskOfWords("?"+name+" "+name+"="+digit+" . "+words, ""))
			}
		}
	}
}

func TestWriteCountOfOtherNumbers(t *testing.T) {
	for _, task := range []impl.Task{taskLogging(0), taskLogging(1), taskLogging(7), taskLogging(8), taskOfWords("", "3"), taskOfWords("? 7= .", "")} {
		for k := -1100; k <= 1100; k++ {
			checkCount(t, task, k, wantedCount(wantedLog(task), k))
		}
	}
	for _, c := range []struct{ k, want int }{{-1, 0}, {0, 4}, {6, 4}, {7, 1}, {8, 0}, {math.MinInt, 0}, {math.MaxInt, 0}, {1 << 32, 0}, {-8, 0}} {
		checkCount(t, taskLogging(7), c.k, c.want)
	}
}

func TestWriteCountOfTasksThatWriteNothing(t *testing.T) {
	for _, list := range [][]impl.Stmt{nil, {}, blockOfWords("3=3 !4")[:0], blockOfWords("3=3 !4")[2:], blockOfWords("!3"), blockOfWords("*2 ?3 . !7 . !0")} {
		for _, next := range []string{"", "3", "70", "44"} {
			checkCounts(t, impl.Task{Body: list, Next: exprReading(next)}, nil)
		}
		checkNoCounts(t, impl.Task{Body: list})
	}
	checkNoCounts(t, impl.Task{})
}

func TestWriteCountOfLongBlocks(t *testing.T) {
	for _, task := range append(variedTasks(), changedTasks()...) {
		checkTaskCounts(t, task)
	}
	for _, words := range []string{strings.Repeat("3=3 ", 24), strings.Repeat("3~ ", 24), strings.Repeat("? 3= . ", 8), strings.Repeat("3=3 ", 25), strings.Repeat("3~ ", 25)} {
		checkTaskCounts(t, taskOfWords(words, ""))
	}
	checkCount(t, taskOfWords(strings.Repeat("3=3 ", 24), ""), 3, 4)
	checkCount(t, taskOfWords(strings.Repeat("3=3 ", 25), ""), 3, 0)
}

func TestWriteCountOfAllShortLists(t *testing.T) {
	for _, list := range shortLists() {
		checkTaskCounts(t, impl.Task{Body: list, Next: exprReading("1")})
	}
}

func TestWriteCountOfInvalidBodies(t *testing.T) {
	for _, list := range invalidBodies() {
		for _, next := range []impl.Expr{exprReading(""), exprReading("24"), {}} {
			checkNoCounts(t, impl.Task{Body: list, Next: next})
		}
	}
	for _, words := range []string{"3=3 .", "? 3=3", ". ?", "*2 3=3 . .", "? ? ? ? 3=3 . . . .", "? *1 ? *1 . . . ."} {
		checkNoCounts(t, taskOfWords(words, ""))
	}
}

// The Body alone could be logged, but the task is not valid.
func TestWriteCountOfAnInvalidNext(t *testing.T) {
	for _, next := range append(invalidExprs(), impl.Expr{Op: 8, A: -3, B: -4}, impl.Expr{Op: 1, A: -9, B: -4}, impl.Expr{Op: 1, A: -4, B: 1000}) {
		for _, words := range []string{"", "3=3", "3=", "!3", "?5 3= .", "3= !4 ?5 2~ . !3 4~", "3=3 ."} {
			checkNoCounts(t, impl.Task{Body: blockOfWords(words), Next: next})
		}
	}
}

func TestWriteCountDoesNotChangeTheTask(t *testing.T) { checkBodiesAreKept(t, checkTaskCounts) }

func TestRecoveryCost(t *testing.T) {
	for count, want := range []int{0, 6, 9, 12, 15, 18, 21, 24, 27} {
		checkRecovery(t, count, want)
	}
	for count := -1100; count <= 1100; count++ {
		if count < 0 || count > 8 {
			checkRecovery(t, count, -1)
		}
	}
	for _, count := range append(farNumbers(), -1, 9) {
		checkRecovery(t, count, -1)
	}
}

// Promise 11: each restored variable costs a write, and an empty log costs nothing.
func TestEachRestoredVariableCostsAWrite(t *testing.T) {
	if got := impl.RecoveryCost(0); got != 0 {
		t.Errorf("an empty log costs %d", got)
	}
	for count := 1; count <= impl.MaxLog; count++ {
		checkRecovery(t, count, impl.EnergyFor(0, count+1))
		if count > 1 && impl.RecoveryCost(count)-impl.RecoveryCost(count-1) != impl.CostWrite {
			t.Errorf("restoring %d variables costs %d, and %d for one less", count, impl.RecoveryCost(count), impl.RecoveryCost(count-1))
		}
	}
}

func TestEnergyFor(t *testing.T) {
	for _, c := range []struct{ steps, writes, want int }{
		{0, 0, 0}, {1, 0, 2}, {0, 1, 3}, {1, 1, 5}, {2, 3, 13}, {3, 2, 12}, {10, 0, 20}, {0, 10, 30}, {100, 1000, 3200}, {1000, 100, 2300},
		{1000000, 0, 2000000}, {0, 1000000, 3000000}, {1000000, 1000000, 5000000}, {1000000, 1, 2000003}, {1, 1000000, 3000002}, {999999, 999999, 4999995}, {123456, 654321, 2209875},
		{1000001, 0, -1}, {0, 1000001, -1}, {1000001, 1000001, -1}, {1000001, 1000000, -1}, {1000000, 1000001, -1},
		{-1, 0, -1}, {0, -1, -1}, {-1, -1, -1}, {-1, 1, -1}, {1, -1, -1}, {-1, 1000000, -1}, {1000000, -1, -1}, {-1, 1000001, -1}, {1000001, -1, -1}, {-3, 2, -1}, {3, -2, -1}, {6, -3, -1},
		{math.MinInt, 0, -1}, {0, math.MinInt, -1}, {math.MinInt, math.MinInt, -1}, {math.MaxInt, 0, -1}, {0, math.MaxInt, -1}, {math.MaxInt, math.MaxInt, -1}, {math.MaxInt, math.MinInt, -1}, {math.MinInt, math.MaxInt, -1},
	} {
		checkEnergy(t, c.steps, c.writes, c.want)
	}
}

func TestEnergyForOfManyAmounts(t *testing.T) {
	for _, steps := range someAmounts() {
		for _, writes := range someAmounts() {
			checkEnergy(t, steps, writes, steps+steps+writes+writes+writes)
		}
	}
}

func TestEnergyForOfWrongAmounts(t *testing.T) {
	for _, wrong := range wrongAmounts() {
		for _, right := range someAmounts() {
			checkEnergy(t, wrong, right, -1)
			checkEnergy(t, right, wrong, -1)
		}
		for _, other := range wrongAmounts() {
			checkEnergy(t, wrong, other, -1)
		}
	}
}

// assignment writes the variable k as the document says, behind the log entries that the memory has. It needs a task 0.
func assignment(mem []int, k, value int, logged bool) []impl.Write {
	_, count, tail := impl.UnpackControl(mem[8])
	list := []impl.Write{{At: k, Value: value}}
	if !logged {
		return list
	}
	entry := 9 + 2*count
	return append([]impl.Write{{At: entry, Value: k}, {At: entry + 1, Value: mem[k]}, {At: 8, Value: impl.PackControl(0, count+1, tail)}}, list...)
}

// restoring writes the old values of all entries, the last one first, and then clears the log.
func restoring(mem []int) []impl.Write {
	_, count, tail := impl.UnpackControl(mem[8])
	list := []impl.Write{}
	for i := count - 1; i >= 0; i-- {
		list = append(list, impl.Write{At: mem[9+2*i], Value: mem[10+2*i]})
	}
	if count == 0 {
		return list
	}
	return append(list, impl.Write{At: 8, Value: impl.PackControl(0, 0, tail)})
}

// Promise 11: what is counted is what a memory needs, so that the variables can be restored wherever the power fails.
func TestCountedWritesAreEnough(t *testing.T) {
	for i, task := range variedTasks()[:600] {
		p, log := programOfTasks(task), impl.MustLog(task)
		vars := variedVars()[i%8]
		mem, _ := impl.MemNew(vars)
		for _, k := range impl.MayWrite(task.Body) {
			list := assignment(mem, k, 500+k, impl.HasVar(log, k))
			if got := impl.WriteCount(task, k); got != len(list) || got != len(impl.TouchedWords(list)) {
				t.Errorf("WriteCount(%v, %d) = %d; the writes are %v", task, k, got, list)
			}
			for count := range len(list) + 1 {
				part := impl.ApplyWrites(mem, list, count)
				back := restoring(part)
				restored := impl.ApplyWrites(part, back, len(back))
				_, entries, _ := impl.UnpackControl(part[8])
				if !impl.MemOk(p, part) || impl.RecoveryCost(entries) != impl.EnergyFor(0, len(back)) {
					t.Errorf("%v after %d writes of %v: recovery of %d entries costs %d; the writes are %v", task, count, list, entries, impl.RecoveryCost(entries), back)
				}
				for _, v := range log {
					if restored[v] != vars[v] {
						t.Errorf("%v after %d writes of %v: the variable %d is %d", task, count, list, v, restored[v])
					}
				}
			}
			mem = impl.ApplyWrites(mem, list, len(list))
		}
		if _, count, _ := impl.UnpackControl(mem[8]); count != impl.LogRoom(p) {
			t.Errorf("%v logs %v, but the log has %d entries", task, log, count)
		}
	}
}
