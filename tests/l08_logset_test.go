package tests

import (
	"slices"
	"strings"
	"testing"

	"loop.example/g00983/impl"
)

func programOfTasks(tasks ...impl.Task) impl.Program { return impl.Program{Tasks: tasks} }

// wantedLog decides for each variable of a valid task, by the text of the document.
func wantedLog(task impl.Task) []int {
	partner, _ := partners(task.Body)
	may, must := wantedWrites(task.Body, partner)
	first, log := wantedFirst(task, partner), []int{}
	for k := range 8 {
		if slices.Contains(may, k) && (slices.Contains(first, k) || !slices.Contains(must, k)) {
			log = append(log, k)
		}
	}
	return log
}

func noVariables() []int {
	return append([]int{-1, -2, -3, -7, -8, -9, 8, 9, 16, 24, 100, 999, -1000, 1 << 32, 1<<32 + 3}, farNumbers()...)
}

func checkNeeds(t *testing.T, task impl.Task, log []int) {
	t.Helper()
	for k := range 8 {
		if got := impl.NeedsLog(task, k); got != slices.Contains(log, k) {
			t.Errorf("NeedsLog(%v, %d) = %v; must log %v", task, k, got, log)
		}
	}
	for _, k := range noVariables() {
		if impl.NeedsLog(task, k) {
			t.Errorf("NeedsLog(%v, %d) = true", task, k)
		}
	}
}

func checkRoom(t *testing.T, p impl.Program, want int) {
	t.Helper()
	if got := impl.LogRoom(p); got != want {
		t.Errorf("LogRoom(%v) = %d; want %d", p, got, want)
	}
}

func checkLog(t *testing.T, task impl.Task, log []int) {
	t.Helper()
	if got := impl.MustLog(task); !slices.Equal(got, log) {
		t.Errorf("MustLog(%v) = %v; want %v", task, got, log)
	}
	if got := impl.IsRestartable(task); got != (len(log) == 0) {
		t.Errorf("IsRestartable(%v) = %v; must log %v", task, got, log)
	}
	checkNeeds(t, task, log)
	checkRoom(t, programOfTasks(task), len(log))
}

// checkNoLog expects what the chapter states for a task that is not valid.
func checkNoLog(t *testing.T, task impl.Task) {
	t.Helper()
	if got := impl.MustLog(task); len(got) != 0 {
		t.Errorf("MustLog(%v) = %v; want nil", task, got)
	}
	if impl.IsRestartable(task) {
		t.Errorf("IsRestartable(%v) = true", task)
	}
	checkNeeds(t, task, nil)
	checkRoom(t, programOfTasks(task), -1)
}

// checkTaskLog compares with the document read a second time, and accepts any task.
func checkTaskLog(t *testing.T, task impl.Task) {
	t.Helper()
	if wantedProgramOk(programOfTasks(task)) {
		checkLog(t, task, wantedLog(task))
	} else {
		checkNoLog(t, task)
	}
}

// taskLogging logs the variables ahead of the given one, and writes all others without reading them.
func taskLogging(count int) impl.Task {
	words := []string{}
	for k := range 8 {
		digit := string(rune('0' + k))
		if k < count {
			words = append(words, digit+"="+digit)
		} else {
			words = append(words, digit+"~")
		}
	}
	return taskOfWords(strings.Join(words, " "), "07")
}

func programLogging(counts ...int) impl.Program {
	p := impl.Program{}
	for _, count := range counts {
		p.Tasks = append(p.Tasks, taskLogging(count))
	}
	return p
}

// variedPrograms take the tasks of variedTasks one after the other.
func variedPrograms() []impl.Program {
	list, tasks := []impl.Program{}, variedTasks()
	for len(tasks) > 0 {
		n := min(1+len(list)%6, len(tasks))
		list, tasks = append(list, programOfTasks(tasks[:n]...)), tasks[n:]
	}
	return list
}

// varsAfter applies what has been written.
func varsAfter(vars []int, deeds []deed) []int {
	vars = slices.Clone(vars)
	for _, d := range deeds {
		if d.kind == impl.StSet || d.kind == impl.StSense {
			vars[d.variable] = d.value
		}
	}
	return vars
}

func TestMustLog(t *testing.T) {
	for _, c := range []struct{ words, next, log string }{
		{"3=", "", ""}, {"3~", "", ""}, {"!3", "", ""}, {"?3 .", "", ""}, {"*3 .", "", ""}, {"3= 3=", "", ""}, {"3= 4~ 5=", "", ""}, {"3= 4~ 5=", "34", ""}, {"4=3", "", ""}, {"4=35", "", ""},
		{"!3 3=", "", "3"}, {"!3 3~", "", "3"}, {"!43 3~", "", "3"}, {"?3 . 3=", "", "3"}, {"?3 . 3~", "", "3"}, {"4=3 3=", "", "3"}, {"4=3 3=4", "", "3"}, {"!4 3=", "", ""}, {"!3 !4 3= 4=", "", "34"},
		{"3= !3", "", ""}, {"3~ !3", "", ""}, {"3= ?3 .", "", ""}, {"3= 4=3", "", ""}, {"3~ 4=33", "", ""}, {"3= 4=3 3=4", "", ""}, {"3= !3 3=3", "", ""},
		{"3=3", "", "3"}, {"3=33", "", "3"}, {"3=43", "", "3"}, {"3=34", "", "3"}, {"3=3", "3", "3"}, {"3= 3=3", "", ""}, {"3~ 3=3", "", ""}, {"3=3 3=", "", "3"}, {"3=3 3~", "", "3"}, {"3=4 4=3", "", "4"}, {"3=4 4=4", "", "4"},
		{"", "3", ""}, {"!4", "3", ""}, {"3=", "3", ""}, {"3~", "3", ""}, {"4=", "3", ""}, {"4=4", "3", "4"}, {"?5 3= .", "3", "3"}, {"?5 3~ .", "35", "3"}, {"?5 3= . 3=", "3", ""}, {"3= ?5 3= .", "3", ""}, {"4=3", "3", ""},
		{"?5 3= .", "", "3"}, {"?5 3~ .", "", "3"}, {"? 3= .", "", "3"}, {"?5 3= 4~ .", "", "34"}, {"?5 3= !3 .", "", "3"}, {"?5 !3 3= .", "", "3"}, {"?5 3=3 .", "", "3"}, {"?3 3= .", "", "3"}, {"?5 5= .", "", "5"}, {"5= ?5 5= .", "", ""},
		{"?5 3= . 3=", "", ""}, {"?5 3~ . 3~", "", ""}, {"?5 3= !3 . 3=", "", ""}, {"?5 !3 3= . 3=", "", "3"}, {"?5 3= . 3=3", "", "3"}, {"?5 3= . !3 3=", "", "3"}, {"?5 3= . 3= !3", "", ""}, {"?5 3= . ?6 !3 . 3=", "", "3"}, {"?5 !3 . 3=", "", "3"},
		{"?5 3= . ?5 3= .", "", "3"}, {"?5 3= . ?6 4= .", "", "34"}, {"3= ?5 3= .", "", ""}, {"3= ?5 !3 3= .", "", ""}, {"3= ?5 . ?6 4= .", "", "4"}, {"?5 3= . 4=", "", "3"}, {"4= ?5 3= .", "", "3"}, {"4= ?5 3= . 2=", "", "3"},
		{"*2 3= .", "", ""}, {"*5 3~ .", "", ""}, {"*2 3= !3 .", "", ""}, {"*2 !3 3= .", "", "3"}, {"*2 3=3 .", "", "3"}, {"*1 3=3 .", "", "3"}, {"*2 3= . !3 3=3", "", ""}, {"*2 4=3 3= .", "", "3"}, {"*2 3= . 4=", "34", ""}, {"*2 !3 . 3=", "", "3"}, {"3= *2 !3 3=3 .", "", ""},
		{"?5 *2 3= . .", "", "3"}, {"*2 ?5 3= . .", "", "3"}, {"*2 ?5 3= . 4= .", "", "3"}, {"?5 *2 3= . . 3=", "", ""}, {"*2 ?5 3= . 3= .", "", ""}, {"*2 ?5 3= . . 3=", "", ""}, {"*2 ?5 3= . !3 .", "", "3"}, {"*2 3= ?5 3=3 . .", "", ""},
		{"?6 *2 3= . 4= . 5=", "", "34"}, {"?5 *2 3= . 4= . 5=", "", "345"}, {"*2 4= ?6 3= . . 5=", "", "3"}, {"?5 ?6 3= . 4= . 3=", "", "4"}, {"?5 ?6 3= . 3= .", "", "3"}, {"?5 3= ?6 3= . . 3=", "", ""}, {"*2 *3 3= . . 4=", "", ""}, {"*2 *3 3=4 . . 4=", "", "4"},
		{"?7 *2 ?6 6= . 5= . 4= . 3=", "", "456"}, {"*2 ?7 *2 6= . 5= . 4= . 3=", "", "56"}, {"*2 *2 ?7 6= . 5= . 4= . 3=", "", "6"}, {"*2 *3 *4 6~ . . .", "", ""}, {"?0 ?0 ?0 6= . . . 2=", "", "6"}, {"?0 ?0 ?0 . . 6= . 2=", "", "6"}, {"?0 ?0 . 5= ?0 . 6= . 2=", "", "56"},
		{"?0 1= . *2 2= . ?0 3= . *3 4~ .", "", "13"}, {"?0 . 1= *3 . 2= ?0 *1 . . 3=", "", ""}, {"0= ?0 1= . *2 2=2 . ?0 3= . *3 4~ . !4", "1", "123"},
	} {
		task := taskOfWords(c.words, c.next)
		if got := impl.MustLog(task); !slices.Equal(got, varsOfDigits(c.log)) {
			t.Errorf("%s, next %q: MustLog = %v; want %s", c.words, c.next, got, c.log)
		}
		checkLog(t, task, varsOfDigits(c.log))
		checkTaskLog(t, task)
	}
}

func TestMustLogOfManyVariables(t *testing.T) {
	for _, c := range []struct{ words, next, log string }{
		{"0=0", "", "0"}, {"7=7", "", "7"}, {"7=7 0=0", "", "07"}, {"? 0~ . ? 7= .", "", "07"}, {"? 7~ 0= .", "07", "07"}, {"0= 7~", "07", ""}, {"!7 0= 7=", "", "7"}, {"!0 0= 7=", "", "0"},
		{"0=0 1=1 2=2 3=3 4=4 5=5 6=6 7=7", "", "01234567"}, {"7=7 6=6 5=5 4=4 3=3 2=2 1=1 0=0", "07", "01234567"}, {"? 5= 0~ 2= 7~ 4~ 3~ 1= 6= .", "", "01234567"}, {"!76 !54 !32 !10 0= 1~ 2= 3~ 4= 5~ 6= 7~", "", "01234567"},
		{"7=7 ? 6= . !5 5~ ? 4~ . 3=3 ? 2= . !1 1= 0=0", "", "01234567"}, {"0=1 1=2 2=3 3=4 4=5 5=6 6=7 7=0", "", "1234567"}, {"0= 1= 2~ 3~ 4= 5= 6~ 7~", "07", ""}, {"7~ 6~ 5~ 4~ 3~ 2~ 1~ 0~ ?0 7=0 0=7 .", "53", ""},
		{"0=0 1= 2=2 3= 4=4 5= 6=6 7=", "", "0246"}, {"0= ? 1= . 2= ? 3= . 4= ? 5= . 6= ? 7= .", "", "1357"}, {"!01 !34 0= 1= 2=", "", "01"}, {"!01 !23 1= 2= 4= 5=", "45", "12"}, {"!76 !54 !32 !10", "70", ""},
	} {
		task := taskOfWords(c.words, c.next)
		checkLog(t, task, varsOfDigits(c.log))
		checkTaskLog(t, task)
	}
}

// Each variable by itself, so that the first and the last one are like all others.
func TestMustLogOfEachVariable(t *testing.T) {
	for _, c := range []struct {
		words  string
		logged bool
	}{
		{"#=", false}, {"#~", false}, {"!#", false}, {"?# .", false}, {"", false}, {"#= !#", false}, {"#~ !#", false}, {"!# #=", true}, {"!# #~", true}, {"#=#", true}, {"#= #=#", false}, {"?# . #=", true},
		{"? #= .", true}, {"? #~ .", true}, {"?# #= .", true}, {"? #= . #=", false}, {"? #~ . #~", false}, {"#= ? #= .", false}, {"? #= . !# #=", true}, {"? #= !# .", true}, {"? #= !# . #~", false}, {"? #= . ? #= .", true}, {"#= ?# #=# .", false},
		{"*3 #= .", false}, {"*3 #~ . !#", false}, {"*3 !# #= .", true}, {"*3 #=# .", true}, {"? *2 #= . !# .", true}, {"*2 ? #~ . !# .", true}, {"*2 ? #= . #= .", false}, {"? ? ? #= . . .", true}, {"? ? ? #= . . . #~", false},
	} {
		for k := range 8 {
			digit, log := string(rune('0'+k)), []int{}
			if c.logged {
				log = []int{k}
			}
			words := strings.ReplaceAll(c.words, "#", digit)
			checkLog(t, taskOfWords(words, ""), log)
			for other := range 8 {
				checkLog(t, taskOfWords(words, digit+string(rune('0'+other))), log)
				checkTaskLog(t, taskOfWords(words+" !"+string(rune('0'+other))+digit, digit))
				checkTaskLog(t, taskOfWords("? "+string(rune('0'+other))+"="+digit+" . "+words, ""))
			}
		}
	}
}

// A condition counts as one that need not hold, even if it always does, and the times of a loop do not matter.
func TestMustLogDoesNotDependOnValues(t *testing.T) {
	end := impl.Stmt{Kind: impl.StEnd}
	for _, e := range append(validExprs(), constantExpr(1), constantExpr(999)) {
		inside := impl.Stmt{Kind: impl.StSense, Var: 4}
		list := []impl.Stmt{{Kind: impl.StIf, E: e}, inside, end}
		checkLog(t, impl.Task{Body: list, Next: constantExpr(0)}, []int{4})
		log := []int{}
		if slices.Contains(wantedReads(e), 4) {
			log = []int{4}
		}
		checkLog(t, impl.Task{Body: append(list, inside), Next: e}, log)
	}
	for n := 1; n <= 5; n++ {
		sense, set := impl.Stmt{Kind: impl.StSense, Var: 4, N: 3}, impl.Stmt{Kind: impl.StSet, Var: 6, E: exprReading("46")}
		list := []impl.Stmt{{Kind: impl.StLoop, N: n}, sense, set, end}
		checkLog(t, impl.Task{Body: list, Next: exprReading("46")}, []int{6})
	}
}

func TestMustLogOfEachExpression(t *testing.T) {
	for _, e := range validExprs() {
		for k := range 8 {
			log := []int{}
			if slices.Contains(wantedReads(e), k) {
				log = []int{k}
			}
			set, sense := impl.Stmt{Kind: impl.StSet, Var: k, E: e}, impl.Stmt{Kind: impl.StSense, Var: k}
			for _, list := range [][]impl.Stmt{{set}, {{Kind: impl.StSend, E: e}, sense}, {{Kind: impl.StIf, E: e}, {Kind: impl.StEnd}, sense}} {
				if got := impl.MustLog(impl.Task{Body: list, Next: e}); !slices.Equal(got, log) {
					t.Errorf("MustLog of %v = %v; want %v", list, got, log)
				}
			}
			if got := impl.MustLog(impl.Task{Body: []impl.Stmt{sense, set}, Next: e}); len(got) != 0 {
				t.Errorf("MustLog of %v behind a reading of the sensor = %v", set, got)
			}
		}
	}
}

func TestLogOfTasksThatWriteNothing(t *testing.T) {
	for _, list := range [][]impl.Stmt{nil, {}, blockOfWords("3=3 !4")[:0], blockOfWords("3=3 !4")[2:], blockOfWords("!3"), blockOfWords("?3 !4 ."), blockOfWords("*2 ?3 . !7 . !0")} {
		for _, next := range []string{"", "3", "70", "44"} {
			checkLog(t, impl.Task{Body: list, Next: exprReading(next)}, nil)
		}
		checkNoLog(t, impl.Task{Body: list})
	}
}

func TestLogOfTheLargestBlock(t *testing.T) {
	for _, c := range []struct{ words, next, log string }{
		{strings.Repeat("7= 6= 5= 4= 3= 2= 1= 0= ", 3), "07", ""},
		{strings.Repeat("7=7 6=6 5=5 4=4 3=3 2=2 1=1 0=0 ", 3), "", "01234567"},
		{strings.Repeat("? 0= . ", 8), "", "0"},
		{strings.Repeat("*5 0= . ", 8), "0", ""},
		{strings.Repeat("? ", 3) + strings.Repeat("0~ !0 ", 9) + strings.Repeat(". ", 3), "", "0"},
		{strings.Repeat("? . ", 12), "3", ""},
		{strings.Repeat("!3 ", 23) + "3=", "", "3"},
		{strings.Repeat("!4 ", 23) + "3=", "", ""},
		{"3~ " + strings.Repeat("!3 ", 22) + "3=3", "3", ""},
		{"? 3~ . " + strings.Repeat("!4 ", 20) + "3=", "", ""},
		{"? 3~ . " + strings.Repeat("!3 ", 20) + "3=", "", "3"},
	} {
		task := taskOfWords(c.words, c.next)
		if len(task.Body) != 24 {
			t.Fatalf("%s has %d statements", c.words, len(task.Body))
		}
		checkLog(t, task, varsOfDigits(c.log))
		checkTaskLog(t, task)
		task.Body = append(task.Body, stmtOfWord("3~"))
		checkNoLog(t, task)
	}
}

func TestLogOfInvalidBodies(t *testing.T) {
	nexts := append(invalidExprs()[:3], exprReading(""), exprReading("24"))
	for _, list := range invalidBodies() {
		for _, next := range nexts {
			checkNoLog(t, impl.Task{Body: list, Next: next})
		}
	}
}

// The Body alone could be logged, but the task is not valid.
func TestLogOfAnInvalidNext(t *testing.T) {
	for _, next := range append(invalidExprs(), impl.Expr{Op: 8, A: -3, B: -4}, impl.Expr{Op: 1, A: -9, B: -4}, impl.Expr{Op: 1, A: -4, B: 1000}) {
		for _, words := range []string{"", "3=3", "3=", "!3", "?5 3= .", "3= !4 ?5 2~ . !3 4~", "3= ? !4", "3=3 ."} {
			checkNoLog(t, impl.Task{Body: blockOfWords(words), Next: next})
		}
		checkNoLog(t, impl.Task{Body: []impl.Stmt{{Kind: 9}}, Next: next})
	}
	checkNoLog(t, impl.Task{})
}

func TestLogOfAllShortLists(t *testing.T) {
	for _, list := range shortLists() {
		checkTaskLog(t, impl.Task{Body: list, Next: exprReading("1")})
	}
}

func TestLogOfLongBlocks(t *testing.T) {
	sizes := map[int]bool{}
	for _, task := range append(variedTasks(), changedTasks()...) {
		checkTaskLog(t, task)
		sizes[len(impl.MustLog(task))] = true
	}
	for size := range 7 {
		if !sizes[size] {
			t.Errorf("no task of this test logs %d variables", size)
		}
	}
}

func TestNeedsLogOfOtherNumbers(t *testing.T) {
	for _, task := range []impl.Task{taskLogging(0), taskLogging(1), taskLogging(7), taskLogging(8), taskOfWords("", "3"), taskOfWords("? 7= .", "")} {
		for k := -1100; k <= 1100; k++ {
			if got := impl.NeedsLog(task, k); got != slices.Contains(wantedLog(task), k) {
				t.Errorf("NeedsLog(%v, %d) = %v", task, k, got)
			}
		}
		for _, k := range noVariables() {
			if impl.NeedsLog(task, k) {
				t.Errorf("NeedsLog(%v, %d) = true", task, k)
			}
		}
	}
}

func TestLogRoom(t *testing.T) {
	for _, c := range []struct {
		counts []int
		want   int
	}{
		{[]int{0}, 0}, {[]int{1}, 1}, {[]int{7}, 7}, {[]int{8}, 8}, {[]int{0, 0}, 0}, {[]int{3, 1}, 3}, {[]int{1, 3}, 3}, {[]int{0, 5}, 5}, {[]int{5, 0}, 5}, {[]int{4, 4}, 4},
		{[]int{6, 2, 1}, 6}, {[]int{2, 6, 1}, 6}, {[]int{1, 2, 6}, 6}, {[]int{0, 8, 0}, 8}, {[]int{1, 0, 0}, 1}, {[]int{0, 0, 1}, 1}, {[]int{8, 8, 8}, 8}, {[]int{0, 0, 0, 0, 0, 0}, 0},
		{[]int{5, 4, 3, 2, 1, 0}, 5}, {[]int{0, 1, 2, 3, 4, 5}, 5}, {[]int{2, 4, 6, 5, 3, 1}, 6}, {[]int{8, 0, 1, 0, 1, 0}, 8}, {[]int{0, 1, 0, 1, 0, 8}, 8}, {[]int{1, 1, 1, 1, 1, 1}, 1},
	} {
		checkRoom(t, programLogging(c.counts...), c.want)
	}
	// Each task by itself counts: these log different variables, and only one in each task.
	checkRoom(t, programOfTasks(taskOfWords("1=1", ""), taskOfWords("2=2", ""), taskOfWords("? 3= .", "")), 1)
	checkRoom(t, programOfTasks(taskOfWords("1=1 7=7", ""), taskOfWords("2=2 0=0", ""), taskOfWords("", "3")), 2)
	// What another task reads or writes does not matter.
	checkRoom(t, programOfTasks(taskOfWords("1=", ""), taskOfWords("!1", "1"), taskOfWords("2~", "2")), 0)
	checkRoom(t, programOfTasks(taskOfWords("1~ 2~", ""), taskOfWords("? 1~ 2~ .", ""), taskOfWords("1= 2=", "")), 2)
}

// The greatest number at each place of each number of tasks.
func TestLogRoomAtEachPlace(t *testing.T) {
	for n := 1; n <= 6; n++ {
		for place := range n {
			for greatest := range 9 {
				for others := range greatest + 1 {
					counts := slices.Repeat([]int{others}, n)
					counts[place] = greatest
					checkRoom(t, programLogging(counts...), greatest)
				}
			}
		}
	}
}

func TestLogRoomOfLongPrograms(t *testing.T) {
	for _, p := range append(append(variedPrograms(), longPrograms()...), plainPrograms()...) {
		room := 0
		for _, task := range p.Tasks {
			room = max(room, len(wantedLog(task)))
		}
		checkRoom(t, p, room)
	}
}

func TestLogRoomOfInvalidPrograms(t *testing.T) {
	for _, p := range invalidPrograms() {
		checkRoom(t, p, -1)
	}
	checkRoom(t, programLogging(), -1)
	for n := 7; n <= 20; n++ {
		checkRoom(t, programLogging(slices.Repeat([]int{n % 9}, n)...), -1)
	}
	bad := []impl.Task{{}, {Body: blockOfWords("3=3")}, taskOfWords("? 3=3", ""), taskOfWords("3=3 .", ""), {Body: blockOfWords("3=3"), Next: impl.Expr{Op: 1, A: -9}}, taskOfWords(strings.Repeat("3=3 ", 25), ""), taskOfWords("? ? ? ? . . . .", "")}
	for n := 1; n <= 6; n++ {
		for place := range n {
			for _, task := range bad {
				for _, count := range []int{0, 1, 8} {
					checkRoom(t, withTask(programLogging(slices.Repeat([]int{count}, n)...), place, task), -1)
				}
			}
		}
	}
}

func TestIsRestartable(t *testing.T) {
	for _, c := range []struct {
		words string
		want  bool
	}{
		{"", true}, {"!3", true}, {"?3 .", true}, {"3=", true}, {"3~ !3", true}, {"3= 4=3 !4", true}, {"? 3= . 3~", true}, {"*2 3~ 4=3 .", true}, {"3= ? 3=3 .", true},
		{"3=3", false}, {"!3 3~", false}, {"? 3= .", false}, {"*2 !3 3~ .", false}, {"4= ? 3= .", false}, {"3= 4=4", false}, {"*2 ? 3~ . .", false},
	} {
		for _, next := range []string{"", "3", "43"} {
			if got := impl.IsRestartable(taskOfWords(c.words, next)); got != c.want {
				t.Errorf("%s, next %q: IsRestartable = %v", c.words, next, got)
			}
		}
		for _, task := range []impl.Task{{Body: blockOfWords(c.words)}, taskOfWords(c.words+" .", ""), taskOfWords("? "+c.words, "")} {
			if impl.IsRestartable(task) {
				t.Errorf("IsRestartable(%v) = true", task)
			}
		}
	}
}

// Promise 8: only variables that may be written are logged, restartable tasks log none, and the room is enough for every task.
func TestLogOfEachProgramHasRoom(t *testing.T) {
	for _, p := range variedPrograms() {
		room, longest := impl.LogRoom(p), 0
		for _, task := range p.Tasks {
			log, may := impl.MustLog(task), impl.MayWrite(task.Body)
			longest = max(longest, len(log))
			for i, k := range log {
				if !impl.HasVar(may, k) || i > 0 && log[i-1] >= k {
					t.Errorf("%v logs %v, but may write %v", task, log, may)
				}
			}
			for k := range 8 {
				if impl.IsRestartable(task) && impl.NeedsLog(task, k) {
					t.Errorf("%v is restartable, but logs %d", task, k)
				}
			}
		}
		if longest != room || room > impl.MaxVars {
			t.Errorf("LogRoom(%v) = %d; the longest log has %d variables", p, room, longest)
		}
	}
}

// Promise 8: a variable that is written and need not be logged may contain anything.
func TestVariablesThatAreNotLoggedDoNotMatter(t *testing.T) {
	for _, task := range variedTasks() {
		log, may := impl.MustLog(task), impl.MayWrite(task.Body)
		for _, vars := range variedVars() {
			want := deedsOf(task, vars)
			after := varsAfter(vars, want)
			for _, other := range []int{0, 1, -3, 1000000} {
				changed := slices.Clone(vars)
				for _, k := range may {
					if !slices.Contains(log, k) {
						changed[k] = other
					}
				}
				got := deedsOf(task, changed)
				if !slices.Equal(got, want) || !slices.Equal(varsAfter(changed, got), after) {
					t.Errorf("%v logs %v, but does %v with %v and %v with %v", task, log, want, vars, got, changed)
				}
			}
		}
	}
}

// interruptedAfter returns what the variables contain if the task is stopped after count deeds and those in restored get their old values back.
func interruptedAfter(task impl.Task, vars []int, senses, count int, restored []int) []int {
	left := varsAfter(vars, laterDeedsOf(task, vars, senses)[:count])
	for _, k := range restored {
		left[k] = vars[k]
	}
	return left
}

// Promise 8: wherever a task is stopped, restoring the logged variables is enough for doing it again with other values of the sensors.
func TestRepeatedTasksHaveTheSameEffect(t *testing.T) {
	for i, task := range variedTasks()[:1500] {
		log := impl.MustLog(task)
		for _, vars := range variedVars() {
			want := laterDeedsOf(task, vars, i)
			after := varsAfter(vars, want)
			total := len(laterDeedsOf(task, vars, i+2))
			for count := 0; count <= total; count += 1 + total/12 {
				left := interruptedAfter(task, vars, i+2, count, log)
				got := laterDeedsOf(task, left, i)
				if !slices.Equal(got, want) || !slices.Equal(varsAfter(left, got), after) {
					t.Errorf("%v logs %v, but does %v with %v and %v after %d deeds that were undone", task, log, want, vars, got, count)
				}
			}
		}
	}
}

// Promise 8 from the other side: without one logged variable, some interruption changes what is done. The condition ?55 fails for each fifth reading of a sensor.
func TestLoggedVariablesAreNeeded(t *testing.T) {
	for _, c := range []struct{ words, next, log string }{
		{"3=3", "", "3"}, {"!3 3~", "", "3"}, {"4=3 3~", "", "3"}, {"5~ ?55 3= .", "", "3"}, {"5~ ?55 3~ .", "3", "3"}, {"*2 !3 3~ .", "", "3"}, {"?3 . 3~", "", "3"},
		{"5~ ?55 3= . !3 3~", "", "3"}, {"0=0 7=7", "", "07"}, {"5~ ?55 *2 ?55 0~ . 7= . .", "", "07"}, {"0=0 1=1 2=2 3=3 4=4 5=5 6=6 7=7", "", "01234567"},
	} {
		// None of these values is a bound: there, adding to it does not change it.
		task, vars := taskOfWords(c.words, c.next), []int{5, -2, 1, 4, -9, 6, 31, 9}
		checkLog(t, task, varsOfDigits(c.log))
		for _, k := range varsOfDigits(c.log) {
			others := slices.DeleteFunc(varsOfDigits(c.log), func(v int) bool { return v == k })
			needed := false
			for later := range 5 {
				for senses := range 5 {
					want := laterDeedsOf(task, vars, later)
					for count := range laterDeedsOf(task, vars, senses) {
						left := interruptedAfter(task, vars, senses, count, others)
						got := laterDeedsOf(task, left, later)
						needed = needed || !slices.Equal(got, want) || !slices.Equal(varsAfter(left, got), varsAfter(vars, want))
					}
				}
			}
			if !needed {
				t.Errorf("%s, next %q: the variable %d need not be restored", c.words, c.next, k)
			}
		}
	}
}

func TestLogIsNewMemory(t *testing.T) {
	for _, task := range variedTasks()[:500] {
		kept, may, must, first := impl.MustLog(task), impl.MayWrite(task.Body), impl.MustWrite(task.Body), impl.MayReadFirst(task)
		for range 3 {
			// A list that shares memory with another one, or with a later one, changes it.
			log := impl.MustLog(task)
			log = log[:cap(log)]
			for i := range log {
				log[i] = -5
			}
		}
		checkSets(t, task, may, must, first)
		checkTaskLog(t, task)
		if !slices.Equal(kept, wantedLog(task)) {
			t.Errorf("%v: MustLog shares memory with later results", task)
		}
	}
}

func TestLogDoesNotChangeTheTask(t *testing.T) { checkBodiesAreKept(t, checkTaskLog) }

func TestLogRoomDoesNotChangeTheProgram(t *testing.T) {
	for _, p := range append(append(plainPrograms(), variedPrograms()[:200]...), invalidPrograms()[:200]...) {
		whole := cloneProgram(p)
		whole.Tasks = append(whole.Tasks, taskLogging(8), taskOf("?"))
		before := cloneProgram(whole)
		impl.LogRoom(impl.Program{Tasks: whole.Tasks[:len(p.Tasks)]})
		if !sameProgram(whole, before) {
			t.Errorf("the program %v was changed to %v", before, whole)
		}
	}
}
