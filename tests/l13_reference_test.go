package tests

import (
	"math"
	"slices"
	"strings"
	"testing"

	"loop.example/g00983/impl"
)

// equalRef compares without the help of SameRef.
func equalRef(a, b impl.Ref) bool {
	return slices.Equal(a.Vars, b.Vars) && slices.Equal(a.Sent, b.Sent) && a.Task == b.Task
}

// wantedRun performs a run by the text of the document; all arguments are valid.
func wantedRun(p impl.Program, task int, vars []int, used [][]int) (impl.Ref, []int) {
	ref, tasks := impl.Ref{Vars: vars, Task: task}, []int{}
	for n := range used {
		tasks = append(tasks, ref.Task)
		e := wantedEffect(p, ref.Task, ref.Vars, used[n])
		ref.Vars, ref.Task = e.Vars, e.Next
		for _, value := range e.Sent {
			if len(ref.Sent) < 24 {
				ref.Sent = append(ref.Sent, value)
			}
		}
	}
	return ref, tasks
}

func checkRun(t *testing.T, p impl.Program, task int, vars []int, used [][]int, want impl.Ref, tasks []int) {
	t.Helper()
	if got, ok := impl.RefRun(p, task, vars, used); !ok || !equalRef(got, want) {
		t.Errorf("RefRun(%v, %d, %v, %v) = %v, %v; want %v", p, task, vars, used, got, ok, want)
	}
	if got := impl.RefTasks(p, task, vars, used); !slices.Equal(got, tasks) {
		t.Errorf("RefTasks(%v, %d, %v, %v) = %v; want %v", p, task, vars, used, got, tasks)
	}
}

// checkLikeModel needs valid arguments.
func checkLikeModel(t *testing.T, p impl.Program, task int, vars []int, used [][]int) {
	t.Helper()
	want, tasks := wantedRun(p, task, vars, used)
	checkRun(t, p, task, vars, used, want, tasks)
}

func checkNoRun(t *testing.T, p impl.Program, task int, vars []int, used [][]int) {
	t.Helper()
	if got, ok := impl.RefRun(p, task, vars, used); ok || !equalRef(got, impl.Ref{}) {
		t.Errorf("RefRun(%v, %d, %v, %v) = %v, %v; want none", p, task, vars, used, got, ok)
	}
	if got := impl.RefTasks(p, task, vars, used); len(got) != 0 {
		t.Errorf("RefTasks(%v, %d, %v, %v) = %v; want none", p, task, vars, used, got)
	}
}

// checkNoRuns refuses runs of several sizes; the run of no task is one of them.
func checkNoRuns(t *testing.T, p impl.Program, task int, vars []int) {
	t.Helper()
	for _, used := range [][][]int{nil, {}, {nil}, {{3, 4}}, {{3}, {}, {4, 5}}} {
		checkNoRun(t, p, task, vars, used)
	}
}

func checkSameRef(t *testing.T, a, b impl.Ref, want bool) {
	t.Helper()
	if impl.SameRef(a, b) != want || impl.SameRef(b, a) != want {
		t.Errorf("SameRef(%v, %v) = %v and %v; want %v", a, b, impl.SameRef(a, b), impl.SameRef(b, a), want)
	}
}

// refOf expects that there is a run.
func refOf(t *testing.T, p impl.Program, task int, vars []int, used [][]int) impl.Ref {
	t.Helper()
	ref, ok := impl.RefRun(p, task, vars, used)
	if !ok {
		t.Fatalf("RefRun(%v, %d, %v, %v) refuses", p, task, vars, used)
	}
	return ref
}

// firstOf are at most count elements.
func firstOf(list []int, count int) []int { return list[:min(count, len(list))] }

// usedByTasks has so many elements, each of which is another one of someUsed.
func usedByTasks(size, seed int) [][]int {
	used, lists := [][]int{}, someUsed()
	for n := range size {
		used = append(used, lists[(seed+n*5)%len(lists)])
	}
	return used
}

func cloneUsed(used [][]int) [][]int {
	used = slices.Clone(used)
	for n := range used {
		used[n] = slices.Clone(used[n])
	}
	return used
}

func sameUsed(a, b [][]int) bool { return slices.EqualFunc(a, b, slices.Equal[[]int]) }

func TestRefRun(t *testing.T) {
	every := "task 6 -1 10;loop 2;sense 0 1;set 1 1 -2 -1;if 6 -1 5;send 1 -1 100;end;end;send 1 -2 0;task 2 -1 -3;sense 2 0;send 3 -1 -3;set 1 2 -2 1"
	for _, c := range []struct {
		text  string
		task  int
		vars  []int
		used  [][]int
		after []int
		sent  []int
		next  int
		tasks []int
	}{
		{"task 1 0 0;sense 0 1;set 1 1 -2 1;send 1 -1 -2", 0, varsOf(), [][]int{{50}, {60}}, varsOf(60, 2), []int{51, 62}, 0, []int{0, 0}},
		// Without a task, everything stays.
		{"task 1 0 0;sense 0 1;send 1 -1 0", 0, varsOf(4, 5), nil, varsOf(4, 5), nil, 0, nil},
		{every, 0, distinctVars(), nil, distinctVars(), nil, 0, nil},
		{every, 1, distinctVars(), nil, distinctVars(), nil, 1, nil},
		// One task.
		{every, 0, varsOf(3, 7), [][]int{{4, 20}}, varsOf(20, 31), []int{104, 31}, 0, []int{0}},
		{every, 0, varsOf(3, 7), [][]int{{20, 4}}, varsOf(4, 31), []int{104, 31}, 1, []int{0}},
		{every, 1, varsOf(3, 7), [][]int{{5}}, varsOf(3, 6, 5), []int{15}, 0, []int{1}},
		{every, 1, varsOf(3, 7), [][]int{{2}}, varsOf(3, 6, 2), []int{6}, 1, []int{1}},
		// Several tasks: the next one has the variables of the one before.
		{every, 0, varsOf(3, 7), [][]int{{20, 4}, {6}, {3, 3}, {8}}, varsOf(3, 35, 8), []int{104, 31, 24, 103, 103, 36, 24}, 1, []int{0, 1, 0, 1}},
		{every, 0, varsOf(3, 7), [][]int{{20, 4}, {7}, {0}}, varsOf(4, 29, 0), []int{104, 31, 28, 0}, 0, []int{0, 1, 1}},
		{every, 1, varsOf(-3), [][]int{{1}, {0, 0}}, varsOf(0, -1, 1), []int{-3, 100, 100, -1}, 1, []int{1, 0}},
		{every, 1, varsOf(-3), [][]int{{-2}, {1000000}, {-1000000}}, varsOf(0, -1000000, 1000000), []int{6, -1000000, -999900, 100, -1000000}, 1, []int{1, 1, 0}},
		// Three tasks and more, in the order that the variables tell.
		{"task 1 -1 0;send 1 10 0;sense 0 1;task 1 -1 1;send 1 11 0;task 2 0 -1;send 1 12 0;set 0 1 -1 -1", 0, varsOf(), [][]int{{2}, {}, {}, {}, {}, {}}, varsOf(0), []int{10, 12, 12, 11, 10, 10}, 0, []int{0, 2, 2, 1, 0, 0}},
		{"task 1 0 1;task 1 0 2;task 1 0 3;task 1 0 4;task 1 0 5;task 1 0 6", 4, varsOf(1), slices.Repeat([][]int{nil}, 9), varsOf(1), nil, 1, []int{4, 5, 0, 1, 2, 3, 4, 5, 0}},
	} {
		want := impl.Ref{Vars: c.after, Sent: c.sent, Task: c.next}
		p := textProgram(t, c.text)
		checkRun(t, p, c.task, c.vars, c.used, want, c.tasks)
		if got, tasks := wantedRun(p, c.task, c.vars, c.used); !equalRef(got, want) || !slices.Equal(tasks, c.tasks) {
			t.Errorf("%s: the model has %v and %v; want %v and %v", c.text, got, tasks, want, c.tasks)
		}
	}
}

// The values that a task leaves over are not used by the next one, and those that it lacks are 0.
func TestSensesOfARun(t *testing.T) {
	p := textProgram(t, "task 1 -8 0;loop 3;sense 0 1;send 1 -1 0;end;task 1 1 0;send 1 90 0")
	for _, c := range []struct {
		task  int
		used  [][]int
		sent  []int
		tasks []int
	}{
		{0, [][]int{{1, 2, 3}, {4, 5, 6}}, []int{1, 2, 3, 4, 5, 6}, []int{0, 0}},
		{0, [][]int{{1, 2, 3, 7, 8}, {4, 5, 6, 9}, {10, 11, 12}}, []int{1, 2, 3, 4, 5, 6, 10, 11, 12}, []int{0, 0, 0}},
		{0, [][]int{{1}, {2, 3}, {}, {4, 5, 6}, nil}, []int{1, 0, 0, 2, 3, 0, 0, 0, 0, 4, 5, 6, 0, 0, 0}, []int{0, 0, 0, 0, 0}},
		{0, [][]int{{}, {1, 2, 3, 4, 5, 6}, {}, {-1}}, []int{0, 0, 0, 1, 2, 3, 0, 0, 0, -1, 0, 0}, []int{0, 0, 0, 0}},
		{1, [][]int{{1, 2, 3}, {4}, {}}, []int{90, 90, 90}, []int{1, 1, 1}},
	} {
		after := varsOf()
		if c.task == 0 {
			after[0] = c.sent[len(c.sent)-1]
		}
		checkRun(t, p, c.task, varsOf(), c.used, impl.Ref{Vars: after, Sent: c.sent, Task: c.task}, c.tasks)
	}
}

// Each value decides which task follows, also the values that are negative or at a bound.
func TestFollowingTasksOfARun(t *testing.T) {
	text := "task 1 -1 0;sense 0 1"
	for tasks := 1; tasks <= 6; tasks++ {
		p := textProgram(t, strings.Repeat(text+";", tasks-1)+text)
		for first := range tasks {
			used, wanted := [][]int{}, []int{}
			next := first
			for _, value := range []int{0, 1, -1, 2, -2, 5, -5, 6, -6, 7, 1000000, -1000000, 999999, -999999, 35, -35} {
				used, wanted = append(used, []int{value}), append(wanted, next)
				next = (value + 60*1000000) % tasks
				checkRun(t, p, first, varsOf(9), used, impl.Ref{Vars: varsOf(value), Task: next}, wanted)
			}
		}
	}
}

// numbersTo counts from 1 on.
func numbersTo(n int) []int {
	list := []int{}
	for i := range n {
		list = append(list, i+1)
	}
	return list
}

// sendingText has two tasks that follow each other and send so many values: variable 0 numbers the values, and variable 1 the tasks.
func sendingText(first, second int) string {
	send := ";set 0 1 -1 1;send 1 -1 0"
	return "task 1 0 1;set 1 1 -2 1" + strings.Repeat(send, first) + ";task 1 0 0" + strings.Repeat(send, second) + ";set 1 1 -2 1;sense 2 0"
}

// The tasks behind a full outbox are executed, and none of their values is in Sent.
func TestFullOutboxOfARun(t *testing.T) {
	totals, within, atEnd := map[int]bool{}, 0, 0
	for first := range 12 {
		for second := range 11 {
			p, used, tasks, total := textProgram(t, sendingText(first, second)), [][]int{}, []int{}, 0
			for n := range 11 {
				after := varsOf(total, n)
				if n > 1 {
					after[2] = 100 + (n/2)*2 - 1
				}
				checkRun(t, p, 0, varsOf(), used, impl.Ref{Vars: after, Sent: firstOf(numbersTo(total), 24), Task: n % 2}, tasks)
				before := total
				total += []int{first, second}[n%2]
				used, tasks, totals[total] = append(used, []int{100 + n}), append(tasks, n%2), true
				if before < 24 && total == 24 {
					atEnd++
				}
				if before < 24 && total > 24 {
					within++
				}
			}
		}
	}
	if !totals[23] || !totals[24] || !totals[25] || !totals[100] || within < 50 || atEnd < 20 {
		t.Errorf("the tasks of this test fill the outbox %d times within, and %d times at the end", within, atEnd)
	}
}

// The outbox of a run is as long as MaxBox, and is filled by one task as well as by many.
func TestOutboxOfOneTaskAndOfMany(t *testing.T) {
	if impl.MaxBox != 24 {
		t.Errorf("MaxBox is %d", impl.MaxBox)
	}
	single := textProgram(t, "task 1 0 0;set 0 1 -1 1;send 1 -1 0")
	for n := range 101 {
		checkRun(t, single, 0, varsOf(), make([][]int, n), impl.Ref{Vars: varsOf(n), Sent: firstOf(numbersTo(n), 24)}, make([]int, n))
	}
	many := textProgram(t, "task 1 0 0;loop 5;loop 5;loop 5;set 0 1 -1 1;send 1 -1 0;end;end;end")
	for _, n := range []int{1, 2, 100} {
		checkRun(t, many, 0, varsOf(), make([][]int, n), impl.Ref{Vars: varsOf(125 * n), Sent: numbersTo(24)}, make([]int, n))
	}
	// One task fills the outbox alone, or leaves room for one value of the task behind it.
	for n := 22; n <= 26; n++ {
		text := "task 1 0 1;sense 1 1;task 1 0 2;loop 5;loop 4;set 0 1 -1 1;send 1 -1 0;end;end" + strings.Repeat(";set 0 1 -1 1;send 1 -1 0", n-20) + ";set 2 1 -1 0;task 1 0 0;sense 3 1;send 1 77 0;send 1 78 0"
		p := textProgram(t, text)
		want := impl.Ref{Vars: varsOf(n, 4, n, 8), Sent: firstOf(append(numbersTo(n), 77, 78), 24)}
		checkRun(t, p, 0, varsOf(), [][]int{{4}, {5}, {8}}, want, []int{0, 1, 2})
	}
}

func TestNumberOfTasksOfARun(t *testing.T) {
	p := textProgram(t, "task 1 0 1;set 0 1 -1 1;sense 1 1;task 1 0 2;set 0 1 -1 1;sense 1 1;task 1 0 0;set 0 1 -1 1;sense 1 1")
	for _, n := range []int{0, 1, 2, 3, 10, 50, 98, 99, 100} {
		tasks, used := []int{}, [][]int{}
		for k := range n {
			tasks, used = append(tasks, k%3), append(used, []int{1000 + k})
		}
		after := varsOf(n)
		if n > 0 {
			after[1] = 1000 + n - 1
		}
		checkRun(t, p, 0, varsOf(), used, impl.Ref{Vars: after, Task: n % 3}, tasks)
		checkRun(t, p, 0, varsOf(), make([][]int, n), impl.Ref{Vars: varsOf(n), Task: n % 3}, tasks)
	}
	for _, n := range []int{101, 102, 103, 128, 200, 256, 1000, 100000} {
		checkNoRun(t, p, 0, varsOf(), make([][]int, n))
		checkNoRun(t, p, 1, varsOf(), slices.Repeat([][]int{{}}, n))
		checkNoRun(t, p, 2, distinctVars(), slices.Repeat([][]int{{5, 6}}, n))
		checkNoRun(t, programOf(""), 0, distinctVars(), make([][]int, n))
		// The number of tasks counts, and not the room behind them.
		checkRun(t, p, 2, varsOf(), make([][]int, n)[:1], impl.Ref{Vars: varsOf(1)}, []int{2})
		checkNoRun(t, p, 3, distinctVars(), make([][]int, n))
	}
	// The number of values in an element is not limited.
	checkRun(t, p, 2, varsOf(), [][]int{slices.Repeat([]int{5}, 101), slices.Repeat([]int{6}, 100000)}, impl.Ref{Vars: varsOf(2, 6), Task: 1}, []int{2, 0})
}

// A value that is wrong makes the arguments invalid also where no sense uses it.
func TestRunsWithUsedValuesThatAreNoValues(t *testing.T) {
	for _, text := range []string{"task 1 0 0", "task 1 0 0;sense 0 1", "task 1 0 1;loop 4;sense 0 1;send 1 -1 0;end;task 1 0 0;sense 1 2", "task 1 0 0;if 1 0 0;sense 0 1;end"} {
		p := textProgram(t, text)
		for _, sizes := range [][2]int{{1, 1}, {1, 3}, {2, 1}, {2, 2}, {3, 3}, {5, 4}, {100, 2}} {
			for _, n := range []int{0, sizes[0] / 2, sizes[0] - 1} {
				for _, at := range []int{0, sizes[1] / 2, sizes[1] - 1} {
					used := make([][]int, sizes[0])
					for k := range used {
						used[k] = slices.Repeat([]int{5}, sizes[1])
					}
					for _, wrong := range noValues() {
						used[n][at] = wrong
						checkNoRun(t, p, 0, distinctVars(), used)
					}
					for _, right := range []int{-1000000, -999999, 0, 999999, 1000000} {
						used[n][at] = right
						checkLikeModel(t, p, 0, distinctVars(), used)
					}
				}
			}
		}
		// What lies behind the elements and their values is not among them.
		used := [][]int{[]int{5, 1000001}[:1], {5, 6}, {-1000001}}
		checkLikeModel(t, p, 0, distinctVars(), used[:2])
		checkNoRun(t, p, 0, distinctVars(), used)
		// One wrong element among elements without values.
		for n := range 4 {
			used := make([][]int, 4)
			used[n] = []int{1000001}
			checkNoRun(t, p, 0, distinctVars(), used)
		}
	}
}

func TestRunsOfInvalidVariables(t *testing.T) {
	p := textProgram(t, "task 1 0 1;sense 0 1;task 1 0 2;send 1 1 2;task 1 0 0;set 1 1 -2 1")
	for _, vars := range invalidVars() {
		for task := range 3 {
			checkNoRuns(t, p, task, vars)
		}
		checkNoRuns(t, programOf(""), 0, vars)
		checkNoRuns(t, p, 3, vars)
		checkNoRun(t, p, 0, vars, make([][]int, 101))
	}
}

func TestRunsOfInvalidPrograms(t *testing.T) {
	for _, p := range invalidPrograms() {
		checkNoRuns(t, p, 0, distinctVars())
		checkNoRuns(t, p, len(p.Tasks)-1, distinctVars())
		checkNoRun(t, p, 0, distinctVars()[1:], [][]int{{1000001}})
	}
	for _, list := range invalidBodies()[:40] {
		// The wrong task is never reached, or at once.
		p := programOfTasks(impl.Task{Body: blockOfWords("3=3"), Next: constantExpr(0)}, impl.Task{Body: list, Next: constantExpr(0)})
		checkNoRuns(t, p, 0, distinctVars())
		checkNoRuns(t, p, 1, distinctVars())
	}
}

func TestRunsOfTasksThatDoNotExist(t *testing.T) {
	for n := 1; n <= 6; n++ {
		p := textProgram(t, strings.Repeat("task 1 0 1;sense 0 1;send 1 -1 0;", n-1)+"task 1 0 1;sense 0 1")
		for _, task := range append(noTasks(n), math.MinInt, math.MaxInt) {
			if task < 0 || task >= n {
				checkNoRuns(t, p, task, varsOf())
				checkNoRun(t, p, task, varsOf(), make([][]int, 100))
			}
		}
		for task := range n {
			checkLikeModel(t, p, task, varsOf(), [][]int{{3}, {4}, {}, {5, 6}})
			checkRun(t, p, task, varsOf(), nil, impl.Ref{Vars: varsOf(), Task: task}, nil)
		}
	}
}

func TestRunsWithoutElements(t *testing.T) {
	room := [][]int{{7}, {8}}
	p := textProgram(t, "task 1 0 1;sense 0 1;send 1 -1 3;task 1 -1 0;set 1 1 -2 1")
	for task := range 2 {
		for _, used := range [][][]int{nil, {}, room[:0], room[2:]} {
			checkRun(t, p, task, distinctVars(), used, impl.Ref{Vars: distinctVars(), Task: task}, nil)
		}
	}
	for _, empty := range emptyLists() {
		checkRun(t, p, 0, varsOf(4), [][]int{empty}, impl.Ref{Vars: varsOf(0), Sent: []int{3}, Task: 1}, []int{0})
		checkRun(t, p, 1, varsOf(4), [][]int{empty, empty, {9}, empty}, impl.Ref{Vars: varsOf(0, 2), Sent: []int{3, 3}, Task: 1}, []int{1, 0, 1, 0})
	}
	for _, list := range [][]impl.Stmt{nil, {}, blockOfWords("3=3 !4")[:0], blockOfWords("3=3 !4")[2:]} {
		p := programOfTasks(impl.Task{Body: list, Next: constantExpr(1)}, impl.Task{Body: list, Next: constantExpr(-1)}, impl.Task{Body: list, Next: constantExpr(-2)})
		checkRun(t, p, 0, varsOf(2, 3), usedByTasks(4, 1), impl.Ref{Vars: varsOf(2, 3), Task: 1}, []int{0, 1, 2, 0})
	}
	for _, task := range []int{0, -1, 1} {
		checkNoRuns(t, impl.Program{}, task, distinctVars())
		checkNoRuns(t, impl.Program{}, task, nil)
	}
}

// refsThatDiffer are different from each other, most of them in one field alone.
func refsThatDiffer() []impl.Ref {
	list := []impl.Ref{
		{}, {Vars: []int{0}}, {Sent: []int{0}}, {Vars: []int{0, 0}}, {Sent: []int{0, 0}}, {Vars: []int{0}, Sent: []int{0}}, {Vars: []int{0}, Sent: []int{0, 0}}, {Vars: []int{0, 0}, Sent: []int{0}},
		{Vars: []int{1, 2}, Sent: []int{3, 4}}, {Vars: []int{3, 4}, Sent: []int{1, 2}}, {Vars: []int{1, 2, 3}, Sent: []int{4}}, {Vars: []int{1}, Sent: []int{2, 3, 4}}, {Vars: []int{1, 2, 3, 4}}, {Sent: []int{1, 2, 3, 4}}, {Vars: []int{2, 1}, Sent: []int{3, 4}}, {Vars: []int{1, 2}, Sent: []int{4, 3}}, {Vars: []int{1, 2}, Sent: []int{3, 4}, Task: 1},
	}
	whole := impl.Ref{Vars: distinctVars(), Sent: numbersTo(24), Task: 3}
	list = append(list, whole, impl.Ref{Vars: whole.Vars, Sent: whole.Sent[:23], Task: 3}, impl.Ref{Vars: whole.Vars, Sent: numbersTo(25), Task: 3}, impl.Ref{Vars: whole.Vars, Task: 3}, impl.Ref{Vars: whole.Vars[:7], Sent: whole.Sent, Task: 3}, impl.Ref{Vars: append(distinctVars(), 0), Sent: whole.Sent, Task: 3}, impl.Ref{Sent: whole.Sent, Task: 3})
	for _, task := range append([]int{1, -1, 2, 4, 5, 6}, farNumbers()...) {
		list = append(list, impl.Ref{Task: task}, impl.Ref{Vars: whole.Vars, Sent: whole.Sent, Task: task})
	}
	for _, word := range append(noValues(), -77, 77) {
		for k := range whole.Vars {
			list = append(list, impl.Ref{Vars: withWord(whole.Vars, k, word), Sent: whole.Sent, Task: 3})
		}
		for k := range whole.Sent {
			list = append(list, impl.Ref{Vars: whole.Vars, Sent: withWord(whole.Sent, k, word), Task: 3})
		}
		list = append(list, impl.Ref{Vars: []int{word}}, impl.Ref{Sent: []int{word}})
	}
	return list
}

func TestSameRef(t *testing.T) {
	list := refsThatDiffer()
	for i, a := range list {
		for j, b := range list {
			// The copies have other memory, and room behind their elements.
			b.Vars, b.Sent = append(slices.Clone(b.Vars), i, j)[:len(b.Vars)], append(slices.Clone(b.Sent), j, i)[:len(b.Sent)]
			checkSameRef(t, a, b, i == j)
		}
		checkSameRef(t, a, a, true)
	}
}

func TestSameRefWithoutElements(t *testing.T) {
	for _, a := range emptyLists() {
		for _, b := range emptyLists() {
			for _, task := range []int{0, 1, -1, math.MaxInt} {
				checkSameRef(t, impl.Ref{Vars: a, Sent: b, Task: task}, impl.Ref{Vars: b, Sent: a, Task: task}, true)
				checkSameRef(t, impl.Ref{Vars: a, Sent: []int{7}, Task: task}, impl.Ref{Vars: b, Sent: []int{7}, Task: task}, true)
				checkSameRef(t, impl.Ref{Vars: []int{7}, Sent: a, Task: task}, impl.Ref{Vars: []int{7}, Sent: b, Task: task}, true)
				checkSameRef(t, impl.Ref{Vars: a, Sent: b, Task: task}, impl.Ref{Vars: a, Sent: b, Task: task + 1}, false)
				checkSameRef(t, impl.Ref{Vars: a, Sent: b, Task: task}, impl.Ref{Vars: []int{7}, Sent: a, Task: task}, false)
				checkSameRef(t, impl.Ref{Vars: a, Sent: b, Task: task}, impl.Ref{Vars: a, Sent: []int{8}, Task: task}, false)
			}
		}
	}
	checkSameRef(t, impl.Ref{}, impl.Ref{Vars: []int{}, Sent: []int{}}, true)
}

// A run has valid arguments.
type run struct {
	program impl.Program
	task    int
	vars    []int
	used    [][]int
}

// variedRuns are runs of up to nine tasks of many programs.
func variedRuns() []run {
	runs := []run{}
	for i, p := range append(variedPrograms(), plainPrograms()...) {
		for k := range min(2, len(p.Tasks)) {
			runs = append(runs, run{p, (i + k) % len(p.Tasks), variedVars()[(i+k)%8], usedByTasks((i/6+k)%10, i)})
		}
	}
	return runs
}

func TestManyRuns(t *testing.T) {
	nexts, boxes, executed := map[int]bool{}, map[int]bool{}, map[int]bool{}
	for _, r := range variedRuns() {
		checkLikeModel(t, r.program, r.task, r.vars, r.used)
		want, tasks := wantedRun(r.program, r.task, r.vars, r.used)
		nexts[want.Task], boxes[len(want.Sent)] = true, true
		slices.Sort(tasks)
		executed[len(slices.Compact(tasks))] = true
	}
	if len(nexts) != 6 || len(boxes) < 20 || !boxes[24] || len(executed) < 5 {
		t.Errorf("the following tasks of this test are %v, and the numbers of sent values %v; the runs execute as many different tasks as %v tells", nexts, boxes, executed)
	}
}

// Promise 13: a run can be stopped after any task and continued with the task and the variables that it has reached.
func TestStoppedRuns(t *testing.T) {
	for _, r := range variedRuns() {
		whole, tasks := refOf(t, r.program, r.task, r.vars, r.used), impl.RefTasks(r.program, r.task, r.vars, r.used)
		for stop := range len(r.used) + 1 {
			first := refOf(t, r.program, r.task, r.vars, r.used[:stop])
			second := refOf(t, r.program, first.Task, first.Vars, r.used[stop:])
			both := impl.Ref{Vars: second.Vars, Sent: firstOf(slices.Concat(first.Sent, second.Sent), 24), Task: second.Task}
			if !equalRef(both, whole) || !impl.SameRef(both, whole) {
				t.Errorf("stopped after %d tasks, the run %v yields %v and then %v; want %v", stop, r, first, second, whole)
			}
			ahead, behind := impl.RefTasks(r.program, r.task, r.vars, r.used[:stop]), impl.RefTasks(r.program, first.Task, first.Vars, r.used[stop:])
			if len(ahead) != stop || !slices.Equal(slices.Concat(ahead, behind), tasks) {
				t.Errorf("stopped after %d tasks, the run %v executes %v and then %v; want %v", stop, r, ahead, behind, tasks)
			}
		}
	}
}

// Promise 13: a run can be stopped after each of its tasks, and does what the tasks do by themselves.
func TestRunsTaskByTask(t *testing.T) {
	for _, r := range variedRuns() {
		whole, joined := refOf(t, r.program, r.task, r.vars, r.used), impl.Ref{Vars: r.vars, Task: r.task}
		for n := range r.used {
			effect := effectOf(t, r.program, joined.Task, joined.Vars, r.used[n])
			want := impl.Ref{Vars: effect.Vars, Sent: firstOf(effect.Sent, 24), Task: effect.Next}
			checkRun(t, r.program, joined.Task, joined.Vars, r.used[n:n+1], want, []int{joined.Task})
			joined = impl.Ref{Vars: effect.Vars, Sent: firstOf(slices.Concat(joined.Sent, effect.Sent), 24), Task: effect.Next}
		}
		if !equalRef(joined, whole) {
			t.Errorf("task by task, the run %v yields %v; want %v", r, joined, whole)
		}
	}
}

// Promise 13: each task is the one that follows the task before, and the last one is followed by Task.
func TestEachTaskFollowsTheOneBefore(t *testing.T) {
	for _, r := range variedRuns() {
		tasks := impl.RefTasks(r.program, r.task, r.vars, r.used)
		if len(tasks) != len(r.used) {
			t.Errorf("the run %v executes %v", r, tasks)
			continue
		}
		next := r.task
		for n, task := range tasks {
			if task != next {
				t.Errorf("the task %d of the run %v is %d; want %d", n, r, task, next)
			}
			shorter := refOf(t, r.program, r.task, r.vars, r.used[:n+1])
			next = impl.NextTask(r.program, shorter.Vars, task)
			if shorter.Task != next {
				t.Errorf("after %d tasks of the run %v, there is %v; want the task %d", n+1, r, shorter, next)
			}
		}
	}
}

// Promise 13: neither the values of later tasks nor those that a task does not use matter to a task.
func TestUnusedValuesOfARunDoNotMatter(t *testing.T) {
	for i, r := range variedRuns() {
		whole, tasks := refOf(t, r.program, r.task, r.vars, r.used), impl.RefTasks(r.program, r.task, r.vars, r.used)
		now, changed := impl.Ref{Vars: r.vars, Task: r.task}, cloneUsed(r.used)
		for n, values := range r.used {
			count := effectOf(t, r.program, now.Task, now.Vars, values).Used
			now = refOf(t, r.program, now.Task, now.Vars, r.used[n:n+1])
			// Missing values are 0, and further ones are not used.
			changed[n] = append(append(firstOf(changed[n], count), make([]int, max(0, count-len(values)))...), i%7, -i, 1000000)
		}
		checkRun(t, r.program, r.task, r.vars, changed, whole, tasks)
	}
}

// Promises 12 and 13: with the values that the tasks sense one after the other, a run does what the tasks do with the sensors.
func TestRunsWithSensedValues(t *testing.T) {
	readings := someReadings()
	for i, r := range variedRuns() {
		list, at, used := readings[i%len(readings)], i%50, [][]int{}
		want, tasks := impl.Ref{Vars: r.vars, Task: r.task}, []int{}
		for range r.used {
			first := at
			deeds := sensedDeedsOf(r.program.Tasks[want.Task], want.Vars, func(sensor, n int) int { return wantedReading(list, sensor, first+n) })
			effect := effectOfDeeds(want.Vars, deeds, len(r.program.Tasks))
			tasks, used = append(tasks, want.Task), append(used, impl.SensesOf(r.program, want.Task, want.Vars, list, first))
			want = impl.Ref{Vars: effect.Vars, Sent: firstOf(slices.Concat(want.Sent, effect.Sent), 24), Task: effect.Next}
			at += effect.Used
			at %= 200
		}
		checkRun(t, r.program, r.task, r.vars, used, want, tasks)
	}
}

func TestRunResultsAreNewMemory(t *testing.T) {
	for _, r := range variedRuns() {
		vars, used := slices.Clone(r.vars), cloneUsed(r.used)
		want, tasks := wantedRun(r.program, r.task, r.vars, r.used)
		first, numbers := refOf(t, r.program, r.task, vars, used), impl.RefTasks(r.program, r.task, vars, used)
		again := refOf(t, r.program, r.task, vars, used)
		spoil(again.Sent)
		if !slices.Equal(again.Vars, want.Vars) {
			t.Errorf("the sent values share memory with the variables: %v", again)
		}
		spoil(again.Vars)
		again = refOf(t, r.program, r.task, vars, used)
		spoil(again.Vars)
		if !slices.Equal(again.Sent, want.Sent) {
			t.Errorf("the variables share memory with the sent values: %v", again)
		}
		spoil(impl.RefTasks(r.program, r.task, vars, used))
		if !slices.Equal(vars, r.vars) || !sameUsed(used, r.used) {
			t.Errorf("changing a result changes %v or %v", vars, used)
		}
		spoil(vars)
		for _, values := range used {
			spoil(values)
		}
		if !equalRef(first, want) || !slices.Equal(numbers, tasks) {
			t.Errorf("results share memory with an argument or a later one: %v and %v", first, numbers)
		}
	}
}

// withRoom has other elements behind its own ones.
func withRoom(list []int) []int { return append(slices.Clone(list), 43, 44)[:len(list)] }

func isKept(list, before []int) bool {
	return slices.Equal(list[:len(list)+2], append(slices.Clone(before), 43, 44))
}

const wordsBehindBodies = "3=3 . ?4 5~"

func tasksBehindPrograms() []impl.Task { return []impl.Task{taskLogging(8), taskOf("?")} }

// programWithRoom has other statements behind each body, and other tasks behind its own ones.
func programWithRoom(p impl.Program) impl.Program {
	p = cloneProgram(p)
	for k, task := range p.Tasks {
		p.Tasks[k].Body = append(task.Body, blockOfWords(wordsBehindBodies)...)[:len(task.Body)]
	}
	return impl.Program{Tasks: append(p.Tasks, tasksBehindPrograms()...)[:len(p.Tasks)]}
}

func isProgramKept(p, before impl.Program) bool {
	for _, task := range p.Tasks {
		behind := task.Body[len(task.Body) : len(task.Body)+4]
		if !slices.Equal(behind, blockOfWords(wordsBehindBodies)) {
			return false
		}
	}
	whole := slices.Concat(before.Tasks, tasksBehindPrograms())
	return sameProgram(impl.Program{Tasks: p.Tasks[:len(p.Tasks)+2]}, impl.Program{Tasks: whole})
}

// Neither the arguments nor what lies behind them is written.
func TestRunArgumentsAreKept(t *testing.T) {
	runs := variedRuns()
	for i, p := range invalidPrograms()[:100] {
		runs = append(runs, run{p, i % 2, distinctVars(), usedByTasks(i%4, i)})
	}
	for _, r := range runs {
		given, vars, used := programWithRoom(r.program), withRoom(r.vars), [][]int{}
		for _, values := range r.used {
			used = append(used, withRoom(values))
		}
		used = append(used, []int{45}, []int{46})
		impl.RefRun(given, r.task, vars, used[:len(r.used)])
		impl.RefTasks(given, r.task, vars, used[:len(r.used)])
		if !isProgramKept(given, r.program) || !isKept(vars, r.vars) || !sameUsed(used, append(slices.Clone(r.used), []int{45}, []int{46})) {
			t.Errorf("a run changes %v, %v or %v", given, vars, used)
		}
		for k := range r.used {
			if !isKept(used[k], r.used[k]) {
				t.Errorf("a run changes what is behind %v: %v", r.used[k], used[k][:len(used[k])+2])
			}
		}
	}
}

func TestComparedRefsAreKept(t *testing.T) {
	for _, a := range refsThatDiffer()[:60] {
		for _, b := range refsThatDiffer()[:60] {
			x, y := impl.Ref{Vars: withRoom(a.Vars), Sent: withRoom(a.Sent), Task: a.Task}, impl.Ref{Vars: withRoom(b.Vars), Sent: withRoom(b.Sent), Task: b.Task}
			impl.SameRef(x, y)
			if !isKept(x.Vars, a.Vars) || !isKept(x.Sent, a.Sent) || !isKept(y.Vars, b.Vars) || !isKept(y.Sent, b.Sent) {
				t.Errorf("SameRef changes %v or %v", x, y)
			}
		}
	}
}

// What has been executed before does not matter to a run.
func TestTheSameRunDoesTheSame(t *testing.T) {
	runs := variedRuns()
	for i, r := range runs {
		other := runs[(i*7+1)%len(runs)]
		want, tasks := refOf(t, r.program, r.task, r.vars, r.used), impl.RefTasks(r.program, r.task, r.vars, r.used)
		impl.RefRun(other.program, other.task, other.vars, other.used)
		impl.RefTasks(other.program, other.task, other.vars, other.used)
		impl.RefRun(other.program, -1, other.vars, other.used)
		checkRun(t, cloneProgram(r.program), r.task, slices.Clone(r.vars), cloneUsed(r.used), want, tasks)
	}
}
