package tests

import (
	"math"
	"slices"
	"strings"
	"testing"

	"loop.example/g00983/impl"
)

// textProgram reads a program in which semicolons stand for the ends of its lines.
func textProgram(t *testing.T, text string) impl.Program {
	t.Helper()
	p, line := impl.ParseProgram(strings.ReplaceAll(text, ";", "\n") + "\n")
	if line != 0 {
		t.Fatalf("%s: the line %d is wrong", text, line)
	}
	return p
}

// varsOf has these variables, and 0 in all behind them.
func varsOf(first ...int) []int { return append(first, make([]int, 8-len(first))...) }

func sameEffect(a, b impl.Effect) bool {
	return slices.Equal(a.Vars, b.Vars) && slices.Equal(a.Sent, b.Sent) && a.Next == b.Next && a.Used == b.Used
}

// effectOfDeeds adds up what a task of a program with this many tasks has done.
func effectOfDeeds(vars []int, deeds []deed, tasks int) impl.Effect {
	want := impl.Effect{Vars: varsAfter(vars, deeds)}
	for _, d := range deeds {
		switch d.kind {
		case 2:
			want.Used++
		case 3:
			want.Sent = append(want.Sent, d.value)
		}
	}
	next := deeds[len(deeds)-1].value
	// Adding a multiple of the number of tasks does not change which task follows.
	for next < 0 {
		next += 1000002 / tasks * tasks
	}
	want.Next = next % tasks
	return want
}

// wantedEffect performs a task by the text of the document; all arguments are valid.
func wantedEffect(p impl.Program, task int, vars, used []int) impl.Effect {
	deeds := sensedDeedsOf(p.Tasks[task], vars, func(_, n int) int {
		if n >= len(used) {
			return 0
		}
		return used[n]
	})
	return effectOfDeeds(vars, deeds, len(p.Tasks))
}

// wantedReading walks through the readings from the first one on; n is small.
func wantedReading(readings []int, sensor, n int) int {
	if len(readings) == 0 {
		return 0
	}
	place := 0
	for range n {
		place++
		if place == len(readings) {
			place = 0
		}
	}
	return wantedValue(1, readings[place], 100*sensor)
}

func wantedSenses(task impl.Task, vars, readings []int, at int) []int {
	senses := []int{}
	for _, d := range sensedDeedsOf(task, vars, func(sensor, n int) int { return wantedReading(readings, sensor, at+n) }) {
		if d.kind == 2 {
			senses = append(senses, d.value)
		}
	}
	return senses
}

func checkReading(t *testing.T, readings []int, sensor, n, want int) {
	t.Helper()
	if got := impl.ReadSensor(readings, sensor, n); got != want {
		t.Errorf("ReadSensor(%v, %d, %d) = %d; want %d", readings, sensor, n, got, want)
	}
}

func checkEffect(t *testing.T, p impl.Program, task int, vars, used []int, want impl.Effect) {
	t.Helper()
	if got, ok := impl.TaskEffect(p, task, vars, used); !ok || !sameEffect(got, want) {
		t.Errorf("TaskEffect(%v, %d, %v, %v) = %v, %v; want %v", p, task, vars, used, got, ok, want)
	}
}

func checkNoEffect(t *testing.T, p impl.Program, task int, vars, used []int) {
	t.Helper()
	if got, ok := impl.TaskEffect(p, task, vars, used); ok || !sameEffect(got, impl.Effect{}) {
		t.Errorf("TaskEffect(%v, %d, %v, %v) = %v, %v; want none", p, task, vars, used, got, ok)
	}
}

func checkSenses(t *testing.T, p impl.Program, task int, vars, readings []int, at int, want []int) {
	t.Helper()
	if got := impl.SensesOf(p, task, vars, readings, at); !slices.Equal(got, want) {
		t.Errorf("SensesOf(%v, %d, %v, %v, %d) = %v; want %v", p, task, vars, readings, at, got, want)
	}
}

// checkNothing expects what the chapter states where a program, a task or variables are wrong.
func checkNothing(t *testing.T, p impl.Program, task int, vars []int) {
	t.Helper()
	checkNoEffect(t, p, task, vars, nil)
	checkNoEffect(t, p, task, vars, []int{3, 4})
	checkSenses(t, p, task, vars, nil, 0, nil)
	checkSenses(t, p, task, vars, []int{3, 4}, 1, nil)
}

// effectOf expects that there is an effect.
func effectOf(t *testing.T, p impl.Program, task int, vars, used []int) impl.Effect {
	t.Helper()
	e, ok := impl.TaskEffect(p, task, vars, used)
	if !ok {
		t.Fatalf("TaskEffect(%v, %d, %v, %v) refuses", p, task, vars, used)
	}
	return e
}

// someUsed are values of sensors: few and many, both bounds, and values with which conditions hold and fail.
func someUsed() [][]int {
	many := []int{}
	for n := range 3000 {
		many = append(many, n*7%23-9)
	}
	return [][]int{nil, {0}, {1, 0, 1, 0, 0, 1}, {1000000, -1000000, 999, -1, 2}, {3, 1, -4, 1, -5, 9, 2, 6, 5, 3, 5}, many}
}

func someReadings() [][]int {
	list := [][]int{nil, {}, {0}, {4}, {1, 0}, {-1000000, 1000000}, {0, -100, -200, -300, 7}, {5, 6, 7, 8, 9, 10, 11}}
	long := []int{}
	for n := range 100 {
		long = append(long, n*37%101-50)
	}
	return append(list, long)
}

// emptyLists have no elements; some of them have others behind them.
func emptyLists() [][]int {
	room := []int{7, 8}
	return [][]int{nil, {}, room[:0], room[2:]}
}

// noTasks are no numbers of a task of a program with this many tasks.
func noTasks(tasks int) []int {
	return append([]int{-1, -2, -tasks, tasks, tasks + 1, 2 * tasks, 6, 7, 100, -100, 1<<32 + 1}, farNumbers()...)
}

func TestReadSensor(t *testing.T) {
	readings := []int{7, -9, 250}
	for _, c := range []struct{ sensor, n, want int }{
		{0, 0, 7}, {0, 1, -9}, {0, 2, 250}, {0, 3, 7}, {0, 4, -9}, {0, 5, 250}, {0, 6, 7}, {1, 0, 107}, {1, 1, 91}, {1, 2, 350}, {1, 3, 107}, {2, 0, 207}, {2, 1, 191}, {2, 5, 450}, {3, 0, 307}, {3, 1, 291}, {3, 2, 550}, {3, 300, 307}, {3, 301, 291},
		{0, 1000000, -9}, {0, 999999, 7}, {1, 1000001, 350}, {0, math.MaxInt, -9}, {3, math.MaxInt, 291}, {0, math.MaxInt - 1, 7}, {2, math.MaxInt - 2, 450}, {0, 1 << 32, -9}, {0, 1<<32 + 1, 250},
		{0, -1, 0}, {0, -2, 0}, {0, -3, 0}, {1, -1, 0}, {3, -3, 0}, {0, -1000000, 0}, {2, math.MinInt, 0}, {0, math.MinInt, 0}, {0, math.MinInt + 1, 0},
		{-1, 0, 0}, {4, 0, 0}, {5, 1, 0}, {-1, 2, 0}, {4, 2, 0}, {100, 0, 0}, {1 << 32, 0, 0}, {1<<32 + 1, 0, 0}, {math.MaxInt, 0, 0}, {math.MinInt, 0, 0}, {math.MinInt + 1, 1, 0}, {4, -1, 0}, {-1, -1, 0}, {math.MinInt, math.MinInt, 0}, {math.MaxInt, math.MaxInt, 0},
	} {
		checkReading(t, readings, c.sensor, c.n, c.want)
	}
}

func TestReadSensorWithoutReadings(t *testing.T) {
	for _, readings := range emptyLists() {
		for _, sensor := range []int{-1, 0, 1, 2, 3, 4, math.MaxInt, math.MinInt} {
			for _, n := range []int{-1, 0, 1, 2, 100, math.MaxInt, math.MinInt} {
				checkReading(t, readings, sensor, n, 0)
			}
		}
	}
}

// A reading that is no value counts as the bound that it is beyond.
func TestReadSensorAtTheBounds(t *testing.T) {
	for _, c := range []struct{ reading, sensor, want int }{
		{1000000, 0, 1000000}, {1000000, 1, 1000000}, {1000000, 3, 1000000}, {999999, 1, 1000000}, {999900, 1, 1000000}, {999899, 1, 999999}, {999701, 3, 1000000}, {999700, 3, 1000000}, {999699, 3, 999999}, {999800, 2, 1000000}, {999799, 2, 999999},
		{-1000000, 0, -1000000}, {-1000000, 1, -999900}, {-1000000, 3, -999700}, {-100, 1, 0}, {-300, 3, 0}, {-301, 3, -1}, {0, 0, 0}, {0, 3, 300},
		{1000001, 0, 1000000}, {1000001, 3, 1000000}, {math.MaxInt, 0, 1000000}, {math.MaxInt, 3, 1000000}, {-1000001, 0, -1000000}, {-1000001, 1, -999900}, {-1000200, 2, -999800}, {math.MinInt, 0, -1000000}, {math.MinInt, 2, -999800}, {1 << 32, 1, 1000000}, {-(1 << 32), 1, -999900},
	} {
		checkReading(t, []int{c.reading}, c.sensor, 0, c.want)
		checkReading(t, []int{5, c.reading, 5}, c.sensor, 4, c.want)
		if got := impl.ReadSensor([]int{c.reading}, c.sensor, 9); got != impl.AddValues(c.reading, 100*c.sensor) {
			t.Errorf("the reading %d of the sensor %d is %d", c.reading, c.sensor, got)
		}
	}
}

// Promise 12: a reading depends on its number modulo the number of readings, and the sensors differ by 100.
func TestReadingsRepeat(t *testing.T) {
	for _, readings := range someReadings() {
		for sensor := range 4 {
			for n := range 250 {
				got := impl.ReadSensor(readings, sensor, n)
				checkReading(t, readings, sensor, n, wantedReading(readings, sensor, n))
				for _, rounds := range []int{1, 2, 3, 1000, 1 << 40} {
					checkReading(t, readings, sensor, n+rounds*len(readings), got)
				}
				if base := impl.ReadSensor(readings, 0, n); len(readings) > 0 && got-base != 100*sensor && got != 1000000 {
					t.Errorf("the reading %d of %v is %d, but %d by the sensor %d", n, readings, base, got, sensor)
				}
			}
			for _, wrong := range append(farNumbers(), -1, -2, -100, 4, 5, 8) {
				if wrong < 0 {
					checkReading(t, readings, sensor, wrong, 0)
				}
				checkReading(t, readings, wrong, sensor, 0)
			}
		}
	}
}

func TestTaskEffect(t *testing.T) {
	for _, c := range []struct {
		text        string
		vars, used  []int
		after, sent []int
		next, uses  int
	}{
		{"task 1 0 0;sense 0 1;set 1 1 -2 1;send 1 -1 -2", varsOf(), []int{50}, varsOf(50, 1), []int{51}, 0, 1},
		// Each sense within a loop yields the next value.
		{"task 1 0 0;loop 3;sense 2 0;send 1 -3 0;end", varsOf(), []int{4, 5, 6}, varsOf(0, 0, 6), []int{4, 5, 6}, 0, 3},
		{"task 1 0 0;sense 0 0;loop 2;sense 1 3;send 1 -2 0;end;sense 2 1;send 1 -1 0;send 1 -3 0", varsOf(), []int{1, 2, 3, 4}, varsOf(1, 3, 4), []int{2, 3, 1, 4}, 0, 4},
		{"task 1 0 0;loop 2;sense 0 0;loop 3;sense 1 0;end;sense 2 2;end;sense 3 0", varsOf(), []int{1, 2, 3, 4, 5, 6, 7, 8, 9, 10, 11, 12}, varsOf(6, 9, 10, 11), nil, 0, 11},
		{"task 1 0 0;loop 2;sense 0 0;sense 1 0;end;loop 2;sense 2 0;end;sense 3 0", varsOf(), []int{1, 2, 3, 4, 5, 6, 7}, varsOf(3, 4, 6, 7), nil, 0, 7},
		// Conditions that hold use values, and others do not.
		{"task 1 0 0;if 1 -1 0;sense 1 0;end;sense 2 0", varsOf(1), []int{8, 9}, varsOf(1, 8, 9), nil, 0, 2},
		{"task 1 0 0;if 1 -1 0;sense 1 0;end;sense 2 0", varsOf(0), []int{8, 9}, varsOf(0, 0, 8), nil, 0, 1},
		{"task 1 0 0;if 2 -1 4;send 1 1 0;end;if 2 4 -1;send 1 2 0;end;if 7 -1 4;send 1 3 0;end", varsOf(3), nil, varsOf(3), []int{1, 2}, 0, 0},
		{"task 1 0 0;loop 4;sense 0 0;if 6 -1 10;sense 1 2;send 1 -2 0;end;send 2 -1 1;end", varsOf(), []int{3, 30, 10, 9, 90, 11}, varsOf(11, 90), []int{30, 2, 9, 90, 8, 10}, 0, 6},
		{"task 1 0 0;if 1 0 1;loop 2;if 1 -1 0;sense 1 0;end;set 0 7 -1 0;end;end", varsOf(5), []int{7, 8}, varsOf(1, 7), nil, 0, 1},
		// The condition is not evaluated again when its statements change it.
		{"task 1 0 0;if 1 -1 0;set 0 1 0 0;send 1 -1 5;set 0 1 3 0;end", varsOf(9), nil, varsOf(3), []int{5}, 0, 0},
		// A statement reads its variable before it writes it.
		{"task 1 0 0;set 0 1 -1 -1;loop 5;set 0 1 -1 -1;end", varsOf(3), nil, varsOf(192), nil, 0, 0},
		{"task 1 0 0;set 0 1 -1 -2;set 1 2 -1 -2;set 0 2 -1 -2", varsOf(3, 11), nil, varsOf(11, 3), nil, 0, 0},
		// Values that do not exist are 0.
		{"task 1 0 0;loop 3;sense 0 3;send 1 -1 1;end", varsOf(4), []int{7}, varsOf(0), []int{8, 1, 1}, 0, 3},
		{"task 1 0 0;sense 0 3;sense 1 2", varsOf(4, 4, 4), nil, varsOf(0, 0, 4), nil, 0, 2},
		{"task 1 0 0;sense 0 1", varsOf(4, 5), []int{-1000000, 3, 4}, varsOf(-1000000, 5), nil, 0, 1},
		{"task 1 0 0;sense 7 1;set 6 1 -8 -8;send 3 -7 -8", varsOf(), []int{1000000}, varsOf(0, 0, 0, 0, 0, 0, 1000000, 1000000), []int{1000000}, 0, 1},
		// Without statements.
		{"task 1 0 0", distinctVars(), []int{5}, distinctVars(), nil, 0, 0},
	} {
		want := impl.Effect{Vars: c.after, Sent: c.sent, Next: c.next, Used: c.uses}
		p := textProgram(t, c.text)
		checkEffect(t, p, 0, c.vars, c.used, want)
		if got := wantedEffect(p, 0, c.vars, c.used); !sameEffect(got, want) {
			t.Errorf("%s: the model has %v; want %v", c.text, got, want)
		}
	}
}

// The expression for the following task reads the variables as the task has left them.
func TestEffectOnTheFollowingTask(t *testing.T) {
	p := textProgram(t, "task 1 -1 0;sense 0 1;task 2 0 -2;set 1 1 -2 1;task 1 5 0;send 1 -3 0;set 2 1 1 1;task 3 -4 -4;loop 3;sense 3 0;end;sense 4 1")
	for _, c := range []struct {
		task       int
		vars, used []int
		after      []int
		sent       []int
		next       int
	}{
		{0, varsOf(3, 1), []int{6}, varsOf(6, 1), nil, 2}, {0, varsOf(3, 1), []int{-1}, varsOf(-1, 1), nil, 3}, {0, varsOf(3, 1), []int{-4}, varsOf(-4, 1), nil, 0}, {0, varsOf(3, 1), nil, varsOf(0, 1), nil, 0}, {0, varsOf(3, 1), []int{1000000}, varsOf(1000000, 1), nil, 0}, {0, varsOf(3, 1), []int{-999997}, varsOf(-999997, 1), nil, 3},
		{1, varsOf(3, 1), []int{6}, varsOf(3, 2), nil, 2}, {1, varsOf(3, 2), nil, varsOf(3, 3), nil, 1}, {1, varsOf(3, -3), nil, varsOf(3, -2), nil, 2}, {1, varsOf(0, 1000000), nil, varsOf(0, 1000000), nil, 0},
		{2, varsOf(3, 1, 7), []int{6}, varsOf(3, 1, 2), []int{7}, 1},
		{3, varsOf(3, 1, 7, 8), []int{6, 1, 3, 5}, varsOf(3, 1, 7, 3, 5), nil, 1}, {3, varsOf(), []int{6, 1, 1000000, 5}, varsOf(0, 0, 0, 1000000, 5), nil, 0}, {3, varsOf(), []int{6, 1, 2, -5}, varsOf(0, 0, 0, 2, -5), nil, 0},
	} {
		used := []int{1, 0, 0, 4}[c.task]
		checkEffect(t, p, c.task, c.vars, c.used, impl.Effect{Vars: c.after, Sent: c.sent, Next: c.next, Used: used})
	}
}

func TestSensesOf(t *testing.T) {
	for _, c := range []struct {
		text     string
		vars     []int
		readings []int
		at       int
		want     []int
	}{
		{"task 1 0 0;sense 0 1;set 1 1 -2 1;send 1 -1 -2", varsOf(), []int{7, 9}, 3, []int{109}},
		{"task 1 0 0;sense 0 0;sense 0 1;sense 0 2;sense 0 3", varsOf(), []int{7, 9, 20}, 2, []int{20, 107, 209, 320}},
		{"task 1 0 0;loop 5;sense 2 0;end", varsOf(), []int{4, 5, 6}, 0, []int{4, 5, 6, 4, 5}},
		{"task 1 0 0;sense 1 3;loop 2;sense 2 0;loop 2;sense 2 1;end;end;sense 1 2", varsOf(), []int{10, 20, 30, 40, 50}, 1, []int{320, 30, 140, 150, 10, 120, 130, 240}},
		// What has been sensed decides whether a sensor is read again.
		{"task 1 0 0;loop 4;sense 0 0;if 6 -1 10;sense 1 2;end;end", varsOf(), []int{3, 30, 10, 9, 90, 11}, 0, []int{3, 230, 10, 9, 290, 11}},
		{"task 1 0 0;loop 4;sense 0 0;if 6 -1 10;sense 1 2;end;end", varsOf(), []int{3, 30, 10, 9, 90, 11}, 5, []int{11, 3, 230, 10, 9, 290}},
		{"task 1 0 0;if 1 -1 0;sense 1 0;end;sense 2 1", varsOf(1), []int{8, 9}, 0, []int{8, 109}},
		{"task 1 0 0;if 1 -1 0;sense 1 0;end;sense 2 1", varsOf(0), []int{8, 9}, 0, []int{108}},
		{"task 1 0 0;sense 0 3;sense 0 0;sense 0 1", varsOf(), []int{1000000, -1000000, 999901}, 0, []int{1000000, -1000000, 1000000}},
		{"task 1 0 0;sense 0 3;sense 0 2", varsOf(), nil, 0, []int{0, 0}},
		{"task 1 0 0;loop 3;sense 0 0;end", varsOf(), []int{5, 6, 7}, 1000000, []int{6, 7, 5}},
		{"task 1 0 0;set 0 1 1 1;send 1 -1 0", varsOf(), []int{5, 6, 7}, 2, nil},
		{"task 1 0 0", varsOf(), []int{5}, 0, nil},
	} {
		p := textProgram(t, c.text)
		checkSenses(t, p, 0, c.vars, c.readings, c.at, c.want)
		if got := wantedSenses(p.Tasks[0], c.vars, c.readings, c.at); !slices.Equal(got, c.want) {
			t.Errorf("%s: the model senses %v; want %v", c.text, got, c.want)
		}
	}
}

// Each task of a program is found by its number.
func TestTasksOfAProgram(t *testing.T) {
	texts := []string{}
	for k := range 6 {
		texts = append(texts, strings.ReplaceAll("task 1 # 1;loop 2;sense # 1;end;send 1 10 #", "#", string(rune('0'+k))))
	}
	for n := 1; n <= 6; n++ {
		p := textProgram(t, strings.Join(texts[:n], ";"))
		for k := range n {
			after := make([]int, 8)
			after[k] = 9
			checkEffect(t, p, k, varsOf(), []int{8, 9}, impl.Effect{Vars: after, Sent: []int{10 + k}, Next: (k + 1) % n, Used: 2})
			checkSenses(t, p, k, varsOf(), []int{1, 2, 3}, k, []int{101 + k%3, 101 + (k+1)%3})
		}
		for _, wrong := range noTasks(n) {
			if wrong < 0 || wrong >= n {
				checkNothing(t, p, wrong, varsOf())
			}
		}
	}
}

// The greatest numbers of senses and of sent values that a block can have.
func TestEffectOfTheLongestTasks(t *testing.T) {
	used, sent := []int{}, []int{}
	for n := range 2250 {
		used, sent = append(used, n*n%1999-999), append(sent, 7)
	}
	start, end := "task 1 0 0;loop 5;loop 5;loop 5;", ";end;end;end"
	senses := textProgram(t, start+strings.Repeat("sense 3 0;", 17)+"sense 4 0"+end)
	checkEffect(t, senses, 0, varsOf(), used, impl.Effect{Vars: varsOf(0, 0, 0, used[2248], used[2249]), Used: 2250})
	checkSenses(t, senses, 0, varsOf(), used, 0, used)
	checkSenses(t, senses, 0, varsOf(), used, 5*2250, used)
	checkSenses(t, senses, 0, varsOf(), used, 1000000, slices.Concat(used[1000000%2250:], used[:1000000%2250]))
	sends := textProgram(t, start+strings.Repeat("send 1 7 0;", 17)+"send 5 7 6"+end)
	checkEffect(t, sends, 0, distinctVars(), used, impl.Effect{Vars: distinctVars(), Sent: sent})
	if impl.LongestRun(senses.Tasks[0].Body) != 2250 || impl.LongestRun(sends.Tasks[0].Body) != 2250 {
		t.Error("there are longer blocks")
	}
}

func TestEffectsWithoutElements(t *testing.T) {
	for _, list := range [][]impl.Stmt{nil, {}, blockOfWords("3=3 !4")[:0], blockOfWords("3=3 !4")[2:]} {
		for next, want := range map[impl.Expr]int{constantExpr(0): 0, constantExpr(7): 1, constantExpr(-1): 2, constantExpr(-2): 1} {
			task := impl.Task{Body: list, Next: next}
			for _, used := range someUsed() {
				checkEffect(t, programOfTasks(task, task, task), 1, distinctVars(), used, impl.Effect{Vars: distinctVars(), Next: want})
			}
			for _, readings := range someReadings() {
				checkSenses(t, programOfTasks(task), 0, distinctVars(), readings, 4, nil)
			}
		}
		checkNothing(t, programOfTasks(impl.Task{Body: list}), 0, distinctVars())
	}
	for _, used := range emptyLists() {
		checkEffect(t, textProgram(t, "task 1 -1 0;sense 0 1;loop 2;sense 1 0;end"), 0, distinctVars(), used, impl.Effect{Vars: append([]int{0, 0}, distinctVars()[2:]...), Used: 3})
	}
	for _, readings := range emptyLists() {
		checkSenses(t, textProgram(t, "task 1 -1 0;sense 0 3;loop 2;sense 1 0;end"), 0, distinctVars(), readings, 7, []int{0, 0, 0})
	}
	checkNothing(t, impl.Program{}, 0, distinctVars())
	checkNothing(t, impl.Program{}, -1, nil)
	checkNothing(t, impl.Program{}, 0, nil)
}

func TestEffectsOfInvalidVariables(t *testing.T) {
	p := textProgram(t, "task 1 0 1;sense 0 1;task 1 0 0;send 1 1 2;task 1 0 0;set 1 1 -2 1")
	for _, vars := range invalidVars() {
		for task := range 3 {
			checkNothing(t, p, task, vars)
		}
		checkNothing(t, programOf(""), 0, vars)
		checkNothing(t, p, 3, vars)
	}
}

func TestEffectsOfInvalidPrograms(t *testing.T) {
	for _, p := range invalidPrograms() {
		checkNothing(t, p, 0, distinctVars())
		checkNothing(t, p, len(p.Tasks)-1, distinctVars())
		checkNoEffect(t, p, 0, distinctVars()[1:], []int{1000001})
		checkSenses(t, p, 0, nil, []int{1000001}, -1, nil)
	}
	for _, list := range invalidBodies()[:40] {
		p := programOfTasks(taskOf("r"), impl.Task{Body: list, Next: constantExpr(0)})
		checkNothing(t, p, 0, distinctVars())
		checkNothing(t, p, 1, distinctVars())
	}
}

// A value that is wrong makes the arguments invalid also where no sense uses it.
func TestUsedValuesThatAreNoValues(t *testing.T) {
	for _, text := range []string{"task 1 0 0", "task 1 0 0;sense 0 1", "task 1 0 0;loop 4;sense 0 1;send 1 -1 0;end", "task 1 0 0;if 1 0 0;sense 0 1;end"} {
		p := textProgram(t, text)
		for size := 1; size <= 6; size++ {
			for at := range size {
				for _, wrong := range noValues() {
					used := slices.Repeat([]int{5}, size)
					used[at] = wrong
					checkNoEffect(t, p, 0, distinctVars(), used)
					checkSenses(t, p, 0, distinctVars(), used, 0, nil)
					checkSenses(t, p, 0, distinctVars(), used, 3, nil)
				}
				for _, right := range []int{-1000000, -999999, 0, 999999, 1000000} {
					used := slices.Repeat([]int{5}, size)
					used[at] = right
					checkEffect(t, p, 0, distinctVars(), used, wantedEffect(p, 0, distinctVars(), used))
					checkSenses(t, p, 0, distinctVars(), used, 3, wantedSenses(p.Tasks[0], distinctVars(), used, 3))
				}
			}
		}
	}
}

func TestNumbersOfTheFirstReading(t *testing.T) {
	p, readings := textProgram(t, "task 1 0 0;loop 3;sense 0 1;end"), []int{1, 2, 3, 4, 5, 6, 7}
	for _, at := range []int{0, 1, 6, 7, 8, 13, 14, 100, 65536, 500000, 500001, 999998, 999999, 1000000} {
		checkSenses(t, p, 0, distinctVars(), readings, at, []int{101 + at%7, 101 + (at+1)%7, 101 + (at+2)%7})
		checkSenses(t, p, 0, distinctVars(), nil, at, []int{0, 0, 0})
	}
	for _, at := range []int{-1, -2, -7, -1000000, 1000001, 1000002, 2000000, 1 << 32, math.MaxInt, math.MaxInt - 1, math.MinInt, math.MinInt + 1} {
		checkSenses(t, p, 0, distinctVars(), readings, at, nil)
		checkSenses(t, p, 0, distinctVars(), nil, at, nil)
		checkSenses(t, programOf(""), 0, distinctVars(), readings, at, nil)
	}
}

func TestEffectsOfManyTasks(t *testing.T) {
	used, kinds := someUsed(), map[bool]bool{}
	for i, task := range variedTasks() {
		for j, vars := range variedVars() {
			p, values := programOfTasks(task), used[(i+j)%len(used)]
			want := wantedEffect(p, 0, vars, values)
			checkEffect(t, p, 0, vars, values, want)
			kinds[want.Used > len(values)] = true
		}
	}
	if len(kinds) != 2 {
		t.Error("no task of this test uses more values than there are, or none uses fewer")
	}
}

func TestEffectsOfManyPrograms(t *testing.T) {
	used, readings, nexts := someUsed(), someReadings(), map[int]bool{}
	for i, p := range append(variedPrograms(), plainPrograms()...) {
		for task := range p.Tasks {
			vars := variedVars()[(i+task)%8]
			checkEffect(t, p, task, vars, used[i%len(used)], wantedEffect(p, task, vars, used[i%len(used)]))
			checkSenses(t, p, task, vars, readings[i%len(readings)], i%120, wantedSenses(p.Tasks[task], vars, readings[i%len(readings)], i%120))
			nexts[effectOf(t, p, task, vars, nil).Next] = true
		}
	}
	if len(nexts) != 6 {
		t.Errorf("the following tasks of this test are %v", nexts)
	}
}

// Promise 12: with the values that it senses, a task does what it does with the sensors; more values do not matter, and missing ones are 0.
func TestEffectsWithSensedValues(t *testing.T) {
	readings := someReadings()
	for i, task := range variedTasks() {
		p, vars, list, at := programOfTasks(task, task), variedVars()[i%8], readings[i%len(readings)], i%90
		senses := impl.SensesOf(p, 1, vars, list, at)
		checkSenses(t, p, 1, vars, list, at, wantedSenses(task, vars, list, at))
		deeds := sensedDeedsOf(task, vars, func(sensor, n int) int { return wantedReading(list, sensor, at+n) })
		want := effectOfDeeds(vars, deeds, 2)
		checkEffect(t, p, 1, vars, senses, want)
		checkEffect(t, p, 1, vars, append(slices.Clone(senses), 1, -1000000, 1000000), want)
		if want.Used != len(senses) {
			t.Errorf("%v with %v senses %v, but uses %d values", task, vars, senses, want.Used)
		}
		for count := range min(len(senses), 4) {
			fewer := effectOf(t, p, 1, vars, senses[:count])
			checkEffect(t, p, 1, vars, append(slices.Clone(senses[:count]), make([]int, 2250)...), fewer)
		}
		if len(list) > 0 {
			checkSenses(t, p, 1, vars, list, at+3*len(list), senses)
		}
	}
}

// Promise 12: no execution does more than the longest run, which is reached where all conditions hold.
func TestNoTaskDoesMoreThanItsLongestRun(t *testing.T) {
	used := someUsed()
	for i, task := range variedTasks() {
		longest := impl.LongestRun(task.Body)
		for j, vars := range variedVars() {
			e := effectOf(t, programOfTasks(task), 0, vars, used[(i+j)%len(used)])
			if len(e.Sent)+e.Used > longest {
				t.Errorf("%v with %v sends %d and senses %d; the longest run is %d", task, vars, len(e.Sent), e.Used, longest)
			}
		}
		plain := slices.Clone(task.Body)
		for k, s := range plain {
			switch s.Kind {
			case impl.StIf:
				plain[k].E = constantExpr(1)
			case impl.StSet:
				plain[k] = impl.Stmt{Kind: impl.StSend, E: s.E}
			}
		}
		e := effectOf(t, programOfTasks(impl.Task{Body: plain, Next: task.Next}), 0, distinctVars(), nil)
		if len(e.Sent)+e.Used != longest {
			t.Errorf("%v sends %d and senses %d; the longest run is %d", plain, len(e.Sent), e.Used, longest)
		}
	}
}

// Promise 12: two blocks one after the other do what both do, the second with the variables and the values that the first leaves.
func TestBlocksAddUp(t *testing.T) {
	tasks, used, pairs := variedTasks(), someUsed(), 0
	for i := 1; i < len(tasks); i++ {
		first, second := tasks[i-1], tasks[i]
		both := impl.Task{Body: slices.Concat(first.Body, second.Body), Next: second.Next}
		if len(both.Body) > impl.MaxStmts {
			continue
		}
		pairs++
		if got, want := impl.LongestRun(both.Body), impl.LongestRun(first.Body)+impl.LongestRun(second.Body); got != want {
			t.Errorf("the longest run of %v is %d; want %d", both.Body, got, want)
		}
		vars, values := variedVars()[i%8], used[i%len(used)]
		a := effectOf(t, programOfTasks(first), 0, vars, values)
		b := effectOf(t, programOfTasks(second), 0, a.Vars, values[min(a.Used, len(values)):])
		checkEffect(t, programOfTasks(both), 0, vars, values, impl.Effect{Vars: b.Vars, Sent: slices.Concat(a.Sent, b.Sent), Used: a.Used + b.Used})
	}
	if pairs < 500 {
		t.Errorf("only %d blocks fit", pairs)
	}
}

// Promise 12: only what may be written changes, and what must be written may be written.
func TestOnlyWrittenVariablesChange(t *testing.T) {
	used, changes := someUsed(), false
	for i, task := range variedTasks() {
		may := impl.MayWrite(task.Body)
		for _, k := range impl.MustWrite(task.Body) {
			if !impl.HasVar(may, k) {
				t.Errorf("%v must write %d, but may write %v", task, k, may)
			}
		}
		for j, vars := range variedVars() {
			e := effectOf(t, programOfTasks(task), 0, vars, used[(i+j)%len(used)])
			for k := range 8 {
				if e.Vars[k] != vars[k] && !impl.HasVar(may, k) {
					t.Errorf("%v may write %v, but makes %v of %v", task, may, e.Vars, vars)
				}
				changes = changes || e.Vars[k] != vars[k]
			}
		}
	}
	if !changes {
		t.Error("no task of this test changes a variable")
	}
}

// withOthers has another number in each variable that changes tells.
func withOthers(vars []int, other int, changes func(k int) bool) []int {
	changed := slices.Clone(vars)
	for k := range changed {
		if changes(k) {
			changed[k] = other
		}
	}
	return changed
}

// Promise 12: what is never read first does not influence what is sent, what follows and what is always written.
func TestVariablesThatAreNeverReadFirst(t *testing.T) {
	lists := someUsed()
	for i, task := range variedTasks() {
		p, first, may, must := programOfTasks(task, task, task, task, task), impl.MayReadFirst(task), impl.MayWrite(task.Body), impl.MustWrite(task.Body)
		for j, vars := range variedVars() {
			used := lists[(i+j)%len(lists)]
			want := effectOf(t, p, 3, vars, used)
			for _, other := range []int{0, -3, 1000000} {
				changed := withOthers(vars, other, func(k int) bool { return !impl.HasVar(first, k) })
				got := effectOf(t, p, 3, changed, used)
				if !slices.Equal(got.Sent, want.Sent) || got.Next != want.Next || got.Used != want.Used {
					t.Errorf("%v reads %v first, but does %v with %v and %v with %v", task, first, want, vars, got, changed)
				}
				for k := range 8 {
					if impl.HasVar(must, k) && got.Vars[k] != want.Vars[k] || !impl.HasVar(may, k) && got.Vars[k] != changed[k] {
						t.Errorf("%v must write %v and may write %v, but makes %v of %v", task, must, may, got.Vars, changed)
					}
				}
			}
		}
	}
}

// Promise 12: what may be written and need not be logged does not influence anything.
func TestVariablesThatNeedNotBeLogged(t *testing.T) {
	lists := someUsed()
	for i, task := range variedTasks() {
		p, log, may := programOfTasks(task, task, task, task, task), impl.MustLog(task), impl.MayWrite(task.Body)
		for j, vars := range variedVars() {
			used := lists[(i+j)%len(lists)]
			want := effectOf(t, p, 2, vars, used)
			for _, other := range []int{0, -3, 1000000} {
				changed := withOthers(vars, other, func(k int) bool { return impl.HasVar(may, k) && !impl.HasVar(log, k) })
				checkEffect(t, p, 2, changed, used, want)
			}
		}
	}
}

// Promise 12 from the other side: a variable that is read first or must be logged can matter.
func TestVariablesThatMatter(t *testing.T) {
	for _, c := range []struct {
		text string
		k    int
	}{
		{"task 1 0 0;send 1 -1 0", 0}, {"task 1 0 0;set 3 1 -4 1", 3}, {"task 1 0 0;send 1 -4 0;sense 3 1", 3}, {"task 1 0 0;if 1 -6 0;send 1 1 0;end", 5}, {"task 1 -8 0;task 1 0 0", 7}, {"task 1 0 0;loop 2;send 1 -3 0;sense 2 1;end", 2}, {"task 1 0 0;if 1 0 0;sense 4 1;end;send 1 -5 0", 4},
	} {
		p := textProgram(t, c.text)
		if sameEffect(effectOf(t, p, 0, varsOf(), []int{5}), effectOf(t, p, 0, withOthers(varsOf(), 1, func(k int) bool { return k == c.k }), []int{5})) {
			t.Errorf("%s: the variable %d does not matter", c.text, c.k)
		}
	}
}

// sendingEachSense sends each value directly behind the sense that yields it, and nothing else.
func sendingEachSense(list []impl.Stmt) []impl.Stmt {
	changed := []impl.Stmt{}
	for _, s := range list {
		if s.Kind != impl.StSend {
			changed = append(changed, s)
		}
		if s.Kind == impl.StSense {
			changed = append(changed, impl.Stmt{Kind: impl.StSend, E: constantExpr(-1 - s.Var)})
		}
	}
	return changed
}

// Promise 12: each value is used once, in the order of the senses, also within loops.
func TestEachValueIsUsedOnce(t *testing.T) {
	longest := 0
	for i, task := range variedTasks() {
		task.Body = sendingEachSense(task.Body)
		if len(task.Body) > impl.MaxStmts {
			continue
		}
		p, vars, used := programOfTasks(task), variedVars()[i%8], []int{}
		for n := range 2250 {
			used = append(used, 1+(n+i)%3000)
		}
		e := effectOf(t, p, 0, vars, used)
		if !slices.Equal(e.Sent, used[:e.Used]) {
			t.Errorf("%v uses %d of %v, but senses %v", task, e.Used, used, e.Sent)
		}
		longest = max(longest, e.Used)
		senses := impl.SensesOf(p, 0, vars, used, 0)
		checkEffect(t, p, 0, vars, senses, impl.Effect{Vars: effectOf(t, p, 0, vars, senses).Vars, Sent: senses, Used: len(senses)})
	}
	if longest < 100 {
		t.Errorf("the tasks of this test use at most %d values", longest)
	}
}

// Promise 12: a task that begins with the same variables and senses the same values does the same, whatever is executed in between.
func TestTheSameTaskDoesTheSame(t *testing.T) {
	tasks, used := variedTasks(), someUsed()
	for i, task := range tasks[:1000] {
		p, vars, values := programOfTasks(task), variedVars()[i%8], used[i%len(used)]
		want := effectOf(t, p, 0, vars, values)
		senses := impl.SensesOf(p, 0, vars, []int{3, 1, 4}, i)
		impl.TaskEffect(programOfTasks(tasks[i+1]), 0, want.Vars, used[(i+1)%len(used)])
		impl.TaskEffect(p, 0, want.Vars, senses)
		checkEffect(t, p, 0, slices.Clone(vars), slices.Clone(values), want)
		checkSenses(t, p, 0, slices.Clone(vars), []int{3, 1, 4}, i, senses)
		// A copy of the task at another place has the same effect, but for the task that follows.
		got := effectOf(t, programOfTasks(taskOf("x"), tasks[i+1], task), 2, vars, values)
		got.Next = 0
		if !sameEffect(got, want) {
			t.Errorf("%v has the effect %v at one place, and %v at another", task, want, got)
		}
	}
}

func TestTaskResultsAreNewMemory(t *testing.T) {
	for i, task := range variedTasks()[:600] {
		p, vars, used, readings := programOfTasks(task), slices.Clone(variedVars()[i%8]), slices.Clone(someUsed()[i%6]), slices.Clone(someReadings()[i%9])
		keptVars, keptUsed, keptReadings := slices.Clone(vars), slices.Clone(used), slices.Clone(readings)
		want, wanted := wantedEffect(p, 0, vars, used), wantedSenses(task, vars, readings, 5)
		first, senses := effectOf(t, p, 0, vars, used), impl.SensesOf(p, 0, vars, readings, 5)
		for range 2 {
			again := effectOf(t, p, 0, vars, used)
			spoil(again.Sent)
			if !slices.Equal(again.Vars, want.Vars) {
				t.Errorf("the sent values share memory with the variables: %v", again)
			}
			spoil(again.Vars)
			spoil(impl.SensesOf(p, 0, vars, readings, 5))
		}
		again := effectOf(t, p, 0, vars, used)
		spoil(again.Vars)
		if !slices.Equal(again.Sent, want.Sent) {
			t.Errorf("the variables share memory with the sent values: %v", again)
		}
		if !slices.Equal(vars, keptVars) || !slices.Equal(used, keptUsed) || !slices.Equal(readings, keptReadings) {
			t.Errorf("changing a result changes %v, %v or %v", vars, used, readings)
		}
		spoil(vars)
		spoil(used)
		spoil(readings)
		if !sameEffect(first, want) || !slices.Equal(senses, wanted) {
			t.Errorf("results share memory with an argument or a later one: %v and %v", first, senses)
		}
	}
}

// Neither the arguments nor what lies behind them is written.
func TestTaskArgumentsAreKept(t *testing.T) {
	programs := append(append(plainPrograms(), variedPrograms()[:200]...), invalidPrograms()[:100]...)
	for i, p := range programs {
		given, vars, used, readings := programWithRoom(p), withRoom(variedVars()[i%8]), withRoom(someUsed()[i%6]), withRoom(someReadings()[i%9])
		for task := range given.Tasks {
			impl.TaskEffect(given, task, vars, used)
			impl.SensesOf(given, task, vars, readings, 3)
			impl.ReadSensor(readings, task, i)
		}
		if !isProgramKept(given, p) || !isKept(vars, variedVars()[i%8]) || !isKept(used, someUsed()[i%6]) || !isKept(readings, someReadings()[i%9]) {
			t.Errorf("%v or %v, %v or %v was changed", given, vars, used, readings)
		}
	}
}
