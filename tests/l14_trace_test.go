package tests

import (
	"math"
	"math/big"
	"slices"
	"strconv"
	"strings"
	"testing"

	"loop.example/g00983/impl"
)

func micro(cost, at, value int) impl.Micro { return impl.Micro{Cost: cost, At: at, Value: value} }

// microsOf reads steps: a number by itself is the cost of a step without a write, and 8:128 writes 128 into the word 8.
func microsOf(text string) []impl.Micro {
	steps := []impl.Micro{}
	for _, field := range strings.Fields(text) {
		first, second, isWrite := strings.Cut(field, ":")
		number, _ := strconv.Atoi(first)
		if !isWrite {
			steps = append(steps, micro(number, -1, 0))
			continue
		}
		value, _ := strconv.Atoi(second)
		steps = append(steps, micro(3, number, value))
	}
	return steps
}

func equalTrace(a, b impl.Trace) bool {
	return slices.Equal(a.Steps, b.Steps) && slices.Equal(a.Used, b.Used)
}

// cleanMemory has these variables and an empty log; behind the count and the tail, there are words that are no values.
func cleanMemory(vars []int, task, tail int) []int {
	mem := filledMemory(controlParts{task, 0, tail})
	copy(mem, vars)
	return mem
}

// A traceModel follows the text of the document.
type traceModel struct {
	trace impl.Trace
	mem   []int
	log   []int
	count int
	sent  int
}

func (m *traceModel) write(at, value int) {
	m.trace.Steps = append(m.trace.Steps, micro(3, at, value))
	m.mem[at] = value
}

func (m *traceModel) assign(k, value, task, tail int) {
	if slices.Contains(m.log, k) {
		m.write(9+2*m.count, k)
		m.write(10+2*m.count, m.mem[k])
		m.count++
		m.write(8, wantedWord(controlParts{task, m.count, tail}))
	}
	m.log = slices.DeleteFunc(m.log, func(v int) bool { return v == k })
	m.write(k, value)
}

func (m *traceModel) send(value, tail int) {
	if tail+m.sent < 24 {
		m.write(25+tail+m.sent, value)
	}
	m.sent++
}

// wantedTrace needs valid arguments and a clean memory.
func wantedTrace(p impl.Program, mem, readings []int, at int) impl.Trace {
	number, tail := mem[8]%8, mem[8]/128
	task := p.Tasks[number]
	deeds := sensedDeedsOf(task, mem[:8], func(sensor, n int) int { return wantedReading(readings, sensor, at+n) })
	m := traceModel{mem: slices.Clone(mem), log: wantedLog(task)}
	for _, d := range deeds {
		m.trace.Steps = append(m.trace.Steps, micro([]int{1, 2, 5, 4, 1, 1}[d.kind], -1, 0))
		switch d.kind {
		case 1:
			m.assign(d.variable, d.value, number, tail)
		case 2:
			m.trace.Used = append(m.trace.Used, d.value)
			m.assign(d.variable, d.value, number, tail)
		case 3:
			m.send(d.value, tail)
		}
	}
	next := effectOfDeeds(mem[:8], deeds, len(p.Tasks)).Next
	m.write(8, wantedWord(controlParts{next, 0, min(tail+m.sent, 24)}))
	return m.trace
}

func checkTrace(t *testing.T, p impl.Program, mem, readings []int, at int, want impl.Trace) {
	t.Helper()
	if got, ok := impl.TraceOf(p, mem, readings, at); !ok || !equalTrace(got, want) {
		t.Errorf("TraceOf(%v, %v, %v, %d) = %v, %v; want %v", p, mem, readings, at, got, ok, want)
	}
}

func checkNoTrace(t *testing.T, p impl.Program, mem, readings []int, at int) {
	t.Helper()
	if got, ok := impl.TraceOf(p, mem, readings, at); ok || !equalTrace(got, impl.Trace{}) {
		t.Errorf("TraceOf(%v, %v, %v, %d) = %v, %v; want none", p, mem, readings, at, got, ok)
	}
}

// checkNoTraces expects a refusal because of the program or the memory, whatever the other arguments are.
func checkNoTraces(t *testing.T, p impl.Program, mem []int) {
	t.Helper()
	checkNoTrace(t, p, mem, nil, 0)
	checkNoTrace(t, p, mem, []int{3, 4}, 5)
	checkNoTrace(t, p, mem, []int{1000001}, 0)
	checkNoTrace(t, p, mem, []int{3}, -1)
}

// traceOf expects that there is a trace.
func traceOf(t *testing.T, p impl.Program, mem, readings []int, at int) impl.Trace {
	t.Helper()
	trace, ok := impl.TraceOf(p, mem, readings, at)
	if !ok {
		t.Fatalf("TraceOf(%v, %v, %v, %d) refuses", p, mem, readings, at)
	}
	return trace
}

// A traced task has valid arguments of TraceOf.
type tracedTask struct {
	program  impl.Program
	mem      []int
	readings []int
	at       int
}

func (c tracedTask) trace(t *testing.T) impl.Trace {
	t.Helper()
	return traceOf(t, c.program, c.mem, c.readings, c.at)
}

// variedTraces are the tasks of many programs, with outboxes of every length.
func variedTraces() []tracedTask {
	list, readings := []tracedTask{}, someReadings()
	for i, p := range append(variedPrograms(), plainPrograms()...) {
		for task := range p.Tasks {
			n := i + 5*task
			list = append(list, tracedTask{p, cleanMemory(variedVars()[n%8], task, n%25), readings[n%len(readings)], n % 120})
		}
	}
	return list
}

// A case of a text has the task 0 of its program, or another one, as the current one.
type traceCase struct {
	text     string
	task     int
	tail     int
	vars     []int
	readings []int
	at       int
	steps    string
	used     []int
}

func checkTraceCases(t *testing.T, cases []traceCase) {
	t.Helper()
	for _, c := range cases {
		p, mem := textProgram(t, c.text), cleanMemory(c.vars, c.task, c.tail)
		want := impl.Trace{Steps: microsOf(c.steps), Used: c.used}
		checkTrace(t, p, mem, c.readings, c.at, want)
		if got := wantedTrace(p, mem, c.readings, c.at); !equalTrace(got, want) {
			t.Errorf("%s: the model has %v; want %v", c.text, got, want)
		}
	}
}

func TestTraceOf(t *testing.T) {
	every := "task 6 -1 10;loop 2;sense 0 1;set 1 1 -2 -1;if 6 -1 5;send 1 -1 100;end;end;send 1 -2 0;task 2 -1 -3;sense 2 0;send 3 -1 -3;set 1 2 -2 1"
	checkTraceCases(t, []traceCase{
		{"task 1 0 0;sense 0 1;set 1 1 -2 1;send 1 -1 -2", 0, 0, varsOf(), []int{7}, 0, "5 0:107 2 9:1 10:0 8:8 1:1 4 25:108 1 8:128", []int{107}},
		// Conditions that hold and that do not, within a loop, with the readings in both orders.
		{every, 0, 0, varsOf(3, 7), []int{-96, -80}, 0, "1 5 0:4 2 9:1 10:7 8:8 1:11 1 4 25:104 5 0:20 2 1:31 1 4 26:31 1 8:256", []int{4, 20}},
		{every, 0, 0, varsOf(3, 7), []int{-96, -80}, 1, "1 5 0:20 2 9:1 10:7 8:8 1:27 1 5 0:4 2 1:31 1 4 25:104 4 26:31 1 8:257", []int{20, 4}},
		// Another task than the first one, with values in the outbox.
		{every, 1, 5, varsOf(3, 7), []int{5}, 0, "5 2:5 4 30:15 2 9:1 10:7 8:649 1:6 1 8:768", []int{5}},
		{every, 1, 0, varsOf(3, 7), []int{8, 2}, 3, "5 2:2 4 25:6 2 9:1 10:7 8:9 1:6 1 8:129", []int{2}},
		{every, 1, 23, varsOf(3, 7), nil, 9, "5 2:0 4 48:0 2 9:1 10:7 8:2953 1:6 1 8:3073", []int{0}},
		// A task that follows itself, and one that is followed by each of three.
		{"task 1 0 1;task 1 -1 0;sense 0 0;task 1 0 0", 1, 2, varsOf(), []int{4}, 0, "5 0:4 1 8:257", []int{4}},
		{"task 1 0 1;task 1 -1 0;sense 0 0;task 1 0 0", 1, 2, varsOf(), []int{5}, 0, "5 0:5 1 8:258", []int{5}},
		{"task 1 0 1;task 1 -1 0;sense 0 0;task 1 0 0", 1, 2, varsOf(), []int{-3}, 0, "5 0:-3 1 8:256", []int{-3}},
		{"task 1 0 0;task 1 0 0;task 1 0 0;task 1 0 0;task 1 0 0;task 1 0 5;set 4 1 -5 -5", 5, 24, varsOf(0, 0, 0, 0, 9), nil, 0, "2 9:4 10:9 8:3085 4:18 1 8:3077", nil},
		// Loops in loops: each execution of the inner loop is a step.
		{"task 1 0 0;loop 2;loop 3;send 1 -1 0;end;end", 0, 0, varsOf(6), nil, 0, "1 1 4 25:6 4 26:6 4 27:6 1 4 28:6 4 29:6 4 30:6 1 8:768", nil},
		{"task 1 0 0;loop 3;loop 1;end;end", 0, 4, varsOf(6), nil, 0, "1 1 1 1 1 8:512", nil},
		{"task 1 0 0;loop 2;if 1 0 0;loop 5;send 1 -1 0;end;end;if 1 0 1;end;end", 0, 4, varsOf(6), nil, 0, "1 1 1 1 1 1 8:512", nil},
		// A condition whose statements change it is evaluated once.
		{"task 1 0 0;if 1 -1 0;set 0 1 0 0;send 1 -1 5;end", 0, 0, varsOf(9), nil, 0, "1 2 9:0 10:9 8:8 0:0 4 25:5 1 8:128", nil},
		{"task 1 0 0;if 1 -1 0;set 0 1 0 0;send 1 -1 5;end", 0, 0, varsOf(0), nil, 0, "1 1 8:0", nil},
		// What is assigned is written even if it does not change anything.
		{"task 1 0 0;set 0 1 -1 0;sense 1 0", 0, 0, varsOf(4, 5), []int{5}, 0, "2 9:0 10:4 8:8 0:4 5 1:5 1 8:0", []int{5}},
		// The bounds of the values.
		{"task 1 0 0;set 0 1 -1 999;set 1 2 -2 999;sense 2 3", 0, 0, varsOf(1000000, -1000000, 5), []int{1000000}, 0, "2 9:0 10:1000000 8:8 0:1000000 2 11:1 12:-1000000 8:16 1:-1000000 5 2:1000000 1 8:0", []int{1000000}},
		// Senses in loops and conditions, by several sensors.
		{"task 1 0 0;loop 3;sense 0 1;if 7 -1 109;sense 1 2;end;end;sense 0 0", 0, 0, varsOf(), []int{8, 9, 10}, 0, "1 5 0:108 1 5 0:109 1 5 9:1 10:0 8:8 1:210 5 0:108 1 5 0:9 1 8:0", []int{108, 109, 210, 108, 9}},
	})
}

// The old value is saved at the first assignment alone, whichever statement comes first.
func TestTracesOfSecondAssignments(t *testing.T) {
	checkTraceCases(t, []traceCase{
		{"task 1 0 0;set 0 1 -1 1;set 0 1 -1 1", 0, 0, varsOf(5), nil, 0, "2 9:0 10:5 8:8 0:6 2 0:7 1 8:0", nil},
		{"task 1 0 0;loop 3;set 0 1 -1 1;end", 0, 0, varsOf(5), nil, 0, "1 2 9:0 10:5 8:8 0:6 2 0:7 2 0:8 1 8:0", nil},
		{"task 1 0 0;loop 2;send 1 -1 0;sense 0 0;end", 0, 0, varsOf(5), []int{7, 9}, 0, "1 4 25:5 5 9:0 10:5 8:8 0:7 4 26:7 5 0:9 1 8:256", []int{7, 9}},
		{"task 1 0 0;loop 2;set 0 1 -1 1;end;sense 0 2", 0, 0, varsOf(5), []int{9}, 0, "1 2 9:0 10:5 8:8 0:6 2 0:7 5 0:209 1 8:0", []int{209}},
		{"task 1 0 0;loop 2;set 0 1 -1 1;end;set 0 1 3 3", 0, 0, varsOf(5), nil, 0, "1 2 9:0 10:5 8:8 0:6 2 0:7 2 0:6 1 8:0", nil},
		{"task 1 0 0;send 1 -1 0;sense 0 0;set 0 1 3 0;sense 0 0", 0, 0, varsOf(5), []int{9, 8}, 0, "4 25:5 5 9:0 10:5 8:8 0:9 2 0:3 5 0:8 1 8:128", []int{9, 8}},
		{"task 1 0 0;set 0 1 -1 0;sense 0 0;set 0 1 -1 1", 0, 0, varsOf(5), []int{9}, 0, "2 9:0 10:5 8:8 0:5 5 0:9 2 0:10 1 8:0", []int{9}},
		// A variable that gets its old value back has been assigned, too.
		{"task 1 0 0;set 0 1 -1 1;set 0 2 -1 1;set 0 1 -1 4", 0, 0, varsOf(5), nil, 0, "2 9:0 10:5 8:8 0:6 2 0:5 2 0:9 1 8:0", nil},
		// In conditions: the first one that holds logs.
		{"task 1 0 0;if 1 1 0;sense 3 0;set 3 1 -4 -4;end", 0, 0, varsOf(0, 0, 0, 4), []int{9}, 0, "1 5 9:3 10:4 8:8 3:9 2 3:18 1 8:0", []int{9}},
		{"task 1 0 0;if 1 0 0;sense 3 0;end;if 1 1 0;set 3 1 6 0;end;if 1 1 0;sense 3 0;end", 0, 0, varsOf(0, 0, 0, 4), []int{9}, 0, "1 1 2 9:3 10:4 8:8 3:6 1 5 3:9 1 8:0", []int{9}},
		{"task 1 0 0;loop 3;sense 0 0;if 6 5 -1;set 1 1 -1 0;end;end", 0, 0, varsOf(0, 4), []int{3, 6, 7}, 0, "1 5 0:3 1 5 0:6 1 2 9:1 10:4 8:8 1:6 5 0:7 1 2 1:7 1 8:0", []int{3, 6, 7}},
		{"task 1 0 0;if 1 0 0;sense 3 0;end", 0, 0, varsOf(), []int{9}, 0, "1 1 8:0", nil},
		// Variables that need not be logged, once and again.
		{"task 1 0 0;sense 3 0;set 4 1 -4 1;sense 3 1;set 4 1 -4 2", 0, 3, varsOf(), []int{9}, 0, "5 3:9 2 4:10 5 3:109 2 4:111 1 8:384", []int{9, 109}},
		{"task 1 0 0;if 1 1 0;sense 3 0;end;sense 3 0", 0, 0, varsOf(0, 0, 0, 4), []int{9, 8}, 0, "1 5 3:9 5 3:8 1 8:0", []int{9, 8}},
		{"task 1 0 0;loop 3;set 5 1 1 0;end;send 1 -6 0", 0, 0, varsOf(), nil, 0, "1 2 5:1 2 5:1 2 5:1 4 25:1 1 8:128", nil},
		// A variable that another task of the program logs.
		{"task 1 0 1;set 0 1 7 0;task 1 0 0;set 0 1 -1 1", 0, 0, varsOf(5), nil, 0, "2 0:7 1 8:1", nil},
		{"task 1 0 1;set 0 1 7 0;task 1 0 0;set 0 1 -1 1", 1, 0, varsOf(5), nil, 0, "2 9:0 10:5 8:9 0:6 1 8:0", nil},
	})
}

// The entries and the counts follow each other in the order of the first assignments.
func TestTracesOfSeveralLoggedVariables(t *testing.T) {
	checkTraceCases(t, []traceCase{
		{"task 1 0 0;set 7 1 -8 1;set 0 1 -1 -8;set 7 1 -8 -1;set 3 1 -4 2;set 0 1 3 0", 0, 0, []int{1, 0, 0, 4, 0, 0, 0, 6}, nil, 0, "2 9:7 10:6 8:8 7:7 2 11:0 12:1 8:16 0:8 2 7:15 2 13:3 14:4 8:24 3:6 2 0:3 1 8:0", nil},
		{"task 1 0 1;task 1 0 2;loop 2;set 2 1 -3 1;send 1 -3 0;set 1 1 -2 -3;end;task 1 0 0", 1, 7, varsOf(0, 5, 6), nil, 0, "1 2 9:2 10:6 8:905 2:7 4 32:7 2 11:1 12:5 8:913 1:12 2 2:8 4 33:8 2 1:20 1 8:1154", nil},
		{"task 1 0 0;set 1 1 -2 1;sense 2 0;set 3 1 -4 1;sense 2 0", 0, 0, varsOf(0, 5, 6, 7), []int{8, 9}, 0, "2 9:1 10:5 8:8 1:6 5 2:8 2 11:3 12:7 8:16 3:8 5 2:9 1 8:0", []int{8, 9}},
	})
	for count := range 9 {
		p, mem := programLogging(0, count), cleanMemory(distinctVars(), 1, 2)
		want := impl.Trace{}
		for k := range 8 {
			if k >= count {
				want.Steps = append(want.Steps, micro(5, -1, 0), micro(3, k, 300+10*k))
				want.Used = append(want.Used, 300+10*k)
				continue
			}
			want.Steps = append(want.Steps, micro(2, -1, 0), micro(3, 9+2*k, k), micro(3, 10+2*k, mem[k]), micro(3, 8, 1+8*(k+1+16*2)), micro(3, k, min(mem[k]+7, 1000000)))
		}
		next := impl.NextTask(p, impl.MemVars(impl.ApplyWrites(mem, impl.WritesOf(want), 100)), 1)
		want.Steps = append(want.Steps, microsOf("1 8:"+strconv.Itoa(next+256))...)
		readings := []int{}
		for k := count; k < 8; k++ {
			readings = append(readings, 10*k)
		}
		checkTrace(t, p, mem, readings, 0, want)
	}
}

// A value for which there is no room is not written, and the tail stays within the outbox.
func TestTracesOfFullOutboxes(t *testing.T) {
	three := "task 1 0 0;send 1 1 0;send 1 2 0;send 1 3 0"
	checkTraceCases(t, []traceCase{
		{three, 0, 0, varsOf(), nil, 0, "4 25:1 4 26:2 4 27:3 1 8:384", nil},
		{three, 0, 20, varsOf(), nil, 0, "4 45:1 4 46:2 4 47:3 1 8:2944", nil},
		{three, 0, 21, varsOf(), nil, 0, "4 46:1 4 47:2 4 48:3 1 8:3072", nil},
		{three, 0, 22, varsOf(), nil, 0, "4 47:1 4 48:2 4 1 8:3072", nil},
		{three, 0, 23, varsOf(), nil, 0, "4 48:1 4 4 1 8:3072", nil},
		{three, 0, 24, varsOf(), nil, 0, "4 4 4 1 8:3072", nil},
		{"task 1 0 0;send 1 -1 0", 0, 22, varsOf(5), nil, 0, "4 47:5 1 8:2944", nil},
		{"task 1 0 0;send 1 -1 0", 0, 23, varsOf(5), nil, 0, "4 48:5 1 8:3072", nil},
		{"task 1 0 0;send 1 -1 0", 0, 24, varsOf(5), nil, 0, "4 1 8:3072", nil},
		// What is behind a send for which there is no room is executed.
		{"task 1 0 1;task 1 -1 0;loop 2;send 1 -1 0;set 0 1 -1 1;end;sense 1 0", 1, 24, varsOf(5), []int{6}, 0, "1 4 2 9:0 10:5 8:3081 0:6 4 2 0:7 5 1:6 1 8:3073", []int{6}},
		{"task 1 0 1;task 1 -1 0;loop 2;send 1 -1 0;set 0 1 -1 1;end;sense 1 0", 1, 23, varsOf(5), []int{6}, 0, "1 4 48:5 2 9:0 10:5 8:2953 0:6 4 2 0:7 5 1:6 1 8:3073", []int{6}},
	})
	p := textProgram(t, "task 1 0 0;loop 5;loop 5;set 0 1 -1 1;send 1 -1 0;end;end")
	for tail := range 25 {
		mem := cleanMemory(varsOf(), 0, tail)
		trace := traceOf(t, p, mem, nil, 0)
		checkTrace(t, p, mem, nil, 0, wantedTrace(p, mem, nil, 0))
		after := impl.ApplyWrites(mem, impl.WritesOf(trace), 1000)
		if !slices.Equal(after[25+tail:], numbersTo(24-tail)) || after[8] != 3072 || after[0] != 25 {
			t.Errorf("25 values behind %d others yield %v", tail, after)
		}
	}
}

func TestTracesOfEmptyTasks(t *testing.T) {
	checkTraceCases(t, []traceCase{
		{"task 1 0 0", 0, 0, varsOf(), nil, 0, "1 8:0", nil}, {"task 1 0 0", 0, 24, distinctVars(), []int{5}, 1000000, "1 8:3072", nil}, {"task 1 0 5", 0, 3, varsOf(), nil, 7, "1 8:384", nil},
		{"task 1 0 1;task 1 0 0", 0, 0, varsOf(), nil, 0, "1 8:1", nil}, {"task 1 0 1;task 1 0 0", 1, 0, varsOf(), nil, 0, "1 8:0", nil}, {"task 1 0 1;task 1 0 1", 1, 1, varsOf(), nil, 0, "1 8:129", nil},
		{"task 1 0 0;task 1 0 0;task 2 -3 -1", 2, 0, varsOf(1), nil, 0, "1 8:2", nil}, {"task 1 0 0;task 1 0 0;task 2 -3 -1", 2, 0, varsOf(2), nil, 0, "1 8:1", nil},
		{"task 1 0 0;task 1 0 0;task 1 0 0;task 1 0 0;task 1 0 0;task 1 -1 0", 5, 0, varsOf(-7), nil, 0, "1 8:5", nil},
	})
	for _, list := range [][]impl.Stmt{nil, {}, blockOfWords("3=3 !4")[:0], blockOfWords("3=3 !4")[2:]} {
		p := programOfTasks(impl.Task{Body: list, Next: constantExpr(1)}, impl.Task{Body: list, Next: constantExpr(1)})
		for _, readings := range emptyLists() {
			checkTrace(t, p, cleanMemory(distinctVars(), 0, 5), readings, 0, impl.Trace{Steps: microsOf("1 8:641")})
		}
	}
}

// Readings are used as in SensesOf.
func TestReadingsOfTraces(t *testing.T) {
	p := textProgram(t, "task 1 0 0;loop 3;sense 0 1;end")
	for _, at := range []int{0, 1, 6, 7, 8, 13, 100, 500001, 999998, 999999, 1000000} {
		steps, used := "1", []int{}
		for n := range 3 {
			value := 101 + (at+n)%7
			steps, used = steps+" 5 0:"+strconv.Itoa(value), append(used, value)
		}
		want := impl.Trace{Steps: microsOf(steps + " 1 8:0"), Used: used}
		checkTrace(t, p, cleanMemory(varsOf(), 0, 0), []int{1, 2, 3, 4, 5, 6, 7}, at, want)
		for _, readings := range emptyLists() {
			checkTrace(t, p, cleanMemory(varsOf(), 0, 0), readings, at, impl.Trace{Steps: microsOf("1 5 0:0 5 0:0 5 0:0 1 8:0"), Used: make([]int, 3)})
		}
	}
	for _, at := range []int{-1, -2, -7, -1000000, 1000001, 1000002, 2000000, 1 << 32, math.MaxInt, math.MaxInt - 1, math.MinInt, math.MinInt + 1} {
		for _, text := range []string{"task 1 0 0;loop 3;sense 0 1;end", "task 1 0 0;send 1 1 0", "task 1 0 0"} {
			checkNoTrace(t, textProgram(t, text), cleanMemory(varsOf(), 0, 0), []int{1, 2, 3}, at)
			checkNoTrace(t, textProgram(t, text), cleanMemory(varsOf(), 0, 0), nil, at)
		}
	}
}

// A reading that is no value makes the arguments invalid also where no sense uses it.
func TestTracesWithReadingsThatAreNoValues(t *testing.T) {
	for _, text := range []string{"task 1 0 0", "task 1 0 0;sense 0 1", "task 1 0 0;loop 4;sense 0 3;send 1 -1 0;end", "task 1 0 0;if 1 0 0;sense 0 1;end"} {
		p, mem := textProgram(t, text), cleanMemory(distinctVars(), 0, 3)
		for size := 1; size <= 6; size++ {
			for at := range size {
				readings := slices.Repeat([]int{5}, size)
				for _, wrong := range noValues() {
					readings[at] = wrong
					checkNoTrace(t, p, mem, readings, 0)
					checkNoTrace(t, p, mem, readings, 3)
				}
				for _, right := range []int{-1000000, -999999, 0, 999999, 1000000} {
					readings[at] = right
					checkTrace(t, p, mem, readings, 3, wantedTrace(p, mem, readings, 3))
				}
			}
		}
		// What lies behind the readings is not among them.
		checkTrace(t, p, mem, []int{5, 1000001}[:1], 0, wantedTrace(p, mem, []int{5}, 0))
	}
}

// A log that is not empty is refused, whether its entries belong to the task or not.
func TestTracesOfMemoriesWithEntries(t *testing.T) {
	p := textProgram(t, strings.Repeat("task 1 0 1;set 7 1 -8 1;sense 4 0;send 1 -8 0;", 5)+"task 1 0 0")
	for _, c := range allControls() {
		mem := filledMemory(c)
		if !impl.MemOk(p, mem) {
			t.Errorf("%v is not valid", mem)
		}
		if c.count > 0 {
			checkNoTrace(t, p, mem, nil, 0)
			checkNoTrace(t, p, mem, []int{5, 6}, 7)
		} else {
			checkTrace(t, p, mem, []int{5, 6}, 7, wantedTrace(p, mem, []int{5, 6}, 7))
		}
	}
}

func TestTracesOfInvalidMemories(t *testing.T) {
	p, mem := textProgram(t, strings.Repeat("task 1 0 1;set 7 1 -8 1;send 1 -8 0;", 2)+"task 1 0 0"), cleanMemory(distinctVars(), 2, 4)
	checkTrace(t, p, mem, nil, 0, impl.Trace{Steps: microsOf("1 8:512")})
	for _, other := range wrongSizes() {
		checkNoTraces(t, p, other)
	}
	for _, word := range append(wrongWords(), 3, 4, 5, 512+3, 512+5) {
		checkNoTraces(t, p, withWord(mem, 8, word))
	}
	for _, wrong := range noValues() {
		for _, at := range []int{0, 1, 6, 7, 25, 26, 28} {
			checkNoTraces(t, p, withWord(mem, at, wrong))
		}
		// Behind the count and the tail, any word is allowed.
		for _, at := range []int{9, 10, 24, 29, 30, 48} {
			other := withWord(mem, at, wrong)
			checkTrace(t, p, other, nil, 0, wantedTrace(p, other, nil, 0))
		}
	}
	for n, p := range tasksOfEachNumber() {
		for task := range 6 {
			if mem := cleanMemory(distinctVars(), task, 2); task < n {
				checkTrace(t, p, mem, []int{5}, 0, wantedTrace(p, mem, []int{5}, 0))
			} else {
				checkNoTraces(t, p, mem)
			}
		}
	}
	checkNoTraces(t, impl.Program{}, mem)
	checkNoTraces(t, impl.Program{}, nil)
	checkNoTraces(t, p, nil)
	checkNoTraces(t, p, []int{})
}

func TestTracesOfInvalidPrograms(t *testing.T) {
	for _, p := range invalidPrograms() {
		for _, task := range []int{0, max(0, min(len(p.Tasks), 6)-1)} {
			checkNoTraces(t, p, cleanMemory(distinctVars(), task, 3))
		}
	}
	for _, list := range invalidBodies()[:40] {
		// The wrong task is the current one, or another one.
		p := programOfTasks(impl.Task{Body: blockOfWords("3=3"), Next: constantExpr(0)}, impl.Task{Body: list, Next: constantExpr(0)})
		checkNoTraces(t, p, cleanMemory(distinctVars(), 0, 3))
		checkNoTraces(t, p, cleanMemory(distinctVars(), 1, 3))
	}
}

func TestManyTraces(t *testing.T) {
	entries, rooms, lengths := map[int]bool{}, map[bool]bool{}, 0
	for _, c := range variedTraces() {
		want := wantedTrace(c.program, c.mem, c.readings, c.at)
		checkTrace(t, c.program, c.mem, c.readings, c.at, want)
		count := 0
		for _, step := range want.Steps {
			if step.At >= 9 && step.At < 25 && step.At%2 == 1 {
				count++
			}
		}
		entries[count], rooms[want.Steps[len(want.Steps)-1].Value/128 == 24 && c.mem[8]/128 < 24] = true, true
		lengths = max(lengths, len(want.Steps))
	}
	if len(entries) < 8 || len(rooms) != 2 || lengths < 1000 {
		t.Errorf("the traces of this test have %v entries and up to %d steps; outboxes become full: %v", entries, lengths, rooms)
	}
}

// Promise 14: applied to the memory, all writes of a trace do what the task means.
func TestWritesDoWhatTheTaskMeans(t *testing.T) {
	for _, c := range variedTraces() {
		trace, task, tail := c.trace(t), c.mem[8]%8, c.mem[8]/128
		writes := impl.WritesOf(trace)
		after := impl.ApplyWrites(c.mem, writes, len(writes))
		effect := effectOf(t, c.program, task, c.mem[:8], trace.Used)
		if !impl.MemOk(c.program, after) || !slices.Equal(impl.MemVars(after), effect.Vars) || effect.Used != len(trace.Used) {
			t.Errorf("the task %d of %v with %v yields %v; want %v", task, c.program, c.mem, after, effect)
		}
		if got := impl.MemSent(after); !slices.Equal(got, firstOf(slices.Concat(c.mem[25:25+tail], effect.Sent), 24)) {
			t.Errorf("the task %d of %v with %v has sent %v; want %v", task, c.program, c.mem, got, effect)
		}
		if got := impl.PackControl(effect.Next, 0, min(tail+len(effect.Sent), 24)); after[8] != got {
			t.Errorf("the task %d of %v with %v yields the control word %d; want %d", task, c.program, c.mem, after[8], got)
		}
		if senses := impl.SensesOf(c.program, task, c.mem[:8], c.readings, c.at); !slices.Equal(trace.Used, senses) {
			t.Errorf("the task %d of %v with %v uses %v; want %v", task, c.program, c.mem, trace.Used, senses)
		}
		touched := impl.TouchedWords(writes)
		for at := range 49 {
			if !slices.Contains(touched, at) && after[at] != c.mem[at] {
				t.Errorf("the word %d is not written, but %d has become %d", at, c.mem[at], after[at])
			}
		}
	}
}

// Promise 14: the same task with the same senses has the same writes, wherever its readings come from.
func TestTracesDependOnTheirSenses(t *testing.T) {
	for _, c := range variedTraces() {
		trace := c.trace(t)
		for rounds := range 3 {
			c.at += rounds * len(c.readings)
			checkTrace(t, cloneProgram(c.program), slices.Clone(c.mem), slices.Clone(c.readings), c.at, trace)
		}
		// What is behind the count and the tail does not matter.
		mem := slices.Clone(c.mem)
		spoil(mem[9:25])
		spoil(mem[25+mem[8]/128:])
		checkTrace(t, c.program, mem, c.readings, c.at, trace)
	}
}

// Until its last write, a trace changes neither the task nor the tail, the memory stays valid, and the log restores what must be restored.
func TestUnfinishedTraces(t *testing.T) {
	for _, c := range variedTraces()[:800] {
		writes, control := impl.WritesOf(c.trace(t)), c.mem[8]
		log := impl.MustLog(c.program.Tasks[control%8])
		for count := 0; count < len(writes); count += 1 + len(writes)/40 {
			part := impl.ApplyWrites(c.mem, writes, count)
			task, entries, tail := impl.UnpackControl(part[8])
			if !impl.MemOk(c.program, part) || task != control%8 || tail != control/128 || !slices.Equal(impl.MemSent(part), impl.MemSent(c.mem)) {
				t.Errorf("%v after %d writes of %v: %v", c.mem, count, writes, part)
			}
			for i := entries - 1; i >= 0; i-- {
				part[part[9+2*i]] = part[10+2*i]
			}
			for k := range 8 {
				if part[k] != c.mem[k] && (impl.HasVar(log, k) || !impl.HasVar(impl.MayWrite(c.program.Tasks[task].Body), k)) {
					t.Errorf("%v after %d writes of %v: the variable %d is %d", c.mem, count, writes, k, part[k])
				}
			}
		}
	}
}

// The number of writes is what WriteCount allows for each assignment, and one of each variable reaches it if the variable must be logged.
func TestWritesOfAssignments(t *testing.T) {
	for _, c := range variedTraces()[:800] {
		trace, task := c.trace(t), c.program.Tasks[c.mem[8]%8]
		seen := map[int]bool{}
		for i, step := range trace.Steps {
			if step.Cost != 2 && step.Cost != 5 {
				continue
			}
			length := 1 + slices.IndexFunc(trace.Steps[i+1:], func(s impl.Micro) bool { return s.At < 8 && s.At >= 0 })
			k, want := trace.Steps[i+length].At, 1
			if !seen[k] {
				want = impl.WriteCount(task, k)
			}
			if seen[k] = true; length != want {
				t.Errorf("the step %d of %v has %d writes; want %d", i, trace, length, want)
			}
		}
	}
}

func traceBySteps(steps ...impl.Micro) impl.Trace { return impl.Trace{Steps: steps} }

// tracesByHand have costs and words that no task has.
func tracesByHand() []impl.Trace {
	return []impl.Trace{
		{}, {Steps: []impl.Micro{}, Used: []int{}}, {Used: []int{4, 5}}, traceBySteps(impl.Micro{}), traceBySteps(micro(0, -1, 0)),
		{Steps: microsOf("5 4:9 2 9:1 1"), Used: []int{1}}, {Steps: microsOf("48:1 0:2 0:2 0:3")},
		traceBySteps(micro(1, -1, 7), micro(1, 0, 7), micro(1, -1, -7), micro(1, -2, 7), micro(1, 49, math.MinInt), micro(1, -1, math.MaxInt), micro(1, math.MinInt, 0), micro(1, math.MaxInt, 0), micro(1, -3, 0)),
		traceBySteps(micro(-5, 2, 1), micro(0, -1, 0), micro(4, 3, 0)), traceBySteps(micro(math.MaxInt, -1, 0), micro(1, 2, 0), micro(math.MinInt, -1, 0)),
	}
}

func checkWritesOf(t *testing.T, trace impl.Trace, want []impl.Write) {
	t.Helper()
	if got := impl.WritesOf(trace); !slices.Equal(got, want) {
		t.Errorf("WritesOf(%v) = %v; want %v", trace, got, want)
	}
}

func TestWritesOf(t *testing.T) {
	for i, want := range [][]impl.Write{
		nil, nil, nil, {{}}, nil, {{At: 4, Value: 9}, {At: 9, Value: 1}}, {{At: 48, Value: 1}, {At: 0, Value: 2}, {At: 0, Value: 2}, {At: 0, Value: 3}},
		{{At: 0, Value: 7}, {At: -2, Value: 7}, {At: 49, Value: math.MinInt}, {At: math.MinInt}, {At: math.MaxInt}, {At: -3}}, {{At: 2, Value: 1}, {At: 3}}, {{At: 2}},
	} {
		checkWritesOf(t, tracesByHand()[i], want)
	}
	for _, at := range append([]int{-2, -3, 0, 1, 7, 8, 24, 48, 49, 50, 255, 1<<32 - 1}, farNumbers()...) {
		for _, cost := range []int{3, 0, -3, 1, math.MaxInt} {
			want := []impl.Write{{At: at, Value: 6}}
			checkWritesOf(t, traceBySteps(micro(cost, -1, 5), micro(cost, at, 6), micro(cost, -1, 0)), want)
			checkWritesOf(t, impl.Trace{Steps: []impl.Micro{micro(cost, at, 6)}, Used: []int{8}}, want)
		}
	}
}

// stepsCosting has steps with and without a write.
func stepsCosting(costs ...int) []impl.Micro {
	steps := []impl.Micro{}
	for i, cost := range costs {
		steps = append(steps, micro(cost, i%4-1, i))
	}
	return steps
}

// wantedSums are the exact sums of the first step, the first two and so on.
func wantedSums(steps []impl.Micro) []*big.Int {
	sums, sum := []*big.Int{}, new(big.Int)
	for _, step := range steps {
		sum = new(big.Int).Add(sum, big.NewInt(int64(step.Cost)))
		sums = append(sums, sum)
	}
	return sums
}

// wantedTotal is the sum modulo 2 to the power of 64.
func wantedTotal(steps []impl.Micro) int {
	sums := append([]*big.Int{new(big.Int)}, wantedSums(steps)...)
	size := new(big.Int).Lsh(big.NewInt(1), 64)
	rest := new(big.Int).Mod(sums[len(sums)-1], size)
	if !rest.IsInt64() {
		rest.Sub(rest, size)
	}
	return int(rest.Int64())
}

func wantedSteps(steps []impl.Micro, energy int) int {
	if energy < 0 {
		return 0
	}
	count := slices.IndexFunc(wantedSums(steps), func(sum *big.Int) bool { return sum.Cmp(big.NewInt(int64(energy))) > 0 })
	if count < 0 {
		return len(steps)
	}
	return count
}

func checkCountSteps(t *testing.T, steps []impl.Micro, energy, want int) {
	t.Helper()
	if got := impl.CountSteps(traceBySteps(steps...), energy); got != want {
		t.Errorf("CountSteps(%v, %d) = %d; want %d", steps, energy, got, want)
	}
}

func checkTotal(t *testing.T, steps []impl.Micro, want int) {
	t.Helper()
	if got := impl.TraceCost(traceBySteps(steps...)); got != want {
		t.Errorf("TraceCost(%v) = %d; want %d", steps, got, want)
	}
}

// energiesFor are at and next to all sums of costs, and at the edges of an int.
func energiesFor(steps []impl.Micro) []int {
	list := []int{-1, 0, 1, -2, math.MaxInt, math.MaxInt - 1, math.MinInt, math.MinInt + 1}
	for _, sum := range wantedSums(steps) {
		for _, change := range []int64{-1, 0, 1} {
			if n := new(big.Int).Add(sum, big.NewInt(change)); n.IsInt64() {
				list = append(list, int(n.Int64()))
			}
		}
	}
	return list
}

// checkSums compares with sums that do not wrap around.
func checkSums(t *testing.T, steps []impl.Micro) {
	t.Helper()
	checkTotal(t, steps, wantedTotal(steps))
	for _, energy := range energiesFor(steps) {
		checkCountSteps(t, steps, energy, wantedSteps(steps, energy))
	}
}

func TestTraceCost(t *testing.T) {
	for _, c := range []struct {
		costs []int
		want  int
	}{
		{nil, 0}, {[]int{}, 0}, {[]int{0}, 0}, {[]int{7}, 7}, {[]int{5, 3, 2, 3, 3, 3, 3, 4, 3, 1, 3}, 33}, {[]int{-4}, -4}, {[]int{5, -9, 1}, -3}, {[]int{0, 0, 1}, 1}, {[]int{1, 0, 0}, 1},
		{[]int{math.MaxInt}, math.MaxInt}, {[]int{math.MinInt}, math.MinInt}, {[]int{math.MaxInt, 1}, math.MinInt}, {[]int{1, math.MaxInt}, math.MinInt}, {[]int{math.MaxInt, math.MaxInt}, -2}, {[]int{math.MaxInt, math.MaxInt, 2}, 0}, {[]int{math.MaxInt, math.MaxInt, math.MaxInt}, math.MaxInt - 2},
		{[]int{math.MinInt, -1}, math.MaxInt}, {[]int{math.MinInt, math.MinInt}, 0}, {[]int{math.MinInt, math.MaxInt}, -1}, {[]int{math.MinInt, math.MinInt, math.MinInt}, math.MinInt}, {[]int{math.MaxInt, 5, -5}, math.MaxInt}, {[]int{1 << 62, 1 << 62, 1 << 62, 1 << 62, 3}, 3},
	} {
		checkTotal(t, stepsCosting(c.costs...), c.want)
		checkSums(t, stepsCosting(c.costs...))
	}
}

func TestCountSteps(t *testing.T) {
	for _, c := range []struct {
		costs  []int
		energy int
		want   int
	}{
		{nil, 0, 0}, {nil, 5, 0}, {nil, -1, 0}, {nil, math.MaxInt, 0}, {nil, math.MinInt, 0},
		{[]int{5, 3, 2, 3}, -1, 0}, {[]int{5, 3, 2, 3}, 0, 0}, {[]int{5, 3, 2, 3}, 4, 0}, {[]int{5, 3, 2, 3}, 5, 1}, {[]int{5, 3, 2, 3}, 6, 1}, {[]int{5, 3, 2, 3}, 7, 1}, {[]int{5, 3, 2, 3}, 8, 2}, {[]int{5, 3, 2, 3}, 9, 2}, {[]int{5, 3, 2, 3}, 10, 3},
		{[]int{5, 3, 2, 3}, 12, 3}, {[]int{5, 3, 2, 3}, 13, 4}, {[]int{5, 3, 2, 3}, 14, 4}, {[]int{5, 3, 2, 3}, math.MaxInt, 4}, {[]int{5, 3, 2, 3}, math.MinInt, 0},
		// Steps without costs need no energy, but none that is negative.
		{[]int{0}, 0, 1}, {[]int{0, 0, 1, 0}, 0, 2}, {[]int{0, 0, 1, 0}, 1, 4}, {[]int{0, 0}, -1, 0}, {[]int{0, 0}, math.MinInt, 0},
		// Each sum counts, not only the last one.
		{[]int{5, -3}, 4, 0}, {[]int{5, -3}, 5, 2}, {[]int{2, 5, -4, 1}, 3, 1}, {[]int{2, 5, -4, 1}, 6, 1}, {[]int{2, 5, -4, 1}, 7, 4}, {[]int{-4, 4, 1}, 0, 2}, {[]int{-4, 5}, 0, 1}, {[]int{-4, 5}, 1, 2}, {[]int{-4, -4}, -1, 0}, {[]int{-4}, math.MinInt, 0}, {[]int{-4}, 0, 1},
		// Sums that would wrap around.
		{[]int{math.MaxInt}, math.MaxInt, 1}, {[]int{math.MaxInt}, math.MaxInt - 1, 0}, {[]int{math.MaxInt, 0}, math.MaxInt, 2}, {[]int{math.MaxInt, 1}, math.MaxInt, 1}, {[]int{math.MaxInt, math.MaxInt}, math.MaxInt, 1}, {[]int{1, math.MaxInt}, math.MaxInt, 1}, {[]int{1, math.MaxInt, math.MaxInt, 1}, 5, 1}, {[]int{1 << 62, 1 << 62, 1 << 62, 1 << 62}, math.MaxInt, 1}, {[]int{math.MaxInt, math.MaxInt, 2}, 0, 0},
		{[]int{-1, math.MaxInt, 1, 1}, math.MaxInt, 3}, {[]int{-1, math.MaxInt}, math.MaxInt, 2}, {[]int{-2, math.MaxInt, 1, 1, 1}, math.MaxInt, 4}, {[]int{math.MinInt}, 0, 1}, {[]int{math.MinInt}, math.MaxInt, 1}, {[]int{math.MinInt}, -1, 0}, {[]int{math.MinInt, math.MaxInt, 1}, 0, 3}, {[]int{math.MinInt, math.MaxInt, 2}, 0, 2}, {[]int{math.MinInt, math.MaxInt, 2}, 1, 3},
		{[]int{math.MinInt, math.MinInt}, 0, 2}, {[]int{math.MinInt, math.MinInt, math.MaxInt, math.MaxInt, 2, 1}, 0, 5}, {[]int{math.MinInt, math.MinInt, math.MaxInt, math.MaxInt, 3}, 0, 4}, {[]int{math.MinInt, math.MinInt, math.MaxInt, math.MaxInt, math.MaxInt, 2, 1}, math.MaxInt, 6}, {[]int{math.MinInt, -1, 5}, 0, 3}, {[]int{math.MinInt, -1, math.MaxInt, 2, 1}, 0, 4},
	} {
		steps := stepsCosting(c.costs...)
		checkCountSteps(t, steps, c.energy, c.want)
		if got := wantedSteps(steps, c.energy); got != c.want {
			t.Errorf("the model counts %d of %v with %d; want %d", got, c.costs, c.energy, c.want)
		}
		checkSums(t, steps)
	}
}

// The sums of many extreme costs leave an int far behind.
func TestSumsOfManyCosts(t *testing.T) {
	least, greatest := slices.Repeat([]int{math.MinInt}, 300), slices.Repeat([]int{math.MaxInt}, 300)
	for _, costs := range [][]int{least, greatest, slices.Concat(least, greatest, []int{299, 1, 1}), slices.Concat(greatest, least), slices.Concat(least, greatest, greatest), slices.Repeat([]int{math.MinInt, math.MaxInt, 1}, 50)} {
		checkSums(t, stepsCosting(costs...))
	}
	next := chooser(14)
	kinds := []func() int{func() int { return next(9) }, func() int { return next(9) - 5 }, func() int { return math.MaxInt - next(3) }, func() int { return math.MinInt + next(3) }, func() int { return (next(9) - 4) << 60 }}
	for i := range 400 {
		costs := []int{}
		for range next(20) {
			costs = append(costs, kinds[next(1+i%5)]())
		}
		checkSums(t, stepsCosting(costs...))
	}
}

// Only the costs of the steps count.
func TestCostsDoNotDependOnWrites(t *testing.T) {
	for _, trace := range tracesByHand() {
		checkSums(t, trace.Steps)
		for _, at := range []int{-1, 0, -2, 48, math.MinInt} {
			other := impl.Trace{Steps: slices.Clone(trace.Steps), Used: []int{at}}
			for i := range other.Steps {
				other.Steps[i].At, other.Steps[i].Value = at, -at
			}
			for _, energy := range energiesFor(trace.Steps) {
				if impl.CountSteps(other, energy) != impl.CountSteps(trace, energy) || impl.TraceCost(other) != impl.TraceCost(trace) {
					t.Errorf("%v costs something else than %v", other, trace)
				}
			}
		}
	}
}

// Promise 14: more energy allows at least as many steps, and the sum of the costs allows all.
func TestMoreEnergyAllowsMoreSteps(t *testing.T) {
	for i, c := range variedTraces() {
		trace := c.trace(t)
		cost, before := impl.TraceCost(trace), 0
		checkTotal(t, trace.Steps, wantedTotal(trace.Steps))
		for energy := -2; energy <= cost+2; energy += 1 + (cost+i)/60 {
			count := impl.CountSteps(trace, energy)
			if count < before || count > len(trace.Steps) {
				t.Errorf("%v: %d steps with %d, but %d with less", trace, count, energy, before)
			}
			before = count
		}
		// Each step of a task costs something.
		checkCountSteps(t, trace.Steps, cost, len(trace.Steps))
		checkCountSteps(t, trace.Steps, cost+1, len(trace.Steps))
		checkCountSteps(t, trace.Steps, math.MaxInt, len(trace.Steps))
		checkCountSteps(t, trace.Steps, cost-1, len(trace.Steps)-1)
		checkCountSteps(t, trace.Steps, 0, 0)
		if i%20 == 0 {
			checkSums(t, trace.Steps[:min(len(trace.Steps), 60)])
		}
	}
}

// Promise 14: what can be performed with some energy is a beginning of the trace, and costs what its steps cost.
func TestBeginningsOfTraces(t *testing.T) {
	for _, c := range variedTraces()[:500] {
		trace := c.trace(t)
		for count := 0; count <= len(trace.Steps); count += 1 + len(trace.Steps)/25 {
			first, second := traceBySteps(trace.Steps[:count]...), traceBySteps(trace.Steps[count:]...)
			cost, rest := impl.TraceCost(first), impl.TraceCost(second)
			if cost+rest != impl.TraceCost(trace) {
				t.Errorf("the costs %d and %d of both parts of %v are not those of all", cost, rest, trace)
			}
			checkCountSteps(t, trace.Steps, cost, count)
			checkCountSteps(t, trace.Steps, cost-1, max(0, count-1))
			checkWritesOf(t, trace, slices.Concat(impl.WritesOf(first), impl.WritesOf(second)))
		}
	}
}

// The costs of the steps are those of chapter 11.
func TestCostsOfSteps(t *testing.T) {
	for _, c := range []struct{ text, steps string }{
		{"task 1 0 0;set 0 1 1 1", "2 0:2 1 8:0"}, {"task 1 0 0;sense 0 1", "5 0:0 1 8:0"}, {"task 1 0 0;send 1 1 1", "4 25:2 1 8:128"}, {"task 1 0 0;if 1 1 1;end", "1 1 8:0"}, {"task 1 0 0;if 1 0 0;end", "1 1 8:0"}, {"task 1 0 0;loop 5;end", "1 1 8:0"},
	} {
		p := textProgram(t, c.text)
		checkTrace(t, p, cleanMemory(varsOf(), 0, 0), nil, 0, impl.Trace{Steps: microsOf(c.steps), Used: make([]int, strings.Count(c.text, "sense"))})
		if got := traceOf(t, p, cleanMemory(varsOf(), 0, 0), nil, 0).Steps[0].Cost; got != impl.StmtCost(p.Tasks[0].Body[0]) {
			t.Errorf("%s: the first step costs %d", c.text, got)
		}
	}
	for _, c := range variedTraces()[:500] {
		for _, step := range c.trace(t).Steps {
			if (step.At == -1) != (step.Cost != 3) || step.At == -1 && step.Value != 0 || step.At < -1 || step.At > 48 {
				t.Errorf("the task of %v in %v has the step %v", c.program, c.mem, step)
			}
		}
	}
}

func spoilSteps(trace impl.Trace) {
	steps := trace.Steps[:cap(trace.Steps)]
	for i := range steps {
		steps[i] = micro(-77, -77, -77)
	}
}

func TestTraceResultsAreNewMemory(t *testing.T) {
	for _, c := range variedTraces()[:600] {
		want := wantedTrace(c.program, c.mem, c.readings, c.at)
		mem, readings := slices.Clone(c.mem), slices.Clone(c.readings)
		first := traceOf(t, c.program, mem, readings, c.at)
		writes := impl.WritesOf(first)
		wanted := slices.Clone(writes)
		again := traceOf(t, c.program, mem, readings, c.at)
		spoil(again.Used)
		if !slices.Equal(again.Steps, want.Steps) {
			t.Errorf("the steps share memory with the used values: %v", again)
		}
		again = traceOf(t, c.program, mem, readings, c.at)
		spoilSteps(again)
		if !slices.Equal(again.Used, want.Used) {
			t.Errorf("the used values share memory with the steps: %v", again)
		}
		list := impl.WritesOf(first)
		for i := range list[:cap(list)] {
			list[:cap(list)][i] = impl.Write{At: -77}
		}
		if !equalTrace(first, want) || !slices.Equal(mem, c.mem) || !slices.Equal(readings, c.readings) {
			t.Errorf("changing a result changes %v, %v or %v", first, mem, readings)
		}
		spoil(mem)
		spoil(readings)
		if !equalTrace(first, want) {
			t.Errorf("%v shares memory with an argument or a later result", first)
		}
		spoilSteps(first)
		if !slices.Equal(writes, wanted) {
			t.Errorf("the writes %v share memory with the trace", writes)
		}
	}
}

// Neither the arguments nor what lies behind them is written.
func TestTraceArgumentsAreKept(t *testing.T) {
	list := variedTraces()
	for i, p := range invalidPrograms()[:100] {
		list = append(list, tracedTask{p, cleanMemory(distinctVars(), i%2, i%25), someReadings()[i%9], i})
	}
	for _, c := range list {
		given, mem, readings := programWithRoom(c.program), withRoom(c.mem), withRoom(c.readings)
		impl.TraceOf(given, mem, readings, c.at)
		if !isProgramKept(given, c.program) || !isKept(mem, c.mem) || !isKept(readings, c.readings) {
			t.Errorf("a trace changes %v, %v or %v", given, mem, readings)
		}
	}
}

func TestTracesAreKept(t *testing.T) {
	list := tracesByHand()
	for _, c := range variedTraces()[:300] {
		list = append(list, wantedTrace(c.program, c.mem, c.readings, c.at))
	}
	for _, want := range list {
		steps := append(slices.Clone(want.Steps), micro(4, 5, 6), micro(-7, -1, 0))
		before := slices.Clone(steps)
		given := impl.Trace{Steps: steps[:len(want.Steps)], Used: withRoom(want.Used)}
		checkTotal(t, given.Steps, wantedTotal(want.Steps))
		for _, energy := range []int{-1, 0, 7, 50, math.MaxInt} {
			checkCountSteps(t, given.Steps, energy, wantedSteps(want.Steps, energy))
			impl.CountSteps(given, energy)
		}
		impl.TraceCost(given)
		impl.WritesOf(given)
		if !slices.Equal(steps, before) || !isKept(given.Used, want.Used) {
			t.Errorf("%v was changed to %v", want, given)
		}
	}
}

// What has been traced before does not matter to a trace.
func TestTheSameTaskHasTheSameTrace(t *testing.T) {
	list := variedTraces()
	for i, c := range list[:1000] {
		want, other := c.trace(t), list[(i*7+1)%len(list)]
		impl.TraceOf(other.program, other.mem, other.readings, other.at)
		impl.TraceOf(other.program, other.mem[1:], other.readings, other.at)
		checkTrace(t, c.program, c.mem, c.readings, c.at, want)
	}
}
