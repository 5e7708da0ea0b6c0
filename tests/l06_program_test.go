package tests

import (
	"math"
	"regexp"
	"slices"
	"strconv"
	"strings"
	"testing"

	"loop.example/g00983/impl"
)

// taskOf has the body of blockOf and a Next that differs from each expression in it.
func taskOf(signs string) impl.Task {
	return impl.Task{Body: blockOf(signs), Next: impl.Expr{Op: impl.OpAdd, A: -2, B: len(signs)}}
}

func programOf(bodies ...string) impl.Program {
	p := impl.Program{}
	for _, signs := range bodies {
		p.Tasks = append(p.Tasks, taskOf(signs))
	}
	return p
}

func constantExpr(n int) impl.Expr { return impl.Expr{Op: impl.OpAdd, A: n} }

// manyTasks has as many tasks, with an empty Body, as next has expressions.
func manyTasks(next ...impl.Expr) impl.Program {
	p := impl.Program{}
	for _, e := range next {
		p.Tasks = append(p.Tasks, impl.Task{Next: e})
	}
	return p
}

// plainPrograms have one to MaxTasks tasks, each kind of statement, and each operation in Next.
func plainPrograms() []impl.Program {
	everything := impl.Task{Next: impl.Expr{Op: 7, A: 999, B: -8}}
	for _, k := range []int{0, 1, 2, 3, 0, 5, 4, 1, 2, 5} {
		everything.Body = append(everything.Body, plainStmts()[k])
	}
	list := []impl.Program{
		programOf(""), programOf("s"), programOf("", ""), programOf("s", "r"), programOf("?s.", "", "x"), programOf("", "2r?x..", "s", "1."),
		programOf("s", "r", "x", "?.", "4."), programOf("s2r3?x.s.r.x", "", "???...", "555x...", strings.Repeat("s", 24), strings.Repeat("?.", 12)),
		programOf("", "", "", "", "", ""), {Tasks: []impl.Task{everything}}, {Tasks: []impl.Task{everything, taskOf("r"), everything}},
	}
	for n := 1; n <= 6; n++ {
		p := impl.Program{}
		for k := range n {
			p.Tasks = append(p.Tasks, impl.Task{Body: blockOf("?srx."), Next: impl.Expr{Op: 1 + (n+k)%7, A: -1 - k, B: 100 * n}})
		}
		list = append(list, p)
	}
	return list
}

// longPrograms take the blocks of longBlocks one after the other.
func longPrograms() []impl.Program {
	list, exprs, blocks := []impl.Program{}, validExprs(), longBlocks()
	for k := 0; k < len(blocks); {
		p := impl.Program{}
		for range min(1+len(list)%6, len(blocks)-k) {
			p.Tasks = append(p.Tasks, impl.Task{Body: blocks[k], Next: exprs[k*7%len(exprs)]})
			k++
		}
		list = append(list, p)
	}
	return list
}

func cloneProgram(p impl.Program) impl.Program {
	tasks := slices.Clone(p.Tasks)
	for i := range tasks {
		tasks[i].Body = slices.Clone(tasks[i].Body)
	}
	return impl.Program{Tasks: tasks}
}

// withTask has t in the place of the task i.
func withTask(p impl.Program, i int, t impl.Task) impl.Program {
	p = cloneProgram(p)
	p.Tasks[i] = t
	return p
}

// invalidPrograms are wrong in one place, and some of them in several.
func invalidPrograms() []impl.Program {
	list := []impl.Program{{}, {Tasks: []impl.Task{}}, {Tasks: []impl.Task{{}}}, {Tasks: make([]impl.Task, 6)}}
	for _, n := range []int{7, 8, 12, 13, 25, 100, 1000} {
		list = append(list, manyTasks(slices.Repeat([]impl.Expr{constantExpr(0)}, n)...))
	}
	list = append(list, programOf("s", "s", "s", "s", "s", "s", "s"), programOf("s", "?", "s", "s", "s", "s", "s"))
	for n := 1; n <= 6; n++ {
		p := programOf(slices.Repeat([]string{"?s."}, n)...)
		for i := range n {
			for _, signs := range append(badSigns(), strings.Repeat("s", 25), "?"+strings.Repeat("x", 24)+".") {
				list = append(list, withTask(p, i, taskOf(signs)))
			}
			for _, e := range invalidExprs() {
				list = append(list, withTask(p, i, impl.Task{Body: blockOf("?s."), Next: e}), withTask(p, i, impl.Task{Next: e}))
			}
			list = append(list, withTask(p, i, impl.Task{}))
		}
	}
	for _, s := range invalidStmts() {
		list = append(list, impl.Program{Tasks: []impl.Task{{Body: []impl.Stmt{s}, Next: constantExpr(0)}}})
		list = append(list, impl.Program{Tasks: []impl.Task{taskOf("s"), {Body: append(blockOf("s?r."), s), Next: constantExpr(0)}}})
	}
	return list
}

func sameProgram(a, b impl.Program) bool {
	return slices.EqualFunc(a.Tasks, b.Tasks, func(x, y impl.Task) bool {
		return x.Next == y.Next && slices.Equal(x.Body, y.Body)
	})
}

// wantedProgramText writes a valid program by the list of the document, without the program's help.
func wantedProgramText(p impl.Program) string {
	lines := []string{}
	for _, t := range p.Tasks {
		lines = append(lines, "task "+strconv.Itoa(t.Next.Op)+" "+strconv.Itoa(t.Next.A)+" "+strconv.Itoa(t.Next.B)+"\n")
		for _, s := range t.Body {
			lines = append(lines, wantedText(s)+"\n")
		}
	}
	return strings.Join(lines, "")
}

func wantedProgramOk(p impl.Program) bool {
	for _, t := range p.Tasks {
		if _, ok := partners(t.Body); !ok || !impl.ExprOk(t.Next) {
			return false
		}
	}
	return len(p.Tasks) >= 1 && len(p.Tasks) <= 6
}

func linePattern() *regexp.Regexp {
	e := " [1-7] (0|[1-9][0-9]{0,2}|-[1-8]) (0|[1-9][0-9]{0,2}|-[1-8])"
	return regexp.MustCompile("^((task|send|if)" + e + "|set [0-7]" + e + "|sense [0-7] [0-3]|loop [1-5]|end)$")
}

func wantedStmt(word string, n []int) impl.Stmt {
	switch word {
	case "set":
		return impl.Stmt{Kind: 1, Var: n[0], E: impl.Expr{Op: n[1], A: n[2], B: n[3]}}
	case "sense":
		return impl.Stmt{Kind: 2, Var: n[0], N: n[1]}
	case "send":
		return impl.Stmt{Kind: 3, E: impl.Expr{Op: n[0], A: n[1], B: n[2]}}
	case "if":
		return impl.Stmt{Kind: 4, E: impl.Expr{Op: n[0], A: n[1], B: n[2]}}
	case "loop":
		return impl.Stmt{Kind: 5, N: n[0]}
	}
	return impl.Stmt{Kind: 6}
}

// wantedParse reads a text by a pattern of its lines.
func wantedParse(text string, pattern *regexp.Regexp) (impl.Program, int) {
	none := impl.Program{}
	if len(text) > 20000 {
		return none, -1
	}
	lines := strings.SplitAfter(text, "\n")
	if lines[len(lines)-1] == "" {
		lines = lines[:len(lines)-1]
	}
	for i, line := range lines {
		if !pattern.MatchString(strings.TrimSuffix(line, "\n")) {
			return none, i + 1
		}
	}
	p := none
	for _, line := range lines {
		fields, n := strings.Fields(line), make([]int, 6)
		for i, field := range fields[1:] {
			n[i], _ = strconv.Atoi(field)
		}
		if fields[0] == "task" {
			p.Tasks = append(p.Tasks, impl.Task{Next: impl.Expr{Op: n[0], A: n[1], B: n[2]}})
			continue
		}
		if len(p.Tasks) == 0 {
			return none, -2
		}
		t := &p.Tasks[len(p.Tasks)-1]
		t.Body = append(t.Body, wantedStmt(fields[0], n))
	}
	if !wantedProgramOk(p) || !strings.HasSuffix(text, "\n") {
		return none, -2
	}
	return p, 0
}

func checkParseProgram(t *testing.T, text string, want impl.Program) {
	t.Helper()
	if got, n := impl.ParseProgram(text); n != 0 || !sameProgram(got, want) {
		t.Errorf("ParseProgram(%q) = %v, %d; want %v and 0", text, got, n, want)
	}
}

func checkNoProgram(t *testing.T, text string, want int) {
	t.Helper()
	if got, n := impl.ParseProgram(text); n != want || len(got.Tasks) != 0 {
		t.Errorf("ParseProgram(%.300q) = %v, %d; want the zero program and %d", text, got, n, want)
	}
}

func checkLikePattern(t *testing.T, text string, pattern *regexp.Regexp) {
	t.Helper()
	if want, n := wantedParse(text, pattern); n == 0 {
		checkParseProgram(t, text, want)
	} else {
		checkNoProgram(t, text, n)
	}
}

func checkNextTask(t *testing.T, p impl.Program, vars []int, task, want int) {
	t.Helper()
	if got := impl.NextTask(p, vars, task); got != want {
		t.Errorf("NextTask(%v, %v, %d) = %d; want %d", p, vars, task, got, want)
	}
}

func TestProgramConstants(t *testing.T) {
	if impl.MaxTasks != 6 {
		t.Error("MaxTasks differs from the document:", impl.MaxTasks)
	}
}

func TestProgramOk(t *testing.T) {
	for _, p := range append(plainPrograms(), longPrograms()...) {
		if !impl.ProgramOk(p) {
			t.Errorf("ProgramOk(%v) = false", p)
		}
	}
	for _, p := range invalidPrograms() {
		if impl.ProgramOk(p) {
			t.Errorf("ProgramOk(%v) = true", p)
		}
	}
}

func TestProgramOkOfEachNumberOfTasks(t *testing.T) {
	for n := range 50 {
		p := programOf(slices.Repeat([]string{"s"}, n)...)
		if want := n >= 1 && n <= 6; impl.ProgramOk(p) != want {
			t.Errorf("ProgramOk of %d tasks = %v", n, !want)
		}
	}
}

// Each statement and each expression that is valid, at the first and at the last place.
func TestProgramOkOfEachPart(t *testing.T) {
	for _, s := range validStmts() {
		body := []impl.Stmt{s}
		if s.Kind == impl.StIf || s.Kind == impl.StLoop {
			body = append(body, impl.Stmt{Kind: impl.StEnd})
		}
		p := impl.Program{Tasks: []impl.Task{{Body: body, Next: constantExpr(0)}, taskOf("x"), {Body: body, Next: constantExpr(1)}}}
		if want := s.Kind != impl.StEnd; impl.ProgramOk(p) != want {
			t.Errorf("ProgramOk(%v) = %v", p, !want)
		}
	}
	for _, e := range validExprs() {
		if p := manyTasks(e, constantExpr(3), e); !impl.ProgramOk(p) {
			t.Errorf("ProgramOk(%v) = false", p)
		}
	}
}

// The tasks are blocks one by one: what one leaves open, another one cannot end.
func TestProgramOkOfEachTaskAlone(t *testing.T) {
	for _, bodies := range [][]string{{"?", "."}, {"3s", "x."}, {"", "?", "."}, {"?.", "?", ".", "?."}, {"s.", "?"}} {
		if p := programOf(bodies...); impl.ProgramOk(p) {
			t.Errorf("ProgramOk(%v) = true", p)
		}
	}
	if !impl.ProgramOk(programOf("???...", "555...", "?2?...")) || !impl.ProgramOk(programOf(slices.Repeat([]string{strings.Repeat("s", 24)}, 6)...)) {
		t.Error("the limits of a block are applied to all tasks together")
	}
}

func TestNextTask(t *testing.T) {
	vars := []int{5, -2, 0, 1000000, -1000000, 999, -7, 12}
	for _, c := range []struct {
		tasks, op, a, b, want int
	}{
		{1, 1, 0, 0, 0}, {1, 1, 999, 0, 0}, {1, 2, 0, 999, 0}, {1, 1, -5, 0, 0}, {2, 1, 0, 0, 0}, {2, 1, 1, 0, 1}, {2, 1, 1, 1, 0}, {2, 1, 2, 1, 1},
		{3, 1, 2, 0, 2}, {3, 1, 3, 0, 0}, {3, 1, 4, 0, 1}, {3, 1, 5, 6, 2}, {3, 2, 0, 1, 2}, {3, 2, 0, 2, 1}, {3, 2, 0, 3, 0}, {3, 2, 0, 4, 2}, {3, 2, 0, 999, 0},
		{6, 1, 5, 0, 5}, {6, 1, 5, 1, 0}, {6, 1, 6, 6, 0}, {6, 1, 6, 7, 1}, {6, 2, 0, 1, 5}, {6, 2, 0, 5, 1}, {6, 2, 0, 6, 0}, {6, 2, 0, 7, 5}, {6, 2, 0, 12, 0}, {6, 2, 0, 13, 5},
		{6, 1, -1, 0, 5}, {6, 1, -2, 0, 4}, {6, 1, -3, 0, 0}, {6, 1, -4, 0, 4}, {6, 1, -5, 0, 2}, {6, 1, -6, 0, 3}, {6, 1, -7, 0, 5}, {6, 1, -8, 0, 0},
		{4, 3, -2, -8, 0}, {5, 3, -2, -8, 1}, {5, 3, -7, -2, 4}, {4, 3, 9, -2, 2}, {4, 4, -7, 3, 1}, {4, 5, -2, -7, 2}, {4, 6, -2, 0, 1}, {4, 6, 0, -2, 0}, {4, 7, -1, 5, 1}, {4, 7, 5, -2, 0},
		{6, 3, 999, 999, 3}, {6, 1, -4, 999, 4}, {6, 2, -5, 999, 2}, {5, 2, -5, 1, 0}, {5, 1, -4, -4, 0}, {3, 3, -4, -5, 2}, {3, 3, -5, -5, 1},
	} {
		for task := range c.tasks {
			next := slices.Repeat([]impl.Expr{constantExpr(c.want + 1)}, c.tasks)
			next[task] = impl.Expr{Op: c.op, A: c.a, B: c.b}
			checkNextTask(t, manyTasks(next...), vars, task, c.want)
		}
	}
}

// Each value of Next near 0 and near the bounds, counted down and up in steps of one and not computed.
func TestNextTaskOfEachValue(t *testing.T) {
	for n := 1; n <= 6; n++ {
		p := manyTasks(slices.Repeat([]impl.Expr{{Op: impl.OpMax, A: -4, B: -4}}, n)...)
		want := 0
		for value := range 1500 {
			checkNextTask(t, p, []int{7, 7, 7, value, 7, 7, 7, 7}, n-1, want)
			checkNextTask(t, p, []int{7, 7, 7, -value, 7, 7, 7, 7}, 0, (n-want)%n)
			want++
			if want == n {
				want = 0
			}
		}
		for _, multiple := range []int{n, 2 * n, 10 * n, 1000 * n, 100000 * n, 166666 * n} {
			for off := range n {
				checkNextTask(t, p, []int{0, 0, 0, -multiple + off, 0, 0, 0, 0}, 0, off)
				checkNextTask(t, p, []int{0, 0, 0, multiple - off, 0, 0, 0, 0}, n-1, (n-off)%n)
			}
		}
	}
}

// Promise 6: the following task exists, and it is one with the same remainder.
func TestFollowingTaskExists(t *testing.T) {
	lists := [][]int{distinctVars(), make([]int, 8), {-1, -2, -3, -4, -5, -6, -7, -8}, {-1000000, -999999, 1000000, 999999, -6, 6, -30, 31}}
	for _, vars := range lists {
		for k, e := range validExprs() {
			n := 1 + k%6
			p := manyTasks(slices.Repeat([]impl.Expr{e}, n)...)
			value := wantedValue(e.Op, wantedOperand(vars, e.A), wantedOperand(vars, e.B))
			got := impl.NextTask(p, vars, k%n)
			if got < 0 || got >= n || (value-got)%n != 0 {
				t.Errorf("NextTask(%v, %v, %d) = %d; the value is %d", p, vars, k%n, got, value)
			}
		}
	}
}

// The given variables decide, not those that the Body would leave behind.
func TestNextTaskIgnoresBodies(t *testing.T) {
	for k, p := range longPrograms() {
		vars := []int{k, -k, 3 * k, k - 250, 0, 1, -1, 1000000}
		bare := cloneProgram(p)
		for i := range bare.Tasks {
			bare.Tasks[i].Body = nil
		}
		for i := range p.Tasks {
			checkNextTask(t, p, vars, i, impl.NextTask(bare, vars, i))
		}
	}
}

func TestNextTaskOfOtherTasks(t *testing.T) {
	for n := 1; n <= 6; n++ {
		p := manyTasks(slices.Repeat([]impl.Expr{constantExpr(1)}, n)...)
		checkNextTask(t, p, make([]int, 8), 0, 1%n)
		checkNextTask(t, p, make([]int, 8), n-1, 1%n)
		for _, task := range append([]int{-1, -2, -n, -n - 1, n, n + 1, 2 * n, 6, 7, -6, 100}, farNumbers()...) {
			if task < 0 || task >= n {
				checkNextTask(t, p, make([]int, 8), task, -1)
			}
		}
	}
}

func TestNextTaskOfInvalidVars(t *testing.T) {
	for _, vars := range invalidVars() {
		for _, p := range []impl.Program{manyTasks(constantExpr(0)), manyTasks(constantExpr(1), constantExpr(1)), programOf("s", "x", "r")} {
			for task := range p.Tasks {
				checkNextTask(t, p, vars, task, -1)
			}
		}
	}
}

// The program is checked as a whole, also where the task itself is right.
func TestNextTaskOfInvalidPrograms(t *testing.T) {
	for _, p := range invalidPrograms() {
		for _, task := range []int{0, 1, 2, 3, 4, 5, 6, len(p.Tasks) - 1, len(p.Tasks), -1, math.MaxInt, math.MinInt} {
			checkNextTask(t, p, distinctVars(), task, -1)
		}
	}
}

func TestProgramText(t *testing.T) {
	e := impl.Expr{Op: 2, A: -4, B: 17}
	for _, c := range []struct {
		p    impl.Program
		want string
	}{
		{manyTasks(impl.Expr{Op: 1}), "task 1 0 0\n"},
		{manyTasks(impl.Expr{Op: 7, A: -8, B: 999}, impl.Expr{Op: 3, A: 999, B: -1}), "task 7 -8 999\ntask 3 999 -1\n"},
		{impl.Program{Tasks: []impl.Task{{Body: plainStmts()[:3], Next: e}}}, "task 2 -4 17\nset 5 2 -4 17\nsense 6 3\nsend 2 -4 17\n"},
		{impl.Program{Tasks: []impl.Task{{Next: impl.Expr{Op: 6, A: 10, B: 20}}, {Body: []impl.Stmt{{Kind: 5, N: 4}, {Kind: 4, E: e}, {Kind: 6}, {Kind: 6}}, Next: e}}}, "task 6 10 20\ntask 2 -4 17\nloop 4\nif 2 -4 17\nend\nend\n"},
		{programOf("s", "", "r"), "task 1 -2 1\nset 2 2 -3 40\ntask 1 -2 0\ntask 1 -2 1\nsense 7 1\n"},
	} {
		if got := impl.ProgramText(c.p); got != c.want {
			t.Errorf("ProgramText(%v) = %q; want %q", c.p, got, c.want)
		}
		checkParseProgram(t, c.want, c.p)
	}
}

func TestProgramTextOfInvalidPrograms(t *testing.T) {
	for _, p := range invalidPrograms() {
		if got := impl.ProgramText(p); got != "" {
			t.Errorf("ProgramText(%v) = %q", p, got)
		}
	}
}

// Promise 6, and the text that is parsed is the one that the document describes.
func TestValidProgramsCanBeParsed(t *testing.T) {
	for _, p := range append(plainPrograms(), longPrograms()...) {
		text := impl.ProgramText(p)
		if text != wantedProgramText(p) {
			t.Errorf("ProgramText(%v) = %q; want %q", p, text, wantedProgramText(p))
		}
		checkParseProgram(t, text, p)
	}
}

// Promise 6 for each valid statement, and each operation and operand of Next.
func TestProgramsOfEachPartCanBeParsed(t *testing.T) {
	list := []impl.Program{}
	for _, s := range validStmts() {
		switch s.Kind {
		case impl.StIf, impl.StLoop:
			list = append(list, impl.Program{Tasks: []impl.Task{{Body: []impl.Stmt{s, {Kind: impl.StEnd}}, Next: constantExpr(0)}}})
		case impl.StSet, impl.StSense, impl.StSend:
			list = append(list, impl.Program{Tasks: []impl.Task{{Next: constantExpr(1)}, {Body: []impl.Stmt{s}, Next: constantExpr(0)}}})
		}
	}
	for _, e := range validExprs() {
		list = append(list, manyTasks(e), manyTasks(constantExpr(7), e))
	}
	for n := leastOperand; n <= greatestOperand; n++ {
		list = append(list, manyTasks(impl.Expr{Op: 1 + (n+8)%7, A: n, B: -1}, impl.Expr{Op: 7, A: 999, B: n}))
	}
	for _, p := range list {
		if text := impl.ProgramText(p); text != wantedProgramText(p) {
			t.Errorf("ProgramText(%v) = %q; want %q", p, text, wantedProgramText(p))
		}
		checkParseProgram(t, wantedProgramText(p), p)
	}
}

func TestDifferentProgramsHaveDifferentTexts(t *testing.T) {
	seen := map[string]impl.Program{}
	for _, p := range append(plainPrograms(), longPrograms()...) {
		text := impl.ProgramText(p)
		if other, ok := seen[text]; ok && !sameProgram(p, other) {
			t.Errorf("%v and %v are both %q", p, other, text)
		}
		seen[text] = p
	}
}

func TestTextOfMaxInputLen(t *testing.T) {
	ends := strings.Repeat("end\n", 5000)
	checkNoProgram(t, ends, -2)
	checkNoProgram(t, ends[:19999], -2)
	checkNoProgram(t, ends+"\n", -1)
	checkNoProgram(t, ends+"e", -1)
	checkNoProgram(t, "\n"+ends, -1)
	checkNoProgram(t, "\n"+ends[:19999], 1)
	checkNoProgram(t, ends[:19996]+"\nen\n", 5000)
	checkNoProgram(t, ends[:19996]+" end", 5000)
	checkNoProgram(t, strings.Repeat("\n", 20000), 1)
	checkNoProgram(t, strings.Repeat("\n", 20001), -1)
	checkNoProgram(t, strings.Repeat("x", 20000), 1)
	checkNoProgram(t, strings.Repeat("x", 20001), -1)
	checkNoProgram(t, strings.Repeat(" ", 1000000), -1)
	tasks := strings.Repeat("task 1 0 0\n", 1818)
	checkNoProgram(t, tasks, -2)
	checkNoProgram(t, tasks+"x\n", 1819)
	checkNoProgram(t, tasks+"x\n\n", -1)
	text := impl.ProgramText(programOf("s"))
	checkNoProgram(t, text+strings.Repeat("end\n", (20000-len(text))/4), -2)
	checkNoProgram(t, text+strings.Repeat("\n", 20000-len(text)), 3)
	checkNoProgram(t, text+strings.Repeat("\n", 20001-len(text)), -1)
}

func TestTextsWithoutTasks(t *testing.T) {
	checkNoProgram(t, "", -2)
	checkNoProgram(t, "\n", 1)
	checkNoProgram(t, "\n\n", 1)
	checkNoProgram(t, " ", 1)
	checkNoProgram(t, " \n", 1)
	checkNoProgram(t, "task", 1)
	checkNoProgram(t, "end\n", -2)
	checkNoProgram(t, "end", -2)
}

func TestTextWithoutNewlineAtItsEnd(t *testing.T) {
	for _, p := range plainPrograms() {
		text := strings.TrimSuffix(impl.ProgramText(p), "\n")
		lines := 1 + strings.Count(text, "\n")
		checkNoProgram(t, text, -2)
		checkNoProgram(t, text+"\n\n", lines+1)
		checkNoProgram(t, text+"\n\n\n", lines+1)
		checkNoProgram(t, text+"\r\n", lines)
		checkNoProgram(t, text+" ", lines)
		checkNoProgram(t, text+" \n", lines)
		checkNoProgram(t, text+"\n ", lines+1)
		checkNoProgram(t, text+"\x00", lines)
		checkNoProgram(t, "\n"+text, 1)
	}
}

// wrongLines cannot be lines of any program.
func wrongLines() []string {
	lines := []string{
		"", " ", "x", "task", "task ", " task 1 0 0", "task 1 0 0 ", "task  1 0 0", "task 1  0 0", "task 1 0  0", "task 1 0 0  ", "  task 1 0 0", "task\t1 0 0", "task 1 0 0\r", "task1 0 0", "task1 0 0 0",
		"task 1", "task 1 0", "task 1 0 0 0", "task 1 0 0 0 0", "task 0 1 0 0", "task task 1 0 0", "task 1 0 0 end", "task 1 0 0 task 1 0 0", "Task 1 0 0", "TASK 1 0 0", "tas 1 0 0", "tasks 1 0 0", "ttask 1 0 0", "1 0 0", "next 1 0 0", "task,1 0 0", "-task 1 0 0",
		"task 0 0 0", "task 8 0 0", "task -1 0 0", "task 1 -9 0", "task 1 0 -9", "task 1 1000 0", "task 1 0 1000", "task 10 0 0", "task 1 -10 0", "task 1 0 99999999999999999999", "task 1 0 9223372036854775808",
		"task 01 0 0", "task 1 00 0", "task 1 0 00", "task +1 0 0", "task 1 +0 0", "task 1 0 +1", "task -0 0 0", "task 1 -0 0", "task 1 0 -0", "task 1 -01 0", "task 1 0 -08", "task 1 0 007", "task 1 0 x", "task x 0 0", "task 1 - 0", "task 1 0 1.0", "task 1 0 1e0", "task 0x1 0 0", "task 1 0_1 0", "task 1 \x00 0", "task 1 0 \xff", "task one 0 0",
		"set 1 1 -2 1 ", " set 1 1 -2 1", "set  1 1 -2 1", "set 1 1 -2  1", "set 1 1 -2", "set 1 1 -2 1 1", "set 8 1 1 1", "set -1 1 1 1", "set 1 8 1 1", "set 1 1 -9 1", "set 1 1 1 1000", "set 01 1 1 1", "set 1 +1 1 1", "set 1 1 -0 1",
		"sense 1", "sense 8 1", "sense 1 4", "sense 1 1 ", "sense  1 1", "sense 1 1 1", "sense 1 01", "send 1 1", "send 0 1 1", "send 1 1 1 ", "send 1 1 1 1", "send  1 1 1", "if 1 1", "if 1 1 1000", "if 1 1 1 ", " if 1 1 1",
		"loop", "loop 0", "loop 6", "loop 1 ", "loop  1", "loop 1 1", "loop +1", "loop 01", "end ", " end", "end 0", "ends", "END", "en", "end end", "end\t", "end\r", "\x00", "\xff", "é",
	}
	return append(lines, strings.Repeat(" ", 700), "task 1 0 0"+strings.Repeat(" ", 700), "end"+strings.Repeat(" ", 597), "task"+strings.Repeat(" 1", 400), strings.Repeat("end ", 200), strings.Repeat("9", 700))
}

func TestWrongLines(t *testing.T) {
	pattern := linePattern()
	for _, wrong := range wrongLines() {
		if pattern.MatchString(wrong) {
			t.Errorf("the line %q of this test is not wrong", wrong)
		}
		checkNoProgram(t, wrong+"\n", 1)
		checkNoProgram(t, wrong+"\ntask 1 0 0\n", 1)
		checkNoProgram(t, wrong+"\ntask 1 0 0", 1)
		checkNoProgram(t, "task 1 0 0\n"+wrong+"\n", 2)
		checkNoProgram(t, "task 1 0 0\n"+wrong+"\nend\n", 2)
		checkNoProgram(t, "task 1 0 0\nsense 1 1\n"+wrong+"\ntask 1 0 0\n", 3)
		if wrong != "" {
			checkNoProgram(t, wrong, 1)
			checkNoProgram(t, "task 1 0 0\nsend 1 1 1\n"+wrong, 3)
		}
	}
}

// A wrong line ahead of, in the place of, and behind each line of programs.
func TestWrongLineAtEachPlace(t *testing.T) {
	for _, p := range plainPrograms() {
		lines := strings.Split(strings.TrimSuffix(impl.ProgramText(p), "\n"), "\n")
		for i := range len(lines) + 1 {
			for _, wrong := range []string{"", "task 1 0", "end ", "task 8 1 1", "set 01 1 1 1"} {
				checkNoProgram(t, strings.Join(slices.Insert(slices.Clone(lines), i, wrong), "\n")+"\n", i+1)
				if i < len(lines) {
					changed := slices.Clone(lines)
					changed[i] = wrong
					checkNoProgram(t, strings.Join(changed, "\n")+"\n", i+1)
				}
			}
		}
	}
}

func TestTwoWrongLines(t *testing.T) {
	lines := strings.Split("task 1 0 0\nsense 0 1\nset 1 1 -2 1\nif 1 0 0\nsend 1 -1 -2\nend\ntask 7 -8 999\nloop 5\nend", "\n")
	for i := range lines {
		for j := range lines {
			for _, wrong := range []string{"", "x", "end 1", "task 0 0 0"} {
				changed := slices.Clone(lines)
				changed[i], changed[j] = wrong, "wrong"
				checkNoProgram(t, strings.Join(changed, "\n")+"\n", min(i, j)+1)
				checkNoProgram(t, strings.Join(changed, "\n"), min(i, j)+1)
			}
		}
	}
}

func TestStatementsAheadOfTheFirstTask(t *testing.T) {
	for _, ahead := range []string{"s", "r", "x", "srx", "?.", "4s.", "?", ".", "???...", strings.Repeat("s", 24), strings.Repeat("s", 30)} {
		text := ""
		for _, s := range blockOf(ahead) {
			text += impl.FormatStmt(s) + "\n"
		}
		lines := len(ahead)
		checkNoProgram(t, text, -2)
		checkNoProgram(t, strings.TrimSuffix(text, "\n"), -2)
		for _, p := range plainPrograms() {
			checkNoProgram(t, text+impl.ProgramText(p), -2)
		}
		checkNoProgram(t, text+"task 1 0 0\nend", -2)
		// A wrong line counts, wherever it is.
		checkNoProgram(t, text+"\n", lines+1)
		checkNoProgram(t, text+"task 1 0\n", lines+1)
		checkNoProgram(t, text+"task 1 0 0\nx\n", lines+2)
		checkNoProgram(t, text+"task 1 0 0\nend\nset 1 1 1 1 ", lines+3)
		checkNoProgram(t, "x\n"+text+"task 1 0 0\n", 1)
	}
}

// Each line is right, but there is no such program; a wrong line behind it comes first.
func TestLinesOfNoProgram(t *testing.T) {
	for _, signs := range append(badSigns(), strings.Repeat("s", 25), strings.Repeat("?.", 13), strings.Repeat("x", 100)) {
		for _, bodies := range [][]string{{signs}, {signs, "s"}, {"s", signs}, {"s", signs, ""}, {signs, signs}, {"", "s", "?.", "", "", signs}} {
			text := wantedProgramText(programOf(bodies...))
			checkNoProgram(t, text, -2)
			checkNoProgram(t, strings.TrimSuffix(text, "\n"), -2)
			checkNoProgram(t, text+"wrong", 1+strings.Count(text, "\n"))
			checkNoProgram(t, text+"\n", 1+strings.Count(text, "\n"))
		}
	}
	for _, bodies := range [][]string{{"?", "."}, {"2s", "x."}, {"?", "s", "."}} {
		checkNoProgram(t, wantedProgramText(programOf(bodies...)), -2)
	}
}

func TestTextOfEachNumberOfTasks(t *testing.T) {
	for n := range 40 {
		for _, signs := range []string{"", "s", "?x.", strings.Repeat("r", 24)} {
			p := programOf(slices.Repeat([]string{signs}, n)...)
			if text := wantedProgramText(p); n >= 1 && n <= 6 {
				checkParseProgram(t, text, p)
			} else {
				checkNoProgram(t, text, -2)
			}
		}
	}
	checkNoProgram(t, strings.Repeat("task 1 0 0\n", 7)+"x\n", 8)
}

func TestTextOfEachNumberOfStatements(t *testing.T) {
	for n := range 40 {
		for _, bodies := range [][]string{{strings.Repeat("s", n)}, {"x", strings.Repeat("r", n)}, {strings.Repeat("x", n), "s"}} {
			p := programOf(bodies...)
			if text := wantedProgramText(p); n <= 24 {
				checkParseProgram(t, text, p)
			} else {
				checkNoProgram(t, text, -2)
			}
		}
	}
}

func TestParseProgramOfChangedLines(t *testing.T) {
	pattern := linePattern()
	parts := []string{"task 1 0 0", "task 7 -8 999", "set 1 1 -2 1", "sense 0 3", "send 2 -1 5", "if 6 0 -1", "loop 5", "end", "loop 6", ""}
	for _, a := range parts {
		for _, b := range parts {
			for _, c := range parts {
				for _, d := range parts {
					text := a + "\n" + b + "\n" + c + "\n" + d
					checkLikePattern(t, text, pattern)
					checkLikePattern(t, text+"\n", pattern)
				}
			}
		}
	}
}

// Every byte in place of a byte, ahead of it, and without it.
func TestParseProgramOfChangedBytes(t *testing.T) {
	pattern := linePattern()
	text := "task 5 10 -8\nset 1 1 -2 1\nsense 0 3\nloop 2\nsend 2 -1 50\nend\ntask 1 0 0\nif 6 0 -1\nend\n"
	if _, n := impl.ParseProgram(text); n != 0 {
		t.Fatalf("the text %q of this test is not right", text)
	}
	for i := range text {
		checkLikePattern(t, text[:i]+text[i+1:], pattern)
		checkLikePattern(t, text[:i], pattern)
		checkLikePattern(t, text[i:], pattern)
		for b := range 256 {
			with := text[:i] + string([]byte{byte(b)})
			checkLikePattern(t, with+text[i+1:], pattern)
			checkLikePattern(t, with+text[i:], pattern)
		}
	}
}

// No two bodies share memory, and neither does the spare capacity behind one of them.
func TestBodiesOfParsedProgramAreApart(t *testing.T) {
	for _, p := range append(plainPrograms(), longPrograms()[:60]...) {
		text := impl.ProgramText(p)
		for i := range p.Tasks {
			got, _ := impl.ParseProgram(text)
			body := got.Tasks[i].Body
			body = body[:cap(body)]
			for k := range body {
				body[k] = impl.Stmt{Kind: -1}
			}
			for j := range p.Tasks {
				if j != i && !slices.Equal(got.Tasks[j].Body, p.Tasks[j].Body) {
					t.Errorf("%v: changing the body %d changes the body %d", p, i, j)
				}
			}
		}
		checkParseProgram(t, text, p)
	}
}

func TestProgramsAreNotChanged(t *testing.T) {
	list := append(plainPrograms(), invalidPrograms()[:400]...)
	for _, p := range list {
		whole := cloneProgram(p)
		whole.Tasks = append(whole.Tasks, taskOf("x"), taskOf("?"))
		for i := range p.Tasks {
			whole.Tasks[i].Body = append(whole.Tasks[i].Body, blockOf("s?")...)
		}
		before, given, vars := cloneProgram(whole), impl.Program{Tasks: slices.Clone(whole.Tasks)[:len(p.Tasks)]}, append(distinctVars(), 5, 6)
		for i := range given.Tasks {
			given.Tasks[i].Body = given.Tasks[i].Body[:len(p.Tasks[i].Body)]
		}
		impl.ProgramOk(given)
		impl.ProgramText(given)
		for i := range given.Tasks {
			impl.NextTask(given, vars[:8], i)
		}
		if !sameProgram(given, p) || !sameProgram(whole, before) || !slices.Equal(vars, append(distinctVars(), 5, 6)) {
			t.Errorf("the program %v was changed to %v, with %v and %v behind it", p, given, whole, vars)
		}
	}
}
