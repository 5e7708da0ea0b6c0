package tests

import (
	"math"
	"slices"
	"strings"
	"testing"

	"loop.example/g00983/impl"
)

// exprReading reads the variables that are the digits of a text of at most two bytes; a byte that is no digit is a constant.
func exprReading(digits string) impl.Expr {
	operands := []int{20, 7}
	for i, digit := range []byte(digits) {
		if digit >= '0' && digit <= '9' {
			operands[i] = -1 - int(digit-'0')
		}
	}
	return impl.Expr{Op: impl.OpAdd, A: operands[0], B: operands[1]}
}

// stmtOfWord reads one word: 2=13 sets variable 2 to an expression that reads 1 and 3, 2~ reads a sensor into variable 2, !13 sends, ?13 is a condition, *4 is a loop of 4 times, and a dot is an end.
func stmtOfWord(word string) impl.Stmt {
	target, digits, isSet := strings.Cut(word, "=")
	switch {
	case isSet:
		return impl.Stmt{Kind: impl.StSet, Var: int(target[0] - '0'), E: exprReading(digits)}
	case strings.HasSuffix(word, "~"):
		return impl.Stmt{Kind: impl.StSense, Var: int(word[0] - '0'), N: 3}
	case word[0] == '!':
		return impl.Stmt{Kind: impl.StSend, E: exprReading(word[1:])}
	case word[0] == '?':
		return impl.Stmt{Kind: impl.StIf, E: exprReading(word[1:])}
	case word[0] == '*':
		return impl.Stmt{Kind: impl.StLoop, N: int(word[1] - '0')}
	}
	return impl.Stmt{Kind: impl.StEnd}
}

func blockOfWords(words string) []impl.Stmt {
	list := []impl.Stmt{}
	for _, word := range strings.Fields(words) {
		list = append(list, stmtOfWord(word))
	}
	return list
}

func taskOfWords(words, next string) impl.Task {
	return impl.Task{Body: blockOfWords(words), Next: exprReading(next)}
}

func varsOfDigits(digits string) []int {
	list := []int{}
	for _, digit := range []byte(digits) {
		list = append(list, int(digit-'0'))
	}
	return list
}

func isWrite(s impl.Stmt) bool { return s.Kind == 1 || s.Kind == 2 }

// wantedWrites finds for each variable a statement that writes it, by the text of the document.
func wantedWrites(list []impl.Stmt, partner []int) (may, must []int) {
	for k := range 8 {
		anywhere, outside := false, false
		for i, s := range list {
			if isWrite(s) && s.Var == k {
				anywhere = true
				outside = outside || holdsAt(list, partner, i, len(list))
			}
		}
		if anywhere {
			may = append(may, k)
		}
		if outside {
			must = append(must, k)
		}
	}
	return may, must
}

// holdsAt reports whether each condition around the statement i is also around the place behind it.
func holdsAt(list []impl.Stmt, partner []int, i, place int) bool {
	for c := range i {
		if list[c].Kind == 4 && i < partner[c] && partner[c] < place {
			return false
		}
	}
	return true
}

// wantedFirst finds for each variable a place that reads it and ahead of which no statement certainly writes it.
func wantedFirst(task impl.Task, partner []int) []int {
	first := []int{}
	for k := range 8 {
		for place := range len(task.Body) + 1 {
			e := task.Next
			if place < len(task.Body) {
				e = task.Body[place].E
			}
			if slices.Contains(wantedReads(e), k) && !writtenAhead(task.Body, partner, k, place) {
				first = append(first, k)
				break
			}
		}
	}
	return first
}

func writtenAhead(list []impl.Stmt, partner []int, k, place int) bool {
	for i, s := range list[:place] {
		if isWrite(s) && s.Var == k && holdsAt(list, partner, i, place) {
			return true
		}
	}
	return false
}

func checkSets(t *testing.T, task impl.Task, may, must, first []int) {
	t.Helper()
	if got := impl.MayWrite(task.Body); !slices.Equal(got, may) {
		t.Errorf("MayWrite(%v) = %v; want %v", task.Body, got, may)
	}
	if got := impl.MustWrite(task.Body); !slices.Equal(got, must) {
		t.Errorf("MustWrite(%v) = %v; want %v", task.Body, got, must)
	}
	if got := impl.MayReadFirst(task); !slices.Equal(got, first) {
		t.Errorf("MayReadFirst(%v) = %v; want %v", task, got, first)
	}
}

// checkTaskSets compares with the document read a second time, and accepts any task.
func checkTaskSets(t *testing.T, task impl.Task) {
	t.Helper()
	partner, ok := partners(task.Body)
	if !ok {
		checkSets(t, task, nil, nil, nil)
		return
	}
	may, must := wantedWrites(task.Body, partner)
	first := []int{}
	if impl.ExprOk(task.Next) {
		first = wantedFirst(task, partner)
	}
	checkSets(t, task, may, must, first)
}

// variedTasks are the long blocks with other variables and operations in them; the fewer variables, the more often one is written and read again.
func variedTasks() []impl.Task {
	tasks, next := []impl.Task{}, chooser(11)
	for i, list := range longBlocks() {
		variables := 2 + i%7
		expr := func() impl.Expr {
			e := impl.Expr{Op: 1 + next(7), A: next(3), B: next(3)}
			if next(3) > 0 {
				e.A = -1 - next(variables)
			}
			if next(3) == 0 {
				e.B = -1 - next(variables)
			}
			return e
		}
		for k := range list {
			switch list[k].Kind {
			case impl.StSet:
				list[k].Var, list[k].E = next(variables), expr()
			case impl.StSense:
				list[k].Var, list[k].N = next(variables), next(4)
			case impl.StSend, impl.StIf:
				list[k].E = expr()
			}
		}
		tasks = append(tasks, impl.Task{Body: list, Next: expr()})
	}
	return tasks
}

// A deed is what a statement of the given kind does, or what Next yields; a condition counts with its value, and a loop with its times.
type deed struct{ kind, variable, value int }

// deedsOf performs a valid task by the list of chapter 4, each sensor with other values at each reading.
func deedsOf(task impl.Task, vars []int) []deed { return laterDeedsOf(task, vars, 0) }

// laterDeedsOf performs the task after as many readings of the sensors as senses tells.
func laterDeedsOf(task impl.Task, vars []int, senses int) []deed {
	return sensedDeedsOf(task, vars, func(sensor, n int) int { return (senses + n + 1) * 7 % 5 * (sensor + 1) })
}

// sensedDeedsOf lets reading tell what a sensor shows, where n is the number of sensor readings ahead of this one.
func sensedDeedsOf(task impl.Task, vars []int, reading func(sensor, n int) int) []deed {
	partner, _ := partners(task.Body)
	senses := 0
	vars, deeds, left := slices.Clone(vars), []deed{}, make([]int, len(task.Body))
	value := func(e impl.Expr) int {
		return wantedValue(e.Op, wantedOperand(vars, e.A), wantedOperand(vars, e.B))
	}
	for at := 0; at < len(task.Body); at++ {
		s := task.Body[at]
		switch s.Kind {
		case 1:
			vars[s.Var] = value(s.E)
			deeds = append(deeds, deed{1, s.Var, vars[s.Var]})
		case 2:
			vars[s.Var] = reading(s.N, senses)
			senses++
			deeds = append(deeds, deed{2, s.Var, vars[s.Var]})
		case 3:
			deeds = append(deeds, deed{3, 0, value(s.E)})
		case 4:
			deeds = append(deeds, deed{4, 0, value(s.E)})
			if value(s.E) == 0 {
				at = partner[at]
			}
		case 5:
			deeds = append(deeds, deed{5, 0, s.N})
			left[at] = s.N
		case 6:
			if start := partner[at]; task.Body[start].Kind == 5 {
				left[start]--
				if left[start] > 0 {
					at = start
				}
			}
		}
	}
	return append(deeds, deed{0, 0, value(task.Next)})
}

// variedVars make conditions hold and fail.
func variedVars() [][]int {
	return [][]int{
		distinctVars(), make([]int, 8), {1, 0, 1, 0, 1, 0, 1, 0}, {0, 1, 0, 1, 0, 1, 0, 1}, {0, 0, 1, 1, 2, 2, 3, 3}, {2, 1, 0, -1, -2, 2, 1, 0}, slices.Repeat([]int{1}, 8), {-1, 2, -3, 4, -5, 6, -7, 8},
	}
}

// shortLists are all lists of one to five of these words, with and without the shape of a block.
func shortLists() [][]impl.Stmt {
	all, lists := [][]impl.Stmt{}, [][]impl.Stmt{nil}
	for range 5 {
		longer := [][]impl.Stmt{}
		for _, list := range lists {
			for _, word := range []string{"1=", "2=1", "1~", "!1", "?2", "*2", "."} {
				longer = append(longer, append(slices.Clone(list), stmtOfWord(word)))
			}
		}
		all, lists = append(all, longer...), longer
	}
	return all
}

// changedTasks are varied tasks with one statement less and with one more, which may take the shape of a block from them.
func changedTasks() []impl.Task {
	tasks := []impl.Task{}
	for i, task := range variedTasks()[:900] {
		k := i % len(task.Body)
		tasks = append(tasks, impl.Task{Body: slices.Delete(slices.Clone(task.Body), k, k+1), Next: task.Next})
		tasks = append(tasks, impl.Task{Body: slices.Insert(slices.Clone(task.Body), k, stmtOfWord("1~")), Next: task.Next})
	}
	return tasks
}

// checkBodiesAreKept lets check use bodies with other statements behind them.
func checkBodiesAreKept(t *testing.T, check func(t *testing.T, task impl.Task)) {
	t.Helper()
	lists := [][]impl.Stmt{nil, blockOfWords("3= ? 4="), blockOfWords("3= ."), blockOfWords(strings.Repeat("3= ", 25))}
	for _, task := range variedTasks()[:300] {
		lists = append(lists, task.Body)
	}
	for _, list := range lists {
		for _, behind := range []string{"", ".", ". . . .", "? ? ?", "1= 2~ !3 ?4 .", strings.Repeat("5= ", 30)} {
			whole := append(slices.Clone(list), blockOfWords(behind)...)
			before := slices.Clone(whole)
			check(t, impl.Task{Body: whole[:len(list)], Next: exprReading("06")})
			if !slices.Equal(whole, before) {
				t.Errorf("%v with %s behind it was changed to %v", list, behind, whole)
			}
		}
	}
}

func TestWrites(t *testing.T) {
	for _, c := range []struct{ words, may, must string }{
		{"3=", "3", "3"}, {"3~", "3", "3"}, {"!3", "", ""}, {"?3 .", "", ""}, {"*3 .", "", ""}, {"3= 3=", "3", "3"}, {"3~ 3=5 3~", "3", "3"},
		{"5= 2~ 7= 0~", "0257", "0257"}, {"7= 6= 5= 4= 3= 2= 1= 0=", "01234567", "01234567"}, {"0= 7=", "07", "07"}, {"7~ 0~", "07", "07"},
		{"?1 3= .", "3", ""}, {"?1 3~ .", "3", ""}, {"3= ?1 3~ .", "3", "3"}, {"?1 3= . 3=", "3", "3"}, {"?1 3= . ?1 3~ .", "3", ""}, {"?1 3= . 4=", "34", "4"}, {"4= ?1 3= .", "34", "4"},
		{"*1 3= .", "3", "3"}, {"*5 3~ .", "3", "3"}, {"*2 3= . 1=", "13", "13"},
		{"?1 *2 3= . .", "3", ""}, {"*2 ?1 3= . .", "3", ""}, {"*2 ?1 3= . 4= .", "34", "4"}, {"*2 4= ?1 3= . . 5=", "345", "45"}, {"?1 *2 3= . 4= . 5=", "345", "5"},
		{"?1 ?2 3= . 4= . 5=", "345", "5"}, {"*2 *3 3= . 4= . 5=", "345", "345"}, {"?1 *2 ?3 6= . 5= . 4= . 3=", "3456", "3"}, {"*2 ?1 *2 6= . 5= . 4= . 3=", "3456", "34"}, {"*2 *2 ?1 6= . 5= . 4= . 3=", "3456", "345"}, {"*2 *3 *4 6~ . . .", "6", "6"},
		{"?0 ?0 ?0 6= . . . 2=", "26", "2"}, {"?0 ?0 ?0 . . 6= . 2=", "26", "2"}, {"?0 ?0 . 5= ?0 . 6= . 2=", "256", "2"},
		{"?0 1= . *2 2= . ?0 3= . *3 4~ .", "1234", "24"}, {"?0 . 1= *3 . 2= ?0 *1 . . 3=", "123", "123"},
	} {
		task := taskOfWords(c.words, "")
		may, must := impl.MayWrite(task.Body), impl.MustWrite(task.Body)
		if !slices.Equal(may, varsOfDigits(c.may)) || !slices.Equal(must, varsOfDigits(c.must)) {
			t.Errorf("%s: MayWrite %v, MustWrite %v; want %s and %s", c.words, may, must, c.may, c.must)
		}
		checkTaskSets(t, task)
	}
}

// A condition counts as one that need not hold, even if it always does, and the times of a loop do not matter.
func TestWritesDoNotDependOnValues(t *testing.T) {
	for _, e := range append(validExprs(), constantExpr(1), constantExpr(999)) {
		list := []impl.Stmt{{Kind: impl.StIf, E: e}, {Kind: impl.StSense, Var: 4}, {Kind: impl.StEnd}, {Kind: impl.StSet, Var: 6, E: e}}
		checkSets(t, impl.Task{Body: list, Next: constantExpr(0)}, []int{4, 6}, []int{6}, wantedReads(e))
	}
	for n := 1; n <= 5; n++ {
		list := []impl.Stmt{{Kind: impl.StLoop, N: n}, {Kind: impl.StSense, Var: 4, N: 3}, {Kind: impl.StEnd}}
		checkSets(t, impl.Task{Body: list, Next: exprReading("43")}, []int{4}, []int{4}, []int{3})
	}
}

func TestMayReadFirst(t *testing.T) {
	for _, c := range []struct{ words, next, first string }{
		{"", "", ""}, {"", "3", "3"}, {"", "73", "37"}, {"", "37", "37"}, {"", "33", "3"}, {"", "x3", "3"},
		{"!3", "", "3"}, {"!x3", "", "3"}, {"!53", "", "35"}, {"?3 .", "", "3"}, {"2=3", "", "3"}, {"2=", "", ""}, {"2~", "", ""}, {"*3 .", "", ""}, {"!", "", ""}, {"? .", "", ""},
		{"3= !3", "", ""}, {"3~ !3", "", ""}, {"!3 3=", "", "3"}, {"!3 3~", "", "3"}, {"3= ?3 .", "", ""}, {"?3 . 3=", "", "3"}, {"3= 2=3", "", ""}, {"2=3 3=", "", "3"}, {"3=4 4=3", "", "4"}, {"4=3 3=4", "", "3"},
		{"3= !34", "", "4"}, {"3= !43", "", "4"}, {"3= 4~ !43", "", ""}, {"3= !4 4= !3", "", "4"},
		{"3=3", "", "3"}, {"3=33", "", "3"}, {"3=43", "", "34"}, {"3= 3=3", "", ""}, {"3=3 3=", "", "3"}, {"3~ 3=3", "3", ""}, {"3=4 4=4", "", "4"}, {"0=0", "0", "0"}, {"7=7", "7", "7"},
		{"3=", "3", ""}, {"3~", "3", ""}, {"!3", "3", "3"}, {"3=", "34", "4"}, {"3= 4=", "34", ""}, {"!4", "3", "34"}, {"5=1", "6", "16"}, {"0= 7=", "07", ""}, {"1= 6=", "07", "07"},
		{"?5 3= .", "3", "35"}, {"?5 3~ .", "3", "35"}, {"?5 3= . 3=", "3", "5"}, {"3= ?5 3= .", "3", "5"}, {"?5 3= !3 .", "", "5"}, {"?5 3= !3 . !3", "", "35"}, {"?5 3~ !3 . 3= !3", "", "5"}, {"?5 !3 3= .", "", "35"}, {"3= ?5 !3 .", "3", "5"},
		{"?3 3= .", "", "3"}, {"?5 3= . ?5 !3 .", "", "35"}, {"?5 3= . ?3 .", "", "35"}, {"?5 3= . *2 !3 .", "", "35"}, {"?5 3= *2 !3 . .", "", "5"}, {"?5 5= .", "5", "5"}, {"? 5= !5 .", "5", "5"},
		{"*2 3= .", "3", ""}, {"*2 3~ .", "3", ""}, {"*2 !3 3= .", "", "3"}, {"*2 3= !3 .", "", ""}, {"*5 3= . !3", "3", ""}, {"*2 !3 . 3=", "", "3"}, {"3= *2 !3 .", "", ""}, {"*2 4=3 3= .", "4", "3"}, {"*1 3=3 .", "3", "3"},
		{"?5 ?6 3= . !3 .", "", "356"}, {"?5 3= ?6 . !3 .", "", "56"}, {"?5 3= ?6 !3 . .", "", "56"}, {"?5 3= ?6 4= . !3 .", "4", "456"}, {"?5 ?6 . 3= !3 .", "3", "356"}, {"?5 3= ?6 4= !34 . !4 .", "", "456"}, {"?5 3= ?6 4= !34 . !3 . !3", "", "356"},
		{"?5 ?6 ?7 3= !3 . . .", "", "567"}, {"?5 ?6 ?7 3= . !3 . .", "", "3567"}, {"?5 ?6 3= ?7 4= . !3 . .", "", "567"}, {"?5 1= ?6 2= ?7 3= !12 !3 . !12 . !1 .", "", "567"}, {"?5 1= ?6 2= ?7 3= . !3 . .", "", "3567"}, {"?5 1= ?6 2= ?7 3= . . !2 .", "", "2567"}, {"?5 1= ?6 2= ?7 3= . . . !1", "", "1567"},
		{"?5 1= ?6 . !1 .", "1", "156"}, {"?5 1= *2 . !1 .", "1", "15"}, {"?5 1= *2 . !1 .", "", "5"}, {"*2 1= ?6 . !1 .", "1", "6"}, {"*2 ?6 1= . !1 .", "", "16"}, {"*2 ?6 1= !1 . . !1", "", "16"}, {"*2 ?6 1= !1 . .", "", "6"},
		{"?5 *2 1= . !1 .", "", "5"}, {"?5 *2 1= . . !1", "", "15"}, {"?5 *2 *2 1= . . !1 .", "1", "15"}, {"*2 ?5 *2 1= . !1 . .", "1", "15"}, {"*2 *2 ?5 1= . . 2= . !12", "", "15"}, {"*2 *2 1= . . !1", "1", ""},
		{"?5 1= . ?6 2= . ?7 !12 .", "", "12567"}, {"?5 1= . ?6 1= .", "1", "156"}, {"1= ?5 . ?6 .", "1", "56"}, {"*2 . 1= *3 . !1", "1", ""}, {"? . ? .", "0", "0"}, {"?7 0~ .", "", "7"}, {"0~ ?0 7~ . !7", "", "7"},
		{"!7 !6 !5 !4 !3 !2 !1 !0", "", "01234567"}, {"!76 !54 !32 !10", "70", "01234567"}, {"0= 2= 4= 6= !01 !23 !45 !67", "", "1357"},
	} {
		task := taskOfWords(c.words, c.next)
		if got := impl.MayReadFirst(task); !slices.Equal(got, varsOfDigits(c.first)) {
			t.Errorf("%s, next %q: MayReadFirst = %v; want %s", c.words, c.next, got, c.first)
		}
		checkTaskSets(t, task)
	}
}

// Each variable by itself, so that the first and the last one are like all others.
func TestSetsOfEachVariable(t *testing.T) {
	words := []string{"#= !#", "#~ !#", "!# #=", "#=#", "? #= . !#", "? #= !# .", "*3 #~ . !#", "*3 !# #= .", "? *2 #= . !# .", "*2 ? #~ . !# .", "?# .", "?# #= .", "#= ?# #=# .", "!#", "#=", "#~", ""}
	firsts := []bool{false, false, true, true, true, false, false, true, false, true, true, true, false, true, false, false, false}
	for i, w := range words {
		for k := range 8 {
			digit := string(rune('0' + k))
			task := taskOfWords(strings.ReplaceAll(w, "#", digit), "")
			want := []int{}
			if firsts[i] {
				want = []int{k}
			}
			if got := impl.MayReadFirst(task); !slices.Equal(got, want) {
				t.Errorf("%s for %d: MayReadFirst = %v; want %v", w, k, got, want)
			}
			for other := range 8 {
				task.Next = exprReading(digit + string(rune('0'+other)))
				checkTaskSets(t, task)
				checkTaskSets(t, impl.Task{Body: task.Body, Next: exprReading(string(rune('0' + other)))})
			}
		}
	}
}

func TestSetsOfTheEmptyBlock(t *testing.T) {
	for _, list := range [][]impl.Stmt{nil, {}, blockOfWords("3= !4")[:0], blockOfWords("3= !4")[2:]} {
		checkSets(t, impl.Task{Body: list, Next: exprReading("")}, nil, nil, nil)
		checkSets(t, impl.Task{Body: list, Next: exprReading("70")}, nil, nil, []int{0, 7})
		checkSets(t, impl.Task{Body: list, Next: exprReading("4")}, nil, nil, []int{4})
		checkSets(t, impl.Task{Body: list}, nil, nil, nil)
	}
}

func TestSetsOfEachExpression(t *testing.T) {
	end := impl.Stmt{Kind: impl.StEnd}
	for _, e := range validExprs() {
		reads := wantedReads(e)
		for _, list := range [][]impl.Stmt{{{Kind: impl.StSend, E: e}}, {{Kind: impl.StIf, E: e}, end}} {
			checkSets(t, impl.Task{Body: list, Next: constantExpr(1)}, nil, nil, reads)
		}
		checkSets(t, impl.Task{Next: e}, nil, nil, reads)
		for k := range 8 {
			checkSets(t, impl.Task{Body: []impl.Stmt{{Kind: impl.StSet, Var: k, E: e}}, Next: constantExpr(-1 - k)}, []int{k}, []int{k}, reads)
			left := slices.DeleteFunc(slices.Clone(reads), func(v int) bool { return v == k })
			sense := impl.Stmt{Kind: impl.StSense, Var: k}
			checkSets(t, impl.Task{Body: []impl.Stmt{sense, {Kind: impl.StSend, E: e}}, Next: e}, []int{k}, []int{k}, left)
			checkSets(t, impl.Task{Body: []impl.Stmt{{Kind: impl.StIf, E: constantExpr(1)}, sense, {Kind: impl.StSend, E: e}, end}, Next: constantExpr(0)}, []int{k}, nil, left)
			checkSets(t, impl.Task{Body: []impl.Stmt{{Kind: impl.StIf, E: constantExpr(1)}, sense, end}, Next: e}, []int{k}, nil, reads)
		}
	}
}

func TestSetsOfTheLargestBlock(t *testing.T) {
	for _, c := range []struct{ words, next, may, must, first string }{
		{strings.Repeat("7= 6= 5= 4= 3= 2= 1= 0= ", 3), "07", "01234567", "01234567", ""},
		{strings.Repeat("!7 !6 !5 !4 !3 !2 !1 !0 ", 3), "", "", "", "01234567"},
		{strings.Repeat("?7 0= . ", 8), "0", "0", "", "07"},
		{strings.Repeat("*5 0= . ", 8), "0", "0", "0", ""},
		{strings.Repeat("? ", 3) + strings.Repeat("0~ !0 ", 9) + strings.Repeat(". ", 3), "", "0", "", ""},
		{strings.Repeat("? ", 3) + strings.Repeat("0~ !0 ", 9) + strings.Repeat(". ", 3), "0", "0", "", "0"},
		{strings.Repeat("? . ", 12), "3", "", "", "3"},
		{strings.Repeat("!3 ", 23) + "3=", "3", "3", "3", "3"},
		{"3~ " + strings.Repeat("!3 ", 23), "3", "3", "3", ""},
		{"? 1= ?1 2= ?2 3= !3 " + strings.Repeat("!12 ", 11) + ". 4=3 !24 . 4=4 .", "", "1234", "", "34"},
	} {
		task := taskOfWords(c.words, c.next)
		if len(task.Body) != 24 {
			t.Fatalf("%s has %d statements", c.words, len(task.Body))
		}
		checkSets(t, task, varsOfDigits(c.may), varsOfDigits(c.must), varsOfDigits(c.first))
		checkTaskSets(t, task)
		task.Body = append(task.Body, stmtOfWord("3~"))
		checkSets(t, task, nil, nil, nil)
	}
}

// invalidBodies are no blocks: some have another shape, and others a statement that is not valid.
func invalidBodies() [][]impl.Stmt {
	lists := [][]impl.Stmt{
		blockOfWords("3= ? 4="), blockOfWords("? 3="), blockOfWords("3= ."), blockOfWords(". 3= !4"), blockOfWords("3= . *2 !4"), blockOfWords("? ? ? ? 3= !4 . . . ."), blockOfWords("*1 *1 *1 *1 3= !4 . . . ."),
		blockOfWords(strings.Repeat("3= ", 25)), blockOfWords("?4 " + strings.Repeat("3~ ", 23) + "."), blockOfWords(strings.Repeat("3= !4 ", 10000)), blockOfWords("3= ? . . ?"), blockOfWords("*2 3= ?5 ."),
	}
	for _, signs := range badSigns() {
		lists = append(lists, blockOf(signs))
	}
	for _, bad := range invalidStmts() {
		lists = append(lists, []impl.Stmt{bad})
		for _, words := range []string{"3= !4", "?4 3= .", "*2 3~ ?5 !3 . . 0="} {
			for i, s := range blockOfWords(words) {
				// In place of a statement of its own kind, the list has the shape of a block; elsewhere it may have none.
				if bad.Kind == s.Kind || s.Kind <= impl.StSend {
					list := blockOfWords(words)
					list[i] = bad
					lists = append(lists, list)
				}
			}
		}
	}
	return lists
}

func TestSetsOfListsThatAreNoBlocks(t *testing.T) {
	nexts := append(invalidExprs()[:5], exprReading(""), exprReading("7"), exprReading("24"))
	for _, list := range invalidBodies() {
		for _, next := range nexts {
			checkSets(t, impl.Task{Body: list, Next: next}, nil, nil, nil)
		}
	}
}

// Next belongs to MayReadFirst alone: the sets of a Body that is valid do not depend on it.
func TestSetsOfAnInvalidNext(t *testing.T) {
	for _, next := range append(invalidExprs(), impl.Expr{Op: 8, A: -3, B: -4}, impl.Expr{Op: 1, A: -9, B: -4}, impl.Expr{Op: 1, A: -4, B: 1000}) {
		checkSets(t, impl.Task{Body: blockOfWords("3= !4 ?5 2~ ."), Next: next}, []int{2, 3}, []int{3}, nil)
		checkSets(t, impl.Task{Body: blockOfWords("!45"), Next: next}, nil, nil, nil)
		checkSets(t, impl.Task{Next: next}, nil, nil, nil)
		checkSets(t, impl.Task{Body: blockOfWords("3= ? !4"), Next: next}, nil, nil, nil)
		checkSets(t, impl.Task{Body: []impl.Stmt{{Kind: 9}}, Next: next}, nil, nil, nil)
	}
}

func TestSetsOfAllShortLists(t *testing.T) {
	for _, list := range shortLists() {
		checkTaskSets(t, impl.Task{Body: list, Next: exprReading("")})
		checkTaskSets(t, impl.Task{Body: list, Next: exprReading("1")})
	}
}

func TestSetsOfLongBlocks(t *testing.T) {
	for _, task := range append(variedTasks(), changedTasks()...) {
		checkTaskSets(t, task)
	}
}

// What must be written may be written, and a block without conditions must write all that it may write.
func TestMustWriteAndMayWrite(t *testing.T) {
	for _, task := range variedTasks() {
		may, must := impl.MayWrite(task.Body), impl.MustWrite(task.Body)
		for _, k := range must {
			if !impl.HasVar(may, k) {
				t.Errorf("%v must write %d, but may write %v", task.Body, k, may)
			}
		}
		plain := slices.Clone(task.Body)
		for i, s := range plain {
			if s.Kind == impl.StIf {
				plain[i] = impl.Stmt{Kind: impl.StLoop, N: 3}
			}
		}
		if got := impl.MustWrite(plain); !slices.Equal(got, may) || !slices.Equal(impl.MayWrite(plain), may) {
			t.Errorf("%v must write %v and may write %v; want %v", plain, got, impl.MayWrite(plain), may)
		}
	}
}

// The sets hold for every execution.
func TestExecutionsWriteWhatTheSetsTell(t *testing.T) {
	skipped := false
	for _, task := range variedTasks() {
		may, must := impl.MayWrite(task.Body), impl.MustWrite(task.Body)
		for _, vars := range variedVars() {
			written := []int{}
			for _, d := range deedsOf(task, vars) {
				if d.kind == impl.StSet || d.kind == impl.StSense {
					written = append(written, d.variable)
				}
			}
			for k := range 8 {
				now := slices.Contains(written, k)
				if now && !impl.HasVar(may, k) || !now && impl.HasVar(must, k) {
					t.Errorf("%v with %v writes %v; may write %v, must write %v", task, vars, written, may, must)
				}
				skipped = skipped || !now && impl.HasVar(may, k)
			}
		}
	}
	if !skipped {
		t.Error("no task of this test skips a condition")
	}
}

// Promise 7: whatever the variables contain that are never read first, the same is written and sent, and the same follows.
func TestOtherVariablesDoNotMatter(t *testing.T) {
	for _, task := range variedTasks() {
		first := impl.MayReadFirst(task)
		for _, vars := range variedVars() {
			want := deedsOf(task, vars)
			for _, other := range []int{0, 1, -3, 1000000} {
				changed := slices.Repeat([]int{other}, 8)
				for _, k := range first {
					changed[k] = vars[k]
				}
				if got := deedsOf(task, changed); !slices.Equal(got, want) {
					t.Errorf("%v reads %v first, but does %v with %v and %v with %v", task, first, want, vars, got, changed)
				}
			}
		}
	}
}

// Promise 7 from the other side: some execution depends on what MayReadFirst tells. The conditions ?5 and ?6 hold unless their variable is -7.
func TestFirstReadVariablesMatter(t *testing.T) {
	for _, c := range []struct{ words, next, inputs string }{
		{"!3", "", "3"}, {"3=3", "", "3"}, {"?5 3= .", "3", "35"}, {"?5 3= !3 . !3", "", "35"}, {"*2 4=3 3= .", "4", "3"}, {"3= !34", "", "4"}, {"?5 ?6 3= . !3 .", "", "356"}, {"", "70", "07"},
	} {
		task := taskOfWords(c.words, c.next)
		for _, k := range varsOfDigits(c.inputs) {
			matters := false
			for _, conditions := range [][]int{{-7, -7}, {-7, 1}, {1, -7}, {1, 1}} {
				vars := slices.Concat(make([]int, 5), conditions, []int{0})
				changed := slices.Clone(vars)
				changed[k] += 11
				matters = matters || !slices.Equal(deedsOf(task, vars), deedsOf(task, changed))
			}
			if !matters || !impl.HasVar(impl.MayReadFirst(task), k) {
				t.Errorf("%s, next %q: the variable %d matters: %v; MayReadFirst = %v", c.words, c.next, k, matters, impl.MayReadFirst(task))
			}
		}
	}
}

func TestHasVar(t *testing.T) {
	for _, c := range []struct {
		list []int
		k    int
		want bool
	}{
		{nil, 0, false}, {[]int{}, 0, false}, {[]int{}, -1, false}, {nil, 7, false}, {[]int{0}, 0, true}, {[]int{7}, 7, true}, {[]int{7}, 0, false}, {[]int{0}, 7, false},
		{[]int{1, 2}, 1, true}, {[]int{1, 2}, 2, true}, {[]int{1, 2}, 3, false}, {[]int{1, 2}, 0, false}, {[]int{1, 3}, 2, false}, {[]int{1, 2, 3}, 2, true},
		{[]int{3, 3}, 3, true}, {[]int{3, 3}, 2, false}, {[]int{3, 5, 3}, 3, true}, {[]int{5, 3, 3}, 3, true}, {[]int{3, 3, 5}, 5, true},
		{[]int{5, 1, 4}, 1, true}, {[]int{5, 1, 4}, 4, true}, {[]int{5, 1, 4}, 5, true}, {[]int{5, 1, 4}, 2, false}, {[]int{7, 6, 5, 4, 3, 2, 1, 0}, 0, true}, {[]int{7, 6, 5, 4, 3, 2, 1, 0}, 7, true},
		{[]int{-1, 8}, -1, true}, {[]int{-1, 8}, 8, true}, {[]int{0, 1, 2, 3, 4, 5, 6, 7}, 8, false}, {[]int{0, 1, 2, 3, 4, 5, 6, 7}, -1, false}, {[]int{1000000}, 1000000, true},
		{[]int{math.MinInt, math.MaxInt}, math.MinInt, true}, {[]int{math.MinInt, math.MaxInt}, math.MaxInt, true}, {[]int{math.MinInt, math.MaxInt}, 0, false}, {[]int{1 << 32}, 0, false}, {[]int{256}, 0, false},
	} {
		if got := impl.HasVar(c.list, c.k); got != c.want {
			t.Errorf("HasVar(%v, %d) = %v", c.list, c.k, got)
		}
	}
	room := []int{4, 2, 4, 6}
	if impl.HasVar(room[:3], 6) || impl.HasVar(room[1:1], 2) || !impl.HasVar(room[:3], 4) || !slices.Equal(room, []int{4, 2, 4, 6}) {
		t.Error("HasVar looks behind the end of a list, or changes it:", room)
	}
}

func TestHasVarOfTheResults(t *testing.T) {
	for _, task := range variedTasks()[:200] {
		for _, set := range [][]int{impl.MayWrite(task.Body), impl.MustWrite(task.Body), impl.MayReadFirst(task)} {
			for k := -10; k <= 10; k++ {
				if got := impl.HasVar(set, k); got != (slices.Index(set, k) >= 0) {
					t.Errorf("HasVar(%v, %d) = %v", set, k, got)
				}
			}
		}
	}
}

func TestSetsAreAscendingAndNewMemory(t *testing.T) {
	for _, task := range variedTasks()[:500] {
		for range 3 {
			for _, set := range [][]int{impl.MayWrite(task.Body), impl.MustWrite(task.Body), impl.MayReadFirst(task)} {
				for i, k := range set {
					if k < 0 || k > 7 || i > 0 && set[i-1] >= k {
						t.Errorf("%v: the set %v is not strictly ascending from 0 to 7", task, set)
					}
				}
				// A set that shares memory with another one, or with a later one, changes it.
				set = set[:cap(set)]
				for i := range set {
					set[i] = -5
				}
			}
		}
		may, must, first := impl.MayWrite(task.Body), impl.MustWrite(task.Body), impl.MayReadFirst(task)
		for _, set := range [][]int{may[:cap(may)], must[:cap(must)]} {
			for i := range set {
				set[i] = -5
			}
		}
		checkTaskSets(t, task)
		partner, _ := partners(task.Body)
		if !slices.Equal(first, wantedFirst(task, partner)) {
			t.Errorf("%v: MayReadFirst shares memory with other sets", task)
		}
	}
}

func TestSetsDoNotChangeTheBlock(t *testing.T) { checkBodiesAreKept(t, checkTaskSets) }
