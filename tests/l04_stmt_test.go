package tests

import (
	"math"
	"slices"
	"strconv"
	"strings"
	"testing"

	"loop.example/g00983/impl"
)

// usedFields tells what the document mentions for a kind.
type usedFields struct{ variable, number, expr bool }

func usedBy(kind int) usedFields {
	switch kind {
	case 1:
		return usedFields{variable: true, expr: true}
	case 2:
		return usedFields{variable: true, number: true}
	case 3, 4:
		return usedFields{expr: true}
	case 5:
		return usedFields{number: true}
	}
	return usedFields{}
}

// plainStmts has one valid statement of each kind, with another number in each field.
func plainStmts() []impl.Stmt {
	e := impl.Expr{Op: 2, A: -4, B: 17}
	return []impl.Stmt{
		{Kind: impl.StSet, Var: 5, E: e}, {Kind: impl.StSense, Var: 6, N: 3}, {Kind: impl.StSend, E: e},
		{Kind: impl.StIf, E: e}, {Kind: impl.StLoop, N: 4}, {Kind: impl.StEnd},
	}
}

// validStmts has each number of Var and N that a kind accepts, and each operation with many operands.
func validStmts() []impl.Stmt {
	list := []impl.Stmt{{Kind: impl.StEnd}}
	for n := 1; n <= 5; n++ {
		list = append(list, impl.Stmt{Kind: impl.StLoop, N: n})
	}
	for v := range 8 {
		for n := range 4 {
			list = append(list, impl.Stmt{Kind: impl.StSense, Var: v, N: n})
		}
	}
	for _, e := range validExprs() {
		list = append(list, impl.Stmt{Kind: impl.StSend, E: e}, impl.Stmt{Kind: impl.StIf, E: e})
		for v := range 8 {
			list = append(list, impl.Stmt{Kind: impl.StSet, Var: v, E: e})
		}
	}
	return list
}

func farNumbers() []int {
	return []int{1000000, -1000000, 1<<32 - 1, 1 << 32, 1<<32 + 1, -(1 << 32), math.MaxInt - 1, math.MaxInt, math.MinInt + 1, math.MinInt}
}

func invalidKinds() []int { return append([]int{0, 7, -1, 8, -6, 100}, farNumbers()...) }

// stmtsWithUnusedFields have one field that the kind does not use and that is not 0.
func stmtsWithUnusedFields() []impl.Stmt {
	list := []impl.Stmt{}
	for _, s := range plainStmts() {
		used := usedBy(s.Kind)
		for _, n := range append([]int{1, -1, 2, 3, 7, -8, 999}, farNumbers()...) {
			changes := []impl.Stmt{}
			if !used.variable {
				changes = append(changes, impl.Stmt{Kind: s.Kind, Var: n, N: s.N, E: s.E})
			}
			if !used.number {
				changes = append(changes, impl.Stmt{Kind: s.Kind, Var: s.Var, N: n, E: s.E})
			}
			if !used.expr {
				for _, e := range []impl.Expr{{Op: n}, {A: n}, {B: n}, {Op: 1, A: n, B: 2}, {Op: 1}} {
					changes = append(changes, impl.Stmt{Kind: s.Kind, Var: s.Var, N: s.N, E: e})
				}
			}
			list = append(list, changes...)
		}
	}
	return list
}

// stmtsWithWrongFields have one field that the kind uses and that is outside its range.
func stmtsWithWrongFields() []impl.Stmt {
	list := []impl.Stmt{}
	e := impl.Expr{Op: 1, A: 2, B: 3}
	for _, n := range append([]int{-1, 8, -2, 9, -8, 16}, farNumbers()...) {
		list = append(list, impl.Stmt{Kind: impl.StSet, Var: n, E: e}, impl.Stmt{Kind: impl.StSense, Var: n, N: 1})
	}
	for _, n := range append([]int{-1, 4, -2, 5, 8}, farNumbers()...) {
		list = append(list, impl.Stmt{Kind: impl.StSense, N: n}, impl.Stmt{Kind: impl.StSense, Var: 7, N: n})
	}
	for _, n := range append([]int{0, 6, -1, 7, 10}, farNumbers()...) {
		list = append(list, impl.Stmt{Kind: impl.StLoop, N: n})
	}
	for _, e := range invalidExprs() {
		list = append(list, impl.Stmt{Kind: impl.StSet, Var: 7, E: e}, impl.Stmt{Kind: impl.StSend, E: e}, impl.Stmt{Kind: impl.StIf, E: e})
	}
	return list
}

func stmtsOfInvalidKinds() []impl.Stmt {
	list := []impl.Stmt{{}}
	for _, kind := range invalidKinds() {
		list = append(list, impl.Stmt{Kind: kind})
		for _, s := range plainStmts() {
			s.Kind = kind
			list = append(list, s)
		}
	}
	return list
}

func invalidStmts() []impl.Stmt {
	return slices.Concat(stmtsOfInvalidKinds(), stmtsWithUnusedFields(), stmtsWithWrongFields())
}

// wantedText writes a valid statement by the list of the document, without the program's help.
func wantedText(s impl.Stmt) string {
	e := strconv.Itoa(s.E.Op) + " " + strconv.Itoa(s.E.A) + " " + strconv.Itoa(s.E.B)
	switch s.Kind {
	case 1:
		return "set " + strconv.Itoa(s.Var) + " " + e
	case 2:
		return "sense " + strconv.Itoa(s.Var) + " " + strconv.Itoa(s.N)
	case 3:
		return "send " + e
	case 4:
		return "if " + e
	case 5:
		return "loop " + strconv.Itoa(s.N)
	}
	return "end"
}

func checkParseStmt(t *testing.T, line string, want impl.Stmt) {
	t.Helper()
	if got, ok := impl.ParseStmt(line); !ok || got != want {
		t.Errorf("ParseStmt(%q) = %v, %v; want %v", line, got, ok, want)
	}
}

func checkNoStmt(t *testing.T, line string) {
	t.Helper()
	if got, ok := impl.ParseStmt(line); ok || got != (impl.Stmt{}) {
		t.Errorf("ParseStmt(%q) = %v, %v; want the zero statement and false", line, got, ok)
	}
}

func TestStmtConstants(t *testing.T) {
	got := []int{impl.StSet, impl.StSense, impl.StSend, impl.StIf, impl.StLoop, impl.StEnd, impl.MaxLoop, impl.MaxSensors}
	if !slices.Equal(got, []int{1, 2, 3, 4, 5, 6, 5, 4}) {
		t.Error("a constant of chapter 4 differs from the document:", got)
	}
}

func TestStmtOk(t *testing.T) {
	for _, s := range append(validStmts(), plainStmts()...) {
		if !impl.StmtOk(s) {
			t.Errorf("StmtOk(%v) = false", s)
		}
	}
	for _, s := range invalidStmts() {
		if impl.StmtOk(s) {
			t.Errorf("StmtOk(%v) = true", s)
		}
	}
}

func TestStmtOkAtEachBound(t *testing.T) {
	e := impl.Expr{Op: 7, A: -8, B: 999}
	for _, c := range []struct {
		s    impl.Stmt
		want bool
	}{
		{impl.Stmt{Kind: 1, Var: 0, E: e}, true}, {impl.Stmt{Kind: 1, Var: 7, E: e}, true},
		{impl.Stmt{Kind: 1, Var: -1, E: e}, false}, {impl.Stmt{Kind: 1, Var: 8, E: e}, false},
		{impl.Stmt{Kind: 2, Var: 0, N: 0}, true}, {impl.Stmt{Kind: 2, Var: 7, N: 3}, true}, {impl.Stmt{Kind: 2, Var: 0, N: 3}, true}, {impl.Stmt{Kind: 2, Var: 7}, true},
		{impl.Stmt{Kind: 2, Var: -1, N: 0}, false}, {impl.Stmt{Kind: 2, Var: 8, N: 3}, false}, {impl.Stmt{Kind: 2, Var: 0, N: -1}, false}, {impl.Stmt{Kind: 2, Var: 7, N: 4}, false},
		{impl.Stmt{Kind: 5, N: 1}, true}, {impl.Stmt{Kind: 5, N: 5}, true}, {impl.Stmt{Kind: 5, N: 0}, false}, {impl.Stmt{Kind: 5, N: 6}, false},
		{impl.Stmt{Kind: 6}, true}, {impl.Stmt{Kind: 7}, false}, {impl.Stmt{Kind: 0}, false},
		{impl.Stmt{Kind: 1}, false}, {impl.Stmt{Kind: 3}, false}, {impl.Stmt{Kind: 4}, false},
		{impl.Stmt{Kind: 3, E: e}, true}, {impl.Stmt{Kind: 4, E: e}, true},
		{impl.Stmt{Kind: 3, E: impl.Expr{Op: 8, A: -8, B: 999}}, false}, {impl.Stmt{Kind: 4, E: impl.Expr{Op: 0, A: -8, B: 999}}, false},
		{impl.Stmt{Kind: 3, E: impl.Expr{Op: 7, A: -9, B: 999}}, false}, {impl.Stmt{Kind: 4, E: impl.Expr{Op: 7, A: -8, B: 1000}}, false},
	} {
		if got := impl.StmtOk(c.s); got != c.want {
			t.Errorf("StmtOk(%v) = %v", c.s, got)
		}
	}
}

// Small numbers in all fields at once, against the document read a second time.
func TestStmtOkOfAllSmallFields(t *testing.T) {
	exprs := []impl.Expr{{}, {Op: 1}, {A: 1}, {B: 1}, {Op: 7, A: -8, B: -8}, {Op: 8, A: 1, B: 1}}
	for kind := -1; kind <= 8; kind++ {
		for v := -1; v <= 8; v++ {
			for n := -1; n <= 6; n++ {
				for _, e := range exprs {
					s := impl.Stmt{Kind: kind, Var: v, N: n, E: e}
					if got, want := impl.StmtOk(s), wantedStmtOk(s); got != want {
						t.Errorf("StmtOk(%v) = %v", s, got)
					}
				}
			}
		}
	}
}

func wantedStmtOk(s impl.Stmt) bool {
	if s.Kind < 1 || s.Kind > 6 {
		return false
	}
	used := usedBy(s.Kind)
	variableOk := s.Var == 0 || used.variable && s.Var > 0 && s.Var < 8
	exprOk := s.E == impl.Expr{}
	if used.expr {
		exprOk = impl.ExprOk(s.E)
	}
	numberOk := s.N == 0
	if s.Kind == 2 {
		numberOk = s.N >= 0 && s.N < 4
	}
	if s.Kind == 5 {
		numberOk = s.N >= 1 && s.N <= 5
	}
	return variableOk && exprOk && numberOk
}

func TestFormatStmt(t *testing.T) {
	for _, c := range []struct {
		s    impl.Stmt
		want string
	}{
		{impl.Stmt{Kind: impl.StSet, Var: 1, E: impl.Expr{Op: 1, A: -2, B: 1}}, "set 1 1 -2 1"},
		{impl.Stmt{Kind: impl.StSet, Var: 0, E: impl.Expr{Op: 7, A: 0, B: 999}}, "set 0 7 0 999"},
		{impl.Stmt{Kind: impl.StSet, Var: 7, E: impl.Expr{Op: 3, A: 999, B: -8}}, "set 7 3 999 -8"},
		{impl.Stmt{Kind: impl.StSense, Var: 7, N: 3}, "sense 7 3"}, {impl.Stmt{Kind: impl.StSense}, "sense 0 0"}, {impl.Stmt{Kind: impl.StSense, Var: 2, N: 1}, "sense 2 1"},
		{impl.Stmt{Kind: impl.StSend, E: impl.Expr{Op: 4, A: 10, B: -1}}, "send 4 10 -1"}, {impl.Stmt{Kind: impl.StSend, E: impl.Expr{Op: 2, A: -1, B: 100}}, "send 2 -1 100"},
		{impl.Stmt{Kind: impl.StIf, E: impl.Expr{Op: 6, A: -3, B: 500}}, "if 6 -3 500"}, {impl.Stmt{Kind: impl.StIf, E: impl.Expr{Op: 5, A: 0, B: 0}}, "if 5 0 0"},
		{impl.Stmt{Kind: impl.StLoop, N: 1}, "loop 1"}, {impl.Stmt{Kind: impl.StLoop, N: 5}, "loop 5"},
		{impl.Stmt{Kind: impl.StEnd}, "end"},
	} {
		if got := impl.FormatStmt(c.s); got != c.want {
			t.Errorf("FormatStmt(%v) = %q; want %q", c.s, got, c.want)
		}
	}
}

func TestFormatStmtOfInvalidStatements(t *testing.T) {
	for _, s := range invalidStmts() {
		if got := impl.FormatStmt(s); got != "" {
			t.Errorf("FormatStmt(%v) = %q", s, got)
		}
	}
}

// Promise 4, and the text that is parsed is the one that the document describes.
func TestValidStatementsCanBeParsed(t *testing.T) {
	for _, s := range append(validStmts(), plainStmts()...) {
		text := impl.FormatStmt(s)
		if text != wantedText(s) {
			t.Errorf("FormatStmt(%v) = %q; want %q", s, text, wantedText(s))
		}
		checkParseStmt(t, text, s)
	}
}

// Promise 4 for each operand, at each place of an expression.
func TestStatementsOfAllOperandsCanBeParsed(t *testing.T) {
	for n := leastOperand; n <= greatestOperand; n++ {
		for _, e := range []impl.Expr{{Op: 1, A: n, B: -1}, {Op: 7, A: 999, B: n}, {Op: 4, A: n, B: n}} {
			for _, s := range []impl.Stmt{{Kind: impl.StSet, Var: 3, E: e}, {Kind: impl.StSend, E: e}, {Kind: impl.StIf, E: e}} {
				text := impl.FormatStmt(s)
				if text != wantedText(s) {
					t.Errorf("FormatStmt(%v) = %q; want %q", s, text, wantedText(s))
				}
				checkParseStmt(t, text, s)
			}
		}
	}
}

func TestDifferentStatementsHaveDifferentTexts(t *testing.T) {
	seen := map[string]impl.Stmt{}
	for _, s := range validStmts() {
		text := impl.FormatStmt(s)
		if other, ok := seen[text]; ok {
			t.Errorf("%v and %v are both %q", s, other, text)
		}
		seen[text] = s
	}
}

func TestParseStmtIgnoresSpaces(t *testing.T) {
	for _, s := range plainStmts() {
		text := impl.FormatStmt(s)
		for _, gap := range []string{" ", "  ", "       "} {
			wide := strings.ReplaceAll(text, " ", gap)
			for _, line := range []string{wide, gap + wide, wide + gap, gap + wide + gap} {
				checkParseStmt(t, line, s)
			}
		}
	}
	checkParseStmt(t, " set  1 1 -2 1 ", impl.Stmt{Kind: impl.StSet, Var: 1, E: impl.Expr{Op: 1, A: -2, B: 1}})
}

func TestParseStmtOfLongLines(t *testing.T) {
	for _, s := range plainStmts() {
		text := impl.FormatStmt(s)
		gap := strings.Repeat(" ", 600-len(text))
		word, rest, _ := strings.Cut(text, " ")
		for _, line := range []string{gap + text, text + gap, word + gap + " " + rest} {
			line = line[:min(len(line), 600)]
			checkParseStmt(t, line, s)
			checkNoStmt(t, line+" ")
			checkNoStmt(t, " "+line)
		}
		checkNoStmt(t, text+strings.Repeat(" ", 20000))
	}
}

func TestParseStmtOfOtherBytes(t *testing.T) {
	for _, s := range plainStmts() {
		text := impl.FormatStmt(s)
		for _, b := range []byte{0, 1, 9, 10, 13, 31, 127, 128, 160, 194, 255} {
			bad := string([]byte{b})
			checkNoStmt(t, text+bad)
			checkNoStmt(t, bad+text)
			checkNoStmt(t, text+" "+bad)
			checkNoStmt(t, bad+" "+text)
			if strings.Contains(text, " ") {
				checkNoStmt(t, strings.ReplaceAll(text, " ", bad))
				checkNoStmt(t, strings.Replace(text, " ", " "+bad, 1))
			}
		}
	}
}

// Every byte in place of a byte of the text: what can be parsed has exactly that text.
func TestParseStmtOfChangedBytes(t *testing.T) {
	for _, s := range plainStmts() {
		text := impl.FormatStmt(s)
		for i := range text {
			for b := range 256 {
				changed := []byte(text)
				changed[i] = byte(b)
				line := string(changed)
				got, ok := impl.ParseStmt(line)
				if ok != (got != impl.Stmt{}) || ok && impl.FormatStmt(got) != strings.Join(strings.Fields(line), " ") {
					t.Errorf("ParseStmt(%q) = %v, %v", line, got, ok)
				}
			}
		}
	}
}

func TestParseStmtOfEmptyLines(t *testing.T) {
	for _, line := range []string{"", " ", "     ", strings.Repeat(" ", 600), strings.Repeat(" ", 601)} {
		checkNoStmt(t, line)
	}
}

func TestParseStmtOfOtherWords(t *testing.T) {
	words := []string{"se", "sett", "sen", "sens", "senses", "sending", "i", "iff", "loo", "loops", "en", "ends", "else", "x", "0", "1", "-1", "Set", "SET", "End", "IF", "*", "set1", "end.", "send,", "-"}
	rests := []string{"", " 1", " 1 1", " 1 1 1", " 1 1 1 1", " 1 1 1 1 1"}
	for _, word := range words {
		for _, rest := range rests {
			checkNoStmt(t, word+rest)
		}
	}
}

// Only one number of fields is a statement; the numbers are ones that each kind accepts at each place.
func TestParseStmtOfFewerAndMoreFields(t *testing.T) {
	counts := map[string]int{"set": 4, "sense": 2, "send": 3, "if": 3, "loop": 1, "end": 0}
	for word, count := range counts {
		for n := range 30 {
			line := word + strings.Repeat(" 1", n)
			if _, ok := impl.ParseStmt(line); ok != (n == count) {
				t.Errorf("ParseStmt(%q) is a statement: %v", line, ok)
			}
			if n != count {
				checkNoStmt(t, line)
			}
		}
	}
	for _, s := range plainStmts() {
		text := impl.FormatStmt(s)
		for _, more := range []string{" 0", " x", " end", " " + text, " -1"} {
			checkNoStmt(t, text+more)
		}
		checkNoStmt(t, "1 "+text)
	}
}

// Texts that some reader of numbers accepts, but that FormatInt never returns.
func TestParseStmtOfOtherNumbers(t *testing.T) {
	numbers := []string{"01", "001", "00", "+1", "+0", "-0", "-00", "-01", "--1", "+-1", "1.0", "1e0", "0x1", "0b1", "0o1", "1_0", "1,", "one", "-", "+", "x", "1x", "x1", "'1'", "1-", "18446744073709551617", "9223372036854775808", "-9223372036854775809", strings.Repeat("0", 40) + "1", strings.Repeat("1", 60)}
	for _, n := range numbers {
		for _, line := range []string{
			"set # 1 1 1", "set 1 # 1 1", "set 1 1 # 1", "set 1 1 1 #", "sense # 1", "sense 1 #",
			"send # 1 1", "send 1 # 1", "send 1 1 #", "if # 1 1", "if 1 # 1", "if 1 1 #", "loop #", "end #", "#", "# 1",
		} {
			checkNoStmt(t, strings.ReplaceAll(line, "#", n))
		}
	}
}

// Each place of each kind with each of many numbers: what can be parsed is what StmtOk accepts.
func TestParseStmtOfEachNumber(t *testing.T) {
	numbers := []int{-10, -9, -8, -7, -1, 0, 1, 2, 3, 4, 5, 6, 7, 8, 9, 99, 998, 999, 1000, 1001}
	for _, n := range append(numbers, farNumbers()...) {
		for _, s := range []impl.Stmt{
			{Kind: 1, Var: n, E: impl.Expr{Op: 1, A: 1, B: 1}}, {Kind: 1, Var: 1, E: impl.Expr{Op: n, A: 1, B: 1}},
			{Kind: 1, Var: 1, E: impl.Expr{Op: 1, A: n, B: 1}}, {Kind: 1, Var: 1, E: impl.Expr{Op: 1, A: 1, B: n}},
			{Kind: 2, Var: n, N: 1}, {Kind: 2, Var: 1, N: n},
			{Kind: 3, E: impl.Expr{Op: n, A: 1, B: 1}}, {Kind: 3, E: impl.Expr{Op: 1, A: n, B: 1}}, {Kind: 3, E: impl.Expr{Op: 1, A: 1, B: n}},
			{Kind: 4, E: impl.Expr{Op: n, A: 1, B: 1}}, {Kind: 4, E: impl.Expr{Op: 1, A: n, B: 1}}, {Kind: 4, E: impl.Expr{Op: 1, A: 1, B: n}},
			{Kind: 5, N: n},
		} {
			if wantedStmtOk(s) {
				checkParseStmt(t, wantedText(s), s)
			} else {
				checkNoStmt(t, wantedText(s))
			}
		}
	}
}

func TestParseStmtOfInvalidStatements(t *testing.T) {
	for _, s := range stmtsWithWrongFields() {
		checkNoStmt(t, wantedText(s))
	}
}
