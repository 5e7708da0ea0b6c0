package tests

import (
	"math"
	"slices"
	"testing"

	"loop.example/g00983/impl"
)

const (
	leastOperand    = -8
	greatestOperand = 999
	leastOp         = 1
	greatestOp      = 7
)

// distinctVars has another value in each variable, so that no variable can be taken for another one.
func distinctVars() []int { return []int{5, -2, 0, 1000000, -1000000, 999, 31, 9} }

// invalidVars are all the ways in which variables can be wrong, with values in them that are not 0.
func invalidVars() [][]int {
	list := [][]int{
		nil, {}, {5}, distinctVars()[:7], distinctVars()[1:], append(distinctVars(), 1), append(distinctVars(), distinctVars()...),
	}
	for k := range 8 {
		for _, n := range []int{1000001, -1000001, 2000000, 1 << 32, math.MaxInt, math.MinInt} {
			vars := distinctVars()
			vars[k] = n
			list = append(list, vars)
		}
	}
	return list
}

func invalidOperands() []int {
	return []int{-9, 1000, -10, 1001, -100, 1000000, -1000000, 1<<32 - 1, 1 << 32, -(1 << 32), math.MaxInt - 1, math.MaxInt, math.MinInt + 1, math.MinInt}
}

func invalidOps() []int {
	return []int{0, 8, -1, 9, 16, -7, 1<<32 + 1, math.MaxInt - 1, math.MaxInt, math.MinInt + 1, math.MinInt}
}

func invalidExprs() []impl.Expr {
	list := []impl.Expr{}
	for _, op := range invalidOps() {
		list = append(list, impl.Expr{Op: op, A: 2, B: 3}, impl.Expr{Op: op, A: -1, B: -8}, impl.Expr{Op: op, A: 1, B: 1})
	}
	for op := leastOp; op <= greatestOp; op++ {
		for _, n := range invalidOperands() {
			list = append(list, impl.Expr{Op: op, A: n, B: 3}, impl.Expr{Op: op, A: 3, B: n}, impl.Expr{Op: op, A: n, B: n})
			list = append(list, impl.Expr{Op: op, A: n, B: -1}, impl.Expr{Op: op, A: -1, B: n})
		}
	}
	return append(list, impl.Expr{}, impl.Expr{A: -8, B: 999})
}

// someOperands are both bounds, all variables, and constants at which an operation could go wrong.
func someOperands() []int {
	return []int{-8, -7, -6, -5, -4, -3, -2, -1, 0, 1, 2, 7, 8, 9, 31, 500, 998, 999}
}

func validExprs() []impl.Expr {
	list := []impl.Expr{}
	for op := leastOp; op <= greatestOp; op++ {
		for _, a := range someOperands() {
			for _, b := range someOperands() {
				list = append(list, impl.Expr{Op: op, A: a, B: b})
			}
		}
	}
	return list
}

func checkEval(t *testing.T, vars []int, e impl.Expr, want int) {
	t.Helper()
	if got := impl.EvalExpr(vars, e); got != want {
		t.Errorf("EvalExpr(%v, %v) = %d; want %d", vars, e, got, want)
	}
}

func checkReads(t *testing.T, e impl.Expr, want []int) {
	t.Helper()
	if got := impl.ReadsOf(e); !slices.Equal(got, want) {
		t.Errorf("ReadsOf(%v) = %v; want %v", e, got, want)
	}
}

// wantedOperand reads an operand as the document encodes it; the operand is valid.
func wantedOperand(vars []int, n int) int {
	for k := range 8 {
		if n == -1-k {
			return vars[k]
		}
	}
	return n
}

// wantedValue computes with 64 bits, which no two values can exceed.
func wantedValue(op int, a int, b int) int {
	wanted := 0
	switch op {
	case 1:
		wanted = a + b
	case 2:
		wanted = a - b
	case 3:
		wanted = a * b
	case 4:
		wanted = b
		if a < b {
			wanted = a
		}
	case 5:
		wanted = b
		if a > b {
			wanted = a
		}
	case 6:
		if a < b {
			wanted = 1
		}
	case 7:
		if a == b {
			wanted = 1
		}
	}
	if wanted > 1000000 {
		return 1000000
	}
	if wanted < -1000000 {
		return -1000000
	}
	return wanted
}

// wantedReads visits the variables in ascending order, so that it need not sort.
func wantedReads(e impl.Expr) []int {
	reads := []int{}
	for k := range 8 {
		if e.A == -1-k || e.B == -1-k {
			reads = append(reads, k)
		}
	}
	return reads
}

func TestExprConstants(t *testing.T) {
	got := []int{impl.MaxVars, impl.OpAdd, impl.OpSub, impl.OpMul, impl.OpMin, impl.OpMax, impl.OpLess, impl.OpSame}
	if !slices.Equal(got, []int{8, 1, 2, 3, 4, 5, 6, 7}) {
		t.Error("a constant of chapter 3 differs from the document:", got)
	}
}

func TestOperandOk(t *testing.T) {
	for n := -3000; n <= 3000; n++ {
		if want := leastOperand <= n && n <= greatestOperand; impl.OperandOk(n) != want {
			t.Errorf("OperandOk(%d) = %v", n, !want)
		}
	}
	for _, n := range invalidOperands() {
		if impl.OperandOk(n) {
			t.Errorf("OperandOk(%d) = true", n)
		}
	}
}

func TestExprOk(t *testing.T) {
	for _, e := range validExprs() {
		if !impl.ExprOk(e) {
			t.Errorf("ExprOk(%v) = false", e)
		}
	}
	for _, e := range invalidExprs() {
		if impl.ExprOk(e) {
			t.Errorf("ExprOk(%v) = true", e)
		}
	}
}

// Each operand at each bound and one outside, beside a valid one, so that neither is checked alone.
func TestExprOkChecksBothOperandsTheSame(t *testing.T) {
	for op := leastOp - 1; op <= greatestOp+1; op++ {
		for _, a := range []int{-9, -8, -1, 0, 999, 1000} {
			for _, b := range []int{-9, -8, -1, 0, 999, 1000} {
				e := impl.Expr{Op: op, A: a, B: b}
				want := op >= leastOp && op <= greatestOp && a != -9 && a != 1000 && b != -9 && b != 1000
				if impl.ExprOk(e) != want {
					t.Errorf("ExprOk(%v) = %v", e, !want)
				}
			}
		}
	}
}

func TestVarsOk(t *testing.T) {
	for _, vars := range [][]int{
		distinctVars(), make([]int, 8), slices.Repeat([]int{1000000}, 8), slices.Repeat([]int{-1000000}, 8),
	} {
		if !impl.VarsOk(vars) {
			t.Errorf("VarsOk(%v) = false", vars)
		}
	}
	for _, vars := range invalidVars() {
		if impl.VarsOk(vars) {
			t.Errorf("VarsOk(%v) = true", vars)
		}
	}
}

func TestVarsOkChecksEachElement(t *testing.T) {
	for k := range 8 {
		for _, n := range []int{1000000, -1000000, 999999, -999999} {
			vars := distinctVars()
			vars[k] = n
			if !impl.VarsOk(vars) {
				t.Errorf("VarsOk(%v) = false", vars)
			}
		}
	}
}

// What lies behind the end of a slice does not count as variables.
func TestVarsOkIgnoresSpareCapacity(t *testing.T) {
	room := append(distinctVars(), 2000000)
	if !impl.VarsOk(room[:8]) {
		t.Error("VarsOk refuses 8 values before something else")
	}
	if impl.VarsOk(room[:7]) || impl.VarsOk(room[1:8]) {
		t.Error("VarsOk accepts 7 values before something else")
	}
}

func TestOperandValue(t *testing.T) {
	vars := distinctVars()
	for n := leastOperand; n <= greatestOperand; n++ {
		if got, want := impl.OperandValue(vars, n), wantedOperand(vars, n); got != want {
			t.Errorf("OperandValue(%v, %d) = %d; want %d", vars, n, got, want)
		}
	}
	if impl.OperandValue(vars, -1) != 5 || impl.OperandValue(vars, -8) != 9 || impl.OperandValue(vars, 0) != 0 || impl.OperandValue(vars, 999) != 999 {
		t.Error("an operand at the bound has another value")
	}
}

func TestOperandValueOfInvalidArguments(t *testing.T) {
	for _, n := range invalidOperands() {
		if got := impl.OperandValue(distinctVars(), n); got != 0 {
			t.Errorf("OperandValue(.., %d) = %d; want 0", n, got)
		}
	}
	for _, vars := range invalidVars() {
		// Constants too: the variables are checked even where they are not read.
		for _, n := range []int{-8, -7, -1, 1, 7, 999, -9, 1000, math.MinInt, math.MaxInt} {
			if got := impl.OperandValue(vars, n); got != 0 {
				t.Errorf("OperandValue(%v, %d) = %d; want 0", vars, n, got)
			}
		}
	}
}

func TestEvalExpr(t *testing.T) {
	v := []int{5, -2, 0, 7, -7, 5, 1000, 9}
	for _, c := range []struct{ op, a, b, want int }{
		{impl.OpAdd, 2, 3, 5}, {impl.OpAdd, -1, -2, 3}, {impl.OpAdd, -2, 3, 1}, {impl.OpAdd, 3, -2, 1}, {impl.OpAdd, -5, -4, 0}, {impl.OpAdd, 999, 999, 1998},
		{impl.OpSub, 2, 3, -1}, {impl.OpSub, 3, 2, 1}, {impl.OpSub, -1, -2, 7}, {impl.OpSub, -2, -1, -7}, {impl.OpSub, 0, 999, -999}, {impl.OpSub, -8, 9, 0},
		{impl.OpMul, 2, 3, 6}, {impl.OpMul, -1, -2, -10}, {impl.OpMul, -2, -5, 14}, {impl.OpMul, -3, 999, 0}, {impl.OpMul, 999, 999, 998001}, {impl.OpMul, 1, -5, -7},
		{impl.OpMin, 2, 3, 2}, {impl.OpMin, 3, 2, 2}, {impl.OpMin, -1, -2, -2}, {impl.OpMin, -2, -1, -2}, {impl.OpMin, -5, -2, -7}, {impl.OpMin, -1, 5, 5},
		{impl.OpMax, 2, 3, 3}, {impl.OpMax, 3, 2, 3}, {impl.OpMax, -1, -2, 5}, {impl.OpMax, -2, -1, 5}, {impl.OpMax, -5, -2, -2}, {impl.OpMax, -1, 5, 5},
		{impl.OpLess, 2, 3, 1}, {impl.OpLess, 3, 2, 0}, {impl.OpLess, 3, 3, 0}, {impl.OpLess, -2, 0, 1}, {impl.OpLess, 0, -2, 0}, {impl.OpLess, -5, -2, 1}, {impl.OpLess, -1, -6, 0},
		{impl.OpSame, 3, 3, 1}, {impl.OpSame, 2, 3, 0}, {impl.OpSame, 3, 2, 0}, {impl.OpSame, -8, 9, 1}, {impl.OpSame, 9, -8, 1}, {impl.OpSame, -1, -6, 1}, {impl.OpSame, -4, -5, 0},
	} {
		checkEval(t, v, impl.Expr{Op: c.op, A: c.a, B: c.b}, c.want)
	}
}

// The operands are the numbers of variables, not their values: equal variables are still read one by one.
func TestEvalExprOfOneVariableTwice(t *testing.T) {
	v := distinctVars()
	for k, x := range v {
		same := func(op int) impl.Expr { return impl.Expr{Op: op, A: -1 - k, B: -1 - k} }
		checkEval(t, v, same(impl.OpAdd), impl.AddValues(x, x))
		checkEval(t, v, same(impl.OpSub), 0)
		checkEval(t, v, same(impl.OpMul), impl.MulValues(x, x))
		checkEval(t, v, same(impl.OpMin), x)
		checkEval(t, v, same(impl.OpMax), x)
		checkEval(t, v, same(impl.OpLess), 0)
		checkEval(t, v, same(impl.OpSame), 1)
	}
}

func TestEvalExprStaysInTheRange(t *testing.T) {
	v := []int{1000000, -1000000, 999999, -999999, 1001, -1001, 1000, 1}
	for _, c := range []struct{ op, a, b, want int }{
		{impl.OpAdd, -1, 1, 1000000}, {impl.OpAdd, -1, -1, 1000000}, {impl.OpAdd, -3, 1, 1000000}, {impl.OpAdd, -3, 2, 1000000}, {impl.OpAdd, -2, -2, -1000000}, {impl.OpAdd, -2, -4, -1000000}, {impl.OpAdd, -1, -2, 0},
		{impl.OpSub, -2, 1, -1000000}, {impl.OpSub, -4, 1, -1000000}, {impl.OpSub, -4, 2, -1000000}, {impl.OpSub, -1, -2, 1000000}, {impl.OpSub, -2, -1, -1000000}, {impl.OpSub, 1, -2, 1000000},
		{impl.OpMul, -5, -7, 1000000}, {impl.OpMul, -6, -7, -1000000}, {impl.OpMul, -5, 999, 999999}, {impl.OpMul, -6, -6, 1000000}, {impl.OpMul, -1, -1, 1000000}, {impl.OpMul, -1, -2, -1000000}, {impl.OpMul, -7, -7, 1000000},
		{impl.OpMin, -1, -2, -1000000}, {impl.OpMax, -1, -2, 1000000}, {impl.OpLess, -2, -1, 1}, {impl.OpLess, -1, -2, 0}, {impl.OpSame, -1, -2, 0}, {impl.OpSame, -1, -1, 1},
	} {
		checkEval(t, v, impl.Expr{Op: c.op, A: c.a, B: c.b}, c.want)
	}
}

func TestEvalExprOfInvalidArguments(t *testing.T) {
	for _, e := range invalidExprs() {
		checkEval(t, distinctVars(), e, 0)
	}
	for _, vars := range invalidVars() {
		for op := leastOp; op <= greatestOp; op++ {
			// Without the check, each operation would give some of these another value than 0.
			for _, e := range []impl.Expr{{Op: op, A: 2, B: 3}, {Op: op, A: 3, B: 3}, {Op: op, A: 3, B: 2}, {Op: op, A: -1, B: 9}, {Op: op, A: 5, B: -8}, {Op: op, A: -2, B: -2}} {
				checkEval(t, vars, e, 0)
			}
		}
		checkEval(t, vars, impl.Expr{}, 0)
	}
}

// Every pair of the operands and every operation, against the document read a second time.
func TestEvalExprOfAllOperations(t *testing.T) {
	lists := [][]int{
		distinctVars(), make([]int, 8),
		{1000000, 999999, 1000, 1001, 500000, 500001, 1, 2},
		{-1000000, -999999, -1000, -1001, -500000, -500001, -1, -2},
		{999, 998, 500, 31, 9, 8, 7, 2},
	}
	for _, vars := range lists {
		for _, e := range validExprs() {
			want := wantedValue(e.Op, wantedOperand(vars, e.A), wantedOperand(vars, e.B))
			checkEval(t, vars, e, want)
			if !impl.IsValue(impl.EvalExpr(vars, e)) {
				t.Errorf("EvalExpr(%v, %v) is not a value", vars, e)
			}
		}
	}
}

// Promise 3: whatever the other variables contain, the value is the same.
func TestValueDependsOnOperandsAlone(t *testing.T) {
	for _, e := range validExprs() {
		vars := distinctVars()
		want := impl.EvalExpr(vars, e)
		for _, other := range []int{0, 1, -1, 999, 1000000, -1000000} {
			changed := slices.Repeat([]int{other}, 8)
			for _, k := range impl.ReadsOf(e) {
				changed[k] = vars[k]
			}
			checkEval(t, changed, e, want)
		}
	}
}

// Promise 3 from the other side: the numbers of the variables do not matter, only what they contain.
func TestValueDependsOnOperandValues(t *testing.T) {
	vars := []int{5, 5, 31, 31, 999, 999, 0, 0}
	for op := leastOp; op <= greatestOp; op++ {
		for i, a := range vars {
			for j, b := range vars {
				want := impl.EvalExpr(make([]int, 8), impl.Expr{Op: op, A: a, B: b})
				checkEval(t, vars, impl.Expr{Op: op, A: -1 - i, B: -1 - j}, want)
				checkEval(t, vars, impl.Expr{Op: op, A: a, B: -1 - j}, want)
				checkEval(t, vars, impl.Expr{Op: op, A: -1 - i, B: b}, want)
			}
		}
	}
}

// A variable that ReadsOf tells can change the value, so that it tells no more than the operands.
func TestReadVariablesMatter(t *testing.T) {
	for _, e := range validExprs() {
		if e.Op != impl.OpAdd {
			continue
		}
		for _, k := range impl.ReadsOf(e) {
			vars := make([]int, 8)
			before := impl.EvalExpr(vars, e)
			vars[k] = 1
			if impl.EvalExpr(vars, e) == before {
				t.Errorf("the variable %d does not change %v", k, e)
			}
		}
	}
}

func TestReadsOf(t *testing.T) {
	for op := leastOp; op <= greatestOp; op++ {
		for _, c := range []struct {
			a, b int
			want []int
		}{
			{2, 3, nil}, {0, 0, nil}, {999, 999, nil}, {0, 7, nil},
			{-1, 3, []int{0}}, {3, -1, []int{0}}, {-8, 999, []int{7}}, {999, -8, []int{7}}, {-4, 0, []int{3}}, {0, -4, []int{3}},
			{-1, -8, []int{0, 7}}, {-8, -1, []int{0, 7}}, {-3, -2, []int{1, 2}}, {-2, -3, []int{1, 2}},
			{-1, -1, []int{0}}, {-8, -8, []int{7}}, {-5, -5, []int{4}},
		} {
			checkReads(t, impl.Expr{Op: op, A: c.a, B: c.b}, c.want)
		}
	}
}

func TestReadsOfAllOperands(t *testing.T) {
	for _, e := range validExprs() {
		checkReads(t, e, wantedReads(e))
	}
}

func TestReadsOfInvalidExpressions(t *testing.T) {
	for _, e := range invalidExprs() {
		if got := impl.ReadsOf(e); len(got) != 0 {
			t.Errorf("ReadsOf(%v) = %v; want none", e, got)
		}
	}
}

func TestReadsOfIsNewMemory(t *testing.T) {
	e := impl.Expr{Op: impl.OpAdd, A: -8, B: -1}
	first := impl.ReadsOf(e)
	for i := range first {
		first[i] = 42
	}
	checkReads(t, e, []int{0, 7})
}

func TestExprArgumentsAreNotChanged(t *testing.T) {
	room := append(distinctVars(), 77, 78)
	before := slices.Clone(room)
	for _, e := range append(validExprs(), invalidExprs()...) {
		impl.EvalExpr(room[:8], e)
		impl.OperandValue(room[:8], e.A)
		impl.VarsOk(room[:8])
	}
	if !slices.Equal(room, before) {
		t.Errorf("the variables %v became %v", before, room)
	}
}
