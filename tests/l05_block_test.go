package tests

import (
	"slices"
	"strings"
	"testing"

	"loop.example/g00983/impl"
)

// stmtOf reads one sign: s sets, r reads a sensor, x sends, ? is a condition, a digit is a loop of that many times, and a dot is an end.
func stmtOf(sign rune) impl.Stmt {
	e := impl.Expr{Op: impl.OpSub, A: -3, B: 40}
	switch sign {
	case 's':
		return impl.Stmt{Kind: impl.StSet, Var: 2, E: e}
	case 'r':
		return impl.Stmt{Kind: impl.StSense, Var: 7, N: 1}
	case 'x':
		return impl.Stmt{Kind: impl.StSend, E: e}
	case '?':
		return impl.Stmt{Kind: impl.StIf, E: e}
	case '.':
		return impl.Stmt{Kind: impl.StEnd}
	}
	return impl.Stmt{Kind: impl.StLoop, N: int(sign - '0')}
}

func blockOf(signs string) []impl.Stmt {
	list := []impl.Stmt{}
	for _, sign := range signs {
		list = append(list, stmtOf(sign))
	}
	return list
}

// badSigns are lists of valid statements that are no blocks.
func badSigns() []string {
	return []string{
		"?", "3", "s?", "3r", "?s", "1rx", "??.", "23.", "?3.s", "3?.", "???..", "125..", "?.3", "s?.?", "2x.2", "3?x.s", "?s.?s.?s",
		".", "s.", ".s", "..", "?..", "3..", "s?r.x.", "2?..s.", "?.3..", "123....", "srx.", "2s.?x..",
		".?", ".3", "s.?", "s.3x", "?..?", "3..1", ".?.3", "..??", ".3.2.1", "?r..?x", ".?.",
		"????....", "1234....", "?2?2s....", "s????s....", "?3?x..?3?1....", "333?....s", "2s.????....", "?2?.3?....",
	}
}

// partners finds for each statement its StEnd, or the StIf or StLoop that it ends, or -1 if it is neither; by the text of the document.
func partners(list []impl.Stmt) ([]int, bool) {
	found, open := make([]int, len(list)), []int{}
	for i, s := range list {
		found[i] = -1
		switch {
		case !wantedStmtOk(s):
			return nil, false
		case s.Kind == 4 || s.Kind == 5:
			open = append(open, i)
		case s.Kind == 6 && len(open) == 0:
			return nil, false
		case s.Kind == 6:
			last := open[len(open)-1]
			found[i], found[last], open = last, i, open[:len(open)-1]
		}
		if len(open) > 3 {
			return nil, false
		}
	}
	return found, len(open) == 0 && len(list) <= 24
}

// executed runs a block one statement after the other, with each condition taken, and counts the statements of the kinds 1 to 3.
func executed(list []impl.Stmt, partner []int) int {
	count, left := 0, make([]int, len(list))
	for at := 0; at < len(list); at++ {
		switch list[at].Kind {
		case 1, 2, 3:
			count++
		case 5:
			left[at] = list[at].N
		case 6:
			if start := partner[at]; list[start].Kind == 5 {
				left[start]--
				if left[start] > 0 {
					at = start
				}
			}
		}
	}
	return count
}

func checkBlock(t *testing.T, list []impl.Stmt) {
	t.Helper()
	partner, ok := partners(list)
	if !ok {
		checkNoBlock(t, list)
		return
	}
	if !impl.BlockOk(list) {
		t.Errorf("BlockOk(%v) = false", list)
	}
	if got, want := impl.LongestRun(list), executed(list, partner); got != want {
		t.Errorf("LongestRun(%v) = %d; want %d", list, got, want)
	}
	for i, s := range list {
		end := partner[i]
		if s.Kind == impl.StEnd {
			end = -1
		}
		depth := 0
		for j := range i {
			if partner[j] >= i {
				depth++
			}
		}
		checkPlace(t, list, i, end, depth)
	}
	for _, i := range indexesOutside(list) {
		checkPlace(t, list, i, -1, -1)
	}
}

func checkPlace(t *testing.T, list []impl.Stmt, i, end, depth int) {
	t.Helper()
	if got := impl.EndOf(list, i); got != end {
		t.Errorf("EndOf(%v, %d) = %d; want %d", list, i, got, end)
	}
	if got := impl.DepthOf(list, i); got != depth {
		t.Errorf("DepthOf(%v, %d) = %d; want %d", list, i, got, depth)
	}
}

func indexesOutside(list []impl.Stmt) []int {
	n := len(list)
	return append([]int{-1, -2, -n - 1, n, n + 1, 2 * n, n + 24, 1000, -1000}, farNumbers()...)
}

func checkNoBlock(t *testing.T, list []impl.Stmt) {
	t.Helper()
	if impl.BlockOk(list) {
		t.Errorf("BlockOk(%v) = true", list)
	}
	if got := impl.LongestRun(list); got != -1 {
		t.Errorf("LongestRun(%v) = %d; want -1", list, got)
	}
	for i := range min(len(list), 60) {
		checkPlace(t, list, i, -1, -1)
	}
	for _, i := range indexesOutside(list) {
		checkPlace(t, list, i, -1, -1)
	}
}

func TestBlockConstants(t *testing.T) {
	if impl.MaxStmts != 24 || impl.MaxDepth != 3 {
		t.Error("a constant of chapter 5 differs from the document:", impl.MaxStmts, impl.MaxDepth)
	}
}

func TestBlocks(t *testing.T) {
	no := -1
	for _, c := range []struct {
		signs        string
		ends, depths []int
		run          int
	}{
		{"s", []int{no}, []int{0}, 1},
		{"srx", []int{no, no, no}, []int{0, 0, 0}, 3},
		{"?s.", []int{2, no, no}, []int{0, 1, 1}, 1},
		{"3x.", []int{2, no, no}, []int{0, 1, 1}, 3},
		{"s?r.x", []int{no, 3, no, no, no}, []int{0, 0, 1, 1, 0}, 3},
		{"2r?x..", []int{5, no, 4, no, no, no}, []int{0, 1, 1, 2, 2, 1}, 4},
		{"?4sx.r.", []int{6, 4, no, no, no, no, no}, []int{0, 1, 2, 2, 2, 1, 1}, 9},
		{"?s.?rx.x", []int{2, no, no, 6, no, no, no, no}, []int{0, 1, 1, 0, 1, 1, 1, 0}, 4},
		{"2s.3r.?x.", []int{2, no, no, 5, no, no, 8, no, no}, []int{0, 1, 1, 0, 1, 1, 0, 1, 1}, 6},
		{"2?s.3x..r", []int{7, 3, no, no, 6, no, no, no, no}, []int{0, 1, 2, 2, 1, 2, 2, 1, 0}, 9},
		{"s2r3?x.s.r.x", []int{no, 10, no, 8, 6, no, no, no, no, no, no, no}, []int{0, 0, 1, 1, 2, 3, 3, 2, 2, 1, 1, 0}, 18},
		{"?3?s...5x.", []int{6, 5, 4, no, no, no, no, 9, no, no}, []int{0, 1, 2, 3, 3, 2, 1, 0, 1, 1}, 8},
	} {
		list := blockOf(c.signs)
		if !impl.BlockOk(list) || impl.LongestRun(list) != c.run {
			t.Errorf("%s: BlockOk = %v, LongestRun = %d; want true and %d", c.signs, impl.BlockOk(list), impl.LongestRun(list), c.run)
		}
		for i := range list {
			checkPlace(t, list, i, c.ends[i], c.depths[i])
		}
		checkBlock(t, list)
	}
}

func TestEmptyBlock(t *testing.T) {
	for _, list := range [][]impl.Stmt{nil, {}, blockOf("s")[:0], blockOf("?s.")[3:]} {
		if !impl.BlockOk(list) || impl.LongestRun(list) != 0 {
			t.Errorf("empty block: BlockOk = %v, LongestRun = %d; want true and 0", impl.BlockOk(list), impl.LongestRun(list))
		}
		checkPlace(t, list, 0, -1, -1)
		for _, i := range indexesOutside(list) {
			checkPlace(t, list, i, -1, -1)
		}
	}
}

func TestBlocksOfMaxStmts(t *testing.T) {
	for _, c := range []struct {
		signs string
		run   int
	}{
		{strings.Repeat("s", 24), 24}, {strings.Repeat("srx", 8), 24}, {strings.Repeat("?.", 12), 0}, {strings.Repeat("5.", 12), 0},
		{strings.Repeat("3s.", 8), 24}, {"5" + strings.Repeat("x", 22) + ".", 110}, {strings.Repeat("?5r..x", 4), 24}, {strings.Repeat("123...", 4), 0},
	} {
		list := blockOf(c.signs)
		if len(list) != 24 || !impl.BlockOk(list) || impl.LongestRun(list) != c.run {
			t.Errorf("%s: BlockOk = %v, LongestRun = %d; want true and %d", c.signs, impl.BlockOk(list), impl.LongestRun(list), c.run)
		}
		checkBlock(t, list)
		checkBlock(t, list[:len(list):len(list)])
		for _, sign := range "srx" {
			checkNoBlock(t, append(blockOf(c.signs), stmtOf(sign)))
			checkNoBlock(t, append([]impl.Stmt{stmtOf(sign)}, list...))
		}
	}
}

func TestBlocksOfMoreThanMaxStmts(t *testing.T) {
	for _, n := range []int{25, 26, 27, 47, 48, 49, 100, 280, 20000} {
		checkNoBlock(t, blockOf(strings.Repeat("s", n)))
		checkNoBlock(t, blockOf("?"+strings.Repeat("r", n-2)+"."))
		checkNoBlock(t, blockOf(strings.Repeat("?.", (n+1)/2)))
	}
}

// Each mixture of conditions and loops around each other, once in the middle of other statements.
func TestBlocksOfEachDepth(t *testing.T) {
	starts := "?125"
	for _, a := range starts {
		checkBlock(t, blockOf(string(a)+"."))
		for _, b := range starts {
			checkBlock(t, blockOf("s"+string(a)+string(b)+".x."))
			for _, c := range starts {
				three := string([]rune{a, b, c})
				for _, signs := range []string{three + "...", three + "s...", "s" + three + "x.r.s.r", three + "s..." + three + "r...", "?.4s." + three + "...x", "?" + three[1:] + ".2s..."} {
					checkBlock(t, blockOf(signs))
				}
				for _, d := range starts {
					four := three + string(d)
					for _, signs := range []string{four + "....", four + "s....", "s" + four + ".r.s.r.x", three + "..." + four + "....", three + ".." + "?" + string(d) + "?x....", four + "....?s."} {
						checkNoBlock(t, blockOf(signs))
					}
				}
			}
		}
	}
}

func TestGreatestDepth(t *testing.T) {
	for _, signs := range []string{"???s...", "555x...", "?2?r...", "2?2s..."} {
		list := blockOf(signs)
		if !impl.BlockOk(list) {
			t.Errorf("%s: BlockOk = false", signs)
		}
		for i, depth := range []int{0, 1, 2, 3, 3, 2, 1} {
			checkPlace(t, list, i, []int{6, 5, 4, -1, -1, -1, -1}[i], depth)
		}
	}
	// One after the other, any number of bodies is as deep as one of them.
	if !impl.BlockOk(blockOf("???...???...???...???...")) || !impl.BlockOk(blockOf("?"+strings.Repeat("2?..", 5)+".xs")) {
		t.Error("bodies one behind the other are refused")
	}
	for n := 4; n <= 12; n++ {
		checkNoBlock(t, blockOf(strings.Repeat("?", n)+strings.Repeat(".", n)))
		checkNoBlock(t, blockOf(strings.Repeat("1", n)+strings.Repeat(".", n)))
	}
}

func TestLongestRunOfLoopsAroundLoops(t *testing.T) {
	for a := 1; a <= 5; a++ {
		for b := 1; b <= 5; b++ {
			for c := 1; c <= 5; c++ {
				list := blockOf(string([]rune{rune('0' + a), rune('0' + b), rune('0' + c)}) + "srx...")
				if got := impl.LongestRun(list); got != 3*a*b*c {
					t.Errorf("%d times %d times %d times: LongestRun = %d", a, b, c, got)
				}
			}
		}
	}
	for _, c := range []struct {
		signs string
		want  int
	}{
		{"555" + strings.Repeat("x", 18) + "...", 2250}, {"5s5r5x...", 5 + 25 + 125}, {"555x.s.r.x", 125 + 25 + 5 + 1},
		{"555s...555r...555x...", 375}, {"5555....", -1}, {"55s.r5x.s.", 25 + 5 + 25 + 5}, {"5?5s...", 25}, {"?5?s...", 5},
	} {
		if got := impl.LongestRun(blockOf(c.signs)); got != c.want {
			t.Errorf("LongestRun of %s = %d; want %d", c.signs, got, c.want)
		}
	}
}

// A condition counts as one that holds, even if it never does; ends, conditions and loops count as nothing.
func TestLongestRunTakesEachCondition(t *testing.T) {
	for _, e := range append(validExprs(), impl.Expr{Op: impl.OpMul}, impl.Expr{Op: impl.OpLess, A: 5, B: 5}) {
		list := []impl.Stmt{{Kind: impl.StIf, E: e}, stmtOf('s'), stmtOf('x'), stmtOf('.'), stmtOf('r')}
		if got := impl.LongestRun(list); got != 3 {
			t.Errorf("LongestRun with the condition %v = %d; want 3", e, got)
		}
	}
}

func TestBodiesWithNothingInThem(t *testing.T) {
	for _, sign := range "?12345" {
		list := blockOf(string(sign) + ".")
		if !impl.BlockOk(list) || impl.LongestRun(list) != 0 {
			t.Errorf("%c with nothing in it: BlockOk = %v, LongestRun = %d", sign, impl.BlockOk(list), impl.LongestRun(list))
		}
		checkPlace(t, list, 0, 1, 0)
		checkPlace(t, list, 1, -1, 1)
		for _, signs := range []string{"s#.x", "#.#.", "3#..", "?#.#..", "23#...", "?5#.s..", "#.r", "s#."} {
			checkBlock(t, blockOf(strings.ReplaceAll(signs, "#", string(sign))))
		}
	}
}

func TestFirstAndLastIndex(t *testing.T) {
	for _, c := range []struct {
		signs                           string
		firstEnd, firstDepth, lastDepth int
	}{
		{"s", -1, 0, 0}, {"x", -1, 0, 0}, {"?s.", 2, 0, 1}, {"4s.", 2, 0, 1}, {"s?.", -1, 0, 1}, {"?.s", 1, 0, 0}, {"?2x..", 4, 0, 1}, {"?.3s.", 1, 0, 1},
		{"?" + strings.Repeat("s", 22) + ".", 23, 0, 1}, {strings.Repeat("s", 24), -1, 0, 0}, {strings.Repeat("?.", 12), 1, 0, 1},
	} {
		list := blockOf(c.signs)
		checkPlace(t, list, 0, c.firstEnd, c.firstDepth)
		checkPlace(t, list, len(list)-1, -1, c.lastDepth)
		checkPlace(t, list, -1, -1, -1)
		checkPlace(t, list, len(list), -1, -1)
	}
}

func TestListsThatAreNoBlocks(t *testing.T) {
	for _, signs := range badSigns() {
		checkNoBlock(t, blockOf(signs))
	}
}

func TestBlocksWithOneInvalidStatement(t *testing.T) {
	for _, signs := range []string{"s", "?s.", "2r?x..", "s2r3?x.s.r.x"} {
		for _, bad := range invalidStmts() {
			for i, s := range blockOf(signs) {
				// In place of a statement of its own kind, the list has the shape of a block; elsewhere it may have none.
				if bad.Kind == s.Kind || s.Kind <= impl.StSend {
					list := blockOf(signs)
					list[i] = bad
					checkNoBlock(t, list)
				}
			}
		}
	}
	for i := range 24 {
		list := blockOf(strings.Repeat("s", 24))
		list[i] = impl.Stmt{}
		checkNoBlock(t, list)
	}
}

func TestEndOfOtherStatements(t *testing.T) {
	list := blockOf("s2r?x.s.")
	for i, s := range list {
		if got := impl.EndOf(list, i); (got != -1) != (s.Kind == impl.StIf || s.Kind == impl.StLoop) {
			t.Errorf("EndOf(%v, %d) = %d", list, i, got)
		}
	}
}

// All short lists of these signs, with and without the shape of a block.
func TestAllShortLists(t *testing.T) {
	signs, lists := "s?3.", []string{""}
	for range 8 {
		longer := []string{}
		for _, l := range lists {
			for _, sign := range signs {
				longer = append(longer, l+string(sign))
			}
		}
		for _, l := range longer {
			list := blockOf(l)
			if _, ok := partners(list); ok || len(l) < 6 {
				checkBlock(t, list)
			} else if impl.BlockOk(list) {
				t.Errorf("%s: BlockOk = true", l)
			}
		}
		lists = longer
	}
}

// chooser returns a function that chooses numbers from 0 to n-1, the same ones for the same seed.
func chooser(seed uint32) func(n int) int {
	return func(n int) int {
		seed = seed*1664525 + 1013904223
		return int(seed>>16) % n
	}
}

// longBlocks has many valid blocks of up to MaxStmts statements; the numbers that choose them follow a fixed rule.
func longBlocks() [][]impl.Stmt {
	blocks, next := [][]impl.Stmt{}, chooser(7)
	for range 3000 {
		signs, open, size := "", 0, 1+next(24)
		for len(signs)+open < size {
			sign := "srx?12345..."[next(12)]
			switch {
			case sign == '.' && open > 0:
				open--
			case sign == '.':
				sign = 'x'
			case strings.IndexByte("srx", sign) < 0 && (open == 3 || len(signs)+open+2 > size):
				sign = 's'
			case strings.IndexByte("srx", sign) < 0:
				open++
			}
			signs += string(sign)
		}
		blocks = append(blocks, blockOf(signs+strings.Repeat(".", open)))
	}
	return blocks
}

func TestLongBlocks(t *testing.T) {
	longest, deepest := 0, 0
	for _, list := range longBlocks() {
		checkBlock(t, list)
		longest = max(longest, len(list))
		for i := range list {
			deepest = max(deepest, impl.DepthOf(list, i))
		}
	}
	if longest != 24 || deepest != 3 {
		t.Errorf("the blocks of this test have at most %d statements and the depth %d", longest, deepest)
	}
}

func TestLongBlocksWithOneChange(t *testing.T) {
	for k, list := range longBlocks()[:600] {
		i := k % len(list)
		checkBlock(t, slices.Delete(slices.Clone(list), i, i+1))
		for _, sign := range "s?3." {
			changed := slices.Clone(list)
			changed[i] = stmtOf(sign)
			checkBlock(t, changed)
			checkBlock(t, slices.Insert(slices.Clone(list), i, stmtOf(sign)))
		}
	}
}

// Promise 5: no two statements have the same end, each end is one of them, and what lies between is a block itself.
func TestEachLoopAndConditionHasItsOwnEnd(t *testing.T) {
	for _, list := range longBlocks() {
		owner := map[int]int{}
		for i, s := range list {
			end := impl.EndOf(list, i)
			if s.Kind != impl.StIf && s.Kind != impl.StLoop {
				continue
			}
			if end <= i || end >= len(list) || list[end].Kind != impl.StEnd {
				t.Fatalf("EndOf(%v, %d) = %d", list, i, end)
			}
			if other, ok := owner[end]; ok {
				t.Errorf("%v: %d and %d have the same end %d", list, other, i, end)
			}
			owner[end] = i
			if !impl.BlockOk(list[i+1:end]) || impl.DepthOf(list, end) != impl.DepthOf(list, i)+1 {
				t.Errorf("%v: %d and %d do not enclose a block", list, i, end)
			}
		}
		for i, s := range list {
			if _, ok := owner[i]; ok != (s.Kind == impl.StEnd) {
				t.Errorf("%v: the statement %d ends something: %v", list, i, ok)
			}
		}
	}
}

func TestBlocksAreNotChanged(t *testing.T) {
	for _, signs := range append(badSigns(), "", "s", "?s.", "2r?x..", "s2r3?x.s.r.x", strings.Repeat("?.", 12), strings.Repeat("s", 24), strings.Repeat("s", 25)) {
		for _, behind := range []string{"", "...", "s?3", "????????", strings.Repeat("s", 30)} {
			whole := blockOf(signs + behind)
			list := whole[:len(signs)]
			checkBlock(t, list)
			if !slices.Equal(whole, blockOf(signs+behind)) {
				t.Errorf("%s with %s behind it was changed to %v", signs, behind, whole)
			}
		}
	}
}
