package tests

import (
	"math"
	"math/big"
	"testing"

	"loop.example/g00983/impl"
)

// edgeNumbers are the numbers at which a sum, a difference, a product or a bound could go wrong.
func edgeNumbers() []int {
	numbers := []int{0}
	for _, n := range []int{
		1, 2, 3, 7, 10, 999, 1000, 1001, 499999, 500000, 500001, 999998, 999999, 1000000, 1000001, 1000002,
		1999999, 2000000, 2000001, 1000000000000, 1000000000001, 1 << 31, 1<<32 - 1, 1 << 32, 1<<32 + 1, 1 << 62,
		3037000499, 3037000500, math.MaxInt - 1000000, math.MaxInt - 999999, math.MaxInt / 2, math.MaxInt - 1, math.MaxInt,
	} {
		numbers = append(numbers, n, -n)
	}
	return append(numbers, math.MinInt)
}

// bigSaturated computes without a limit, so that it shares no overflow with the program.
func bigSaturated(n *big.Int) *big.Int {
	least, greatest := big.NewInt(-1000000), big.NewInt(1000000)
	if n.Cmp(least) < 0 {
		return least
	}
	if n.Cmp(greatest) > 0 {
		return greatest
	}
	return n
}

type valueOperation struct {
	name  string
	apply func(a int, b int) int
	exact func(a *big.Int, b *big.Int) *big.Int
}

func valueOperations() []valueOperation {
	return []valueOperation{
		{"AddValues", impl.AddValues, func(a *big.Int, b *big.Int) *big.Int { return new(big.Int).Add(a, b) }},
		{"SubValues", impl.SubValues, func(a *big.Int, b *big.Int) *big.Int { return new(big.Int).Sub(a, b) }},
		{"MulValues", impl.MulValues, func(a *big.Int, b *big.Int) *big.Int { return new(big.Int).Mul(a, b) }},
	}
}

type valueCase struct{ a, b, want int }

func checkValues(t *testing.T, name string, apply func(a int, b int) int, cases []valueCase) {
	t.Helper()
	for _, c := range cases {
		if got := apply(c.a, c.b); got != c.want {
			t.Errorf("%s(%d, %d) = %d; want %d", name, c.a, c.b, got, c.want)
		}
	}
}

func TestValueConstants(t *testing.T) {
	if impl.MaxValue != 1000000 {
		t.Error("a constant of chapter 2 differs from the document")
	}
}

func TestSaturate(t *testing.T) {
	for _, c := range []struct{ n, want int }{
		{0, 0}, {1, 1}, {-1, -1}, {42, 42}, {-42, -42},
		{999999, 999999}, {1000000, 1000000}, {1000001, 1000000}, {2000000, 1000000},
		{-999999, -999999}, {-1000000, -1000000}, {-1000001, -1000000}, {-2000000, -1000000},
		{math.MaxInt - 1, 1000000}, {math.MaxInt, 1000000}, {math.MinInt + 1, -1000000}, {math.MinInt, -1000000},
	} {
		if got := impl.Saturate(c.n); got != c.want {
			t.Errorf("Saturate(%d) = %d; want %d", c.n, got, c.want)
		}
	}
}

func TestIsValue(t *testing.T) {
	for _, n := range []int{0, 1, -1, 42, -42, 999999, -999999, 1000000, -1000000} {
		if !impl.IsValue(n) {
			t.Errorf("IsValue(%d) = false", n)
		}
	}
	for _, n := range []int{
		1000001, -1000001, 2000000, -2000000, 1 << 32, -(1 << 32), 1<<32 + 1,
		math.MaxInt, math.MaxInt - 1, math.MinInt, math.MinInt + 1,
	} {
		if impl.IsValue(n) {
			t.Errorf("IsValue(%d) = true", n)
		}
	}
}

func TestAddValues(t *testing.T) {
	checkValues(t, "AddValues", impl.AddValues, []valueCase{
		{0, 0, 0}, {2, 3, 5}, {2, -3, -1}, {-2, 3, 1}, {-2, -3, -5}, {7, 0, 7}, {0, -7, -7},
		{999999, 0, 999999}, {999999, 1, 1000000}, {999999, 2, 1000000}, {999998, 1, 999999}, {500000, 500000, 1000000}, {500000, 500001, 1000000},
		{-999999, 0, -999999}, {-999999, -1, -1000000}, {-999999, -2, -1000000}, {-999998, -1, -999999}, {-500000, -500001, -1000000},
		{1000000, -1000000, 0}, {1000000, 1000000, 1000000}, {-1000000, -1000000, -1000000},
	})
}

func TestSubValues(t *testing.T) {
	checkValues(t, "SubValues", impl.SubValues, []valueCase{
		{0, 0, 0}, {5, 3, 2}, {3, 5, -2}, {3, -5, 8}, {-3, 5, -8}, {-3, -5, 2}, {7, 0, 7}, {0, 7, -7},
		{999999, -1, 1000000}, {999999, -2, 1000000}, {999998, -1, 999999}, {0, -1000000, 1000000},
		{-999999, 1, -1000000}, {-999999, 2, -1000000}, {-999998, 1, -999999}, {0, 1000000, -1000000},
		{1000000, 1000000, 0}, {-1000000, -1000000, 0}, {1000000, -1000000, 1000000}, {-1000000, 1000000, -1000000},
	})
}

func TestMulValues(t *testing.T) {
	checkValues(t, "MulValues", impl.MulValues, []valueCase{
		{0, 0, 0}, {2, 3, 6}, {-7, 3, -21}, {7, -3, -21}, {-7, -3, 21}, {7, 0, 0}, {0, -7, 0}, {1, 7, 7}, {-1, 7, -7},
		{999999, 1, 999999}, {1000, 1000, 1000000}, {1000, 999, 999000}, {1001, 1000, 1000000}, {3, 333333, 999999}, {2, 500001, 1000000},
		{-1000, 1000, -1000000}, {-1001, 1000, -1000000}, {1000, -1001, -1000000}, {-1001, -1000, 1000000}, {-3, 333333, -999999},
		{1000000, 1000000, 1000000}, {-1000000, -1000000, 1000000}, {1000000, -1000000, -1000000}, {1000000, 0, 0}, {-1000000, -1, 1000000},
	})
}

// With the arguments as they are, each of these would have another result.
func TestArgumentsAreSaturatedFirst(t *testing.T) {
	checkValues(t, "AddValues", impl.AddValues, []valueCase{
		{2000000, -5, 999995}, {-5, 2000000, 999995}, {-2000000, 5, -999995}, {5, -2000000, -999995},
		{1000001, -1, 999999}, {-1000001, 1, -999999}, {2000000, -1500000, 0}, {-1500000, 2000000, 0},
	})
	checkValues(t, "SubValues", impl.SubValues, []valueCase{
		{2000000, 5, 999995}, {5, 2000000, -999995}, {-2000000, -5, -999995}, {-5, -2000000, 999995},
		{1000001, 1, 999999}, {1, 1000001, -999999}, {2000000, 1500000, 0}, {-1500000, -2000000, 0},
	})
}

// With the arguments as they are, most of these results would not fit into an int.
func TestOperationsOnExtremes(t *testing.T) {
	least, greatest := math.MinInt, math.MaxInt
	checkValues(t, "AddValues", impl.AddValues, []valueCase{
		{greatest, 1, 1000000}, {1, greatest, 1000000}, {greatest, greatest, 1000000},
		{least, -1, -1000000}, {-1, least, -1000000}, {least, least, -1000000},
		{greatest, least, 0}, {least, greatest, 0},
		{greatest, -1, 999999}, {least, 1, -999999},
	})
	checkValues(t, "SubValues", impl.SubValues, []valueCase{
		{greatest, -1, 1000000}, {-1, greatest, -1000000}, {least, 1, -1000000}, {0, least, 1000000}, {-1, least, 999999}, {1, least, 1000000},
		{greatest, least, 1000000}, {least, greatest, -1000000}, {greatest, greatest, 0}, {least, least, 0},
	})
	checkValues(t, "MulValues", impl.MulValues, []valueCase{
		{greatest, 2, 1000000}, {2, greatest, 1000000}, {greatest, -2, -1000000}, {greatest, greatest, 1000000},
		{least, -1, 1000000}, {-1, least, 1000000}, {least, 2, -1000000}, {2, least, -1000000}, {least, least, 1000000}, {least, greatest, -1000000},
		{least, 0, 0}, {0, greatest, 0}, {1 << 32, 1 << 32, 1000000}, {1 << 32, -(1 << 32), -1000000}, {3037000500, 3037000500, 1000000},
	})
}

// Promise 2, for each pair of numbers at which something could go wrong.
func TestAllResultsAreValues(t *testing.T) {
	for _, a := range edgeNumbers() {
		for _, b := range edgeNumbers() {
			for _, o := range valueOperations() {
				got := o.apply(a, b)
				want := bigSaturated(o.exact(bigSaturated(big.NewInt(int64(a))), bigSaturated(big.NewInt(int64(b)))))
				if !want.IsInt64() || int64(got) != want.Int64() {
					t.Errorf("%s(%d, %d) = %d; want %s", o.name, a, b, got, want)
				}
				if got < -1000000 || got > 1000000 || !impl.IsValue(got) {
					t.Errorf("%s(%d, %d) = %d is not a value", o.name, a, b, got)
				}
			}
		}
	}
}

func TestSaturatedNumbersAreValues(t *testing.T) {
	for _, n := range edgeNumbers() {
		got := impl.Saturate(n)
		if got < -1000000 || got > 1000000 || !impl.IsValue(got) || impl.Saturate(got) != got {
			t.Errorf("Saturate(%d) = %d is not a value", n, got)
		}
		if impl.IsValue(n) != (got == n) {
			t.Errorf("IsValue(%d) = %v, but Saturate(%d) = %d", n, impl.IsValue(n), n, got)
		}
	}
}

// Exact below the bounds: every pair of small numbers of both signs.
func TestSmallNumbersAreComputedExactly(t *testing.T) {
	for a := -30; a <= 30; a++ {
		for b := -30; b <= 30; b++ {
			if impl.AddValues(a, b) != a+b || impl.SubValues(a, b) != a-b || impl.MulValues(a, b) != a*b {
				t.Errorf("of %d and %d: %d, %d, %d", a, b, impl.AddValues(a, b), impl.SubValues(a, b), impl.MulValues(a, b))
			}
		}
	}
}
