package tests

import (
	"math"
	"math/big"
	"slices"
	"testing"

	"loop.example/g00514/impl"
)

// The tables of the operators have an element for each pair of words, the left one by rows; -1 stands for no result.
var operatorTables = []struct {
	op     int
	symbol string
	table  [4][4]int
}{
	{1, "+", [4][4]int{{0, 1, 2, 3}, {1, 2, 3, 0}, {2, 3, 0, 1}, {3, 0, 1, 2}}},
	{2, "-", [4][4]int{{0, 3, 2, 1}, {1, 0, 3, 2}, {2, 1, 0, 3}, {3, 2, 1, 0}}},
	{3, "*", [4][4]int{{0, 0, 0, 0}, {0, 1, 2, 3}, {0, 2, 0, 2}, {0, 3, 2, 1}}},
	{4, "/", [4][4]int{{-1, 0, 0, 0}, {-1, 1, 0, 0}, {-1, 2, 1, 0}, {-1, 3, 1, 1}}},
	{5, "<", [4][4]int{{0, 1, 1, 1}, {0, 0, 1, 1}, {0, 0, 0, 1}, {0, 0, 0, 0}}},
	{6, "==", [4][4]int{{1, 0, 0, 0}, {0, 1, 0, 0}, {0, 0, 1, 0}, {0, 0, 0, 1}}},
	{7, "&", [4][4]int{{0, 0, 0, 0}, {0, 1, 1, 1}, {0, 1, 1, 1}, {0, 1, 1, 1}}},
	{8, "|", [4][4]int{{0, 1, 1, 1}, {1, 1, 1, 1}, {1, 1, 1, 1}, {1, 1, 1, 1}}},
}

// manyIntegers returns small integers of both signs, those around the powers of two, and the first and last ones.
func manyIntegers() []int {
	var all []int
	for n := -40; n <= 40; n++ {
		all = append(all, n)
	}
	for shift := 6; shift < 63; shift++ {
		for d := -5; d <= 5; d++ {
			all = append(all, 1<<shift+d, -1<<shift+d)
		}
	}
	for d := range 20 {
		all = append(all, math.MinInt+d, math.MaxInt-d)
	}
	return all
}

// someIntegers are operands of which all pairs are tried.
func someIntegers() []int {
	all := []int{255, 256, 1000003, -1000003, math.MaxInt32, math.MinInt32, 1 << 62, -1 << 62, 3037000500}
	for n := -13; n <= 13; n++ {
		all = append(all, n)
	}
	for d := range 6 {
		all = append(all, math.MinInt+d, math.MaxInt-d)
	}
	return all
}

// noOperators returns numbers below, above and far from those of the operators, also ones that only end in their bits.
func noOperators() []int {
	all := []int{math.MinInt, math.MinInt + 1, math.MaxInt, math.MaxInt - 1, math.MinInt32, math.MaxInt32}
	for n := -300; n <= 300; n++ {
		if n < 1 || n > 8 {
			all = append(all, n)
		}
	}
	for op := 1; op <= 8; op++ {
		all = append(all, -op, op<<8, op<<32, op+1<<16, op+1<<32, op+1<<40, op+math.MinInt)
	}
	return all
}

// wordOf returns the residue that is not negative, without the limits of an int.
func wordOf(n *big.Int) int {
	return int(new(big.Int).Mod(n, big.NewInt(4)).Int64())
}

func wantResult(t *testing.T, op, x, y, want int) {
	t.Helper()
	ok := want >= 0
	if got, gotOk := impl.ApplyOp(op, x, y); got != max(want, 0) || gotOk != ok {
		t.Errorf("ApplyOp(%d, %d, %d) = %d, %v; want %d, %v", op, x, y, got, gotOk, max(want, 0), ok)
	}
}

func equalLists(a, b [][]int) bool {
	return slices.EqualFunc(a, b, func(x, y []int) bool { return slices.Equal(x, y) })
}

func TestConstantsOfWords(t *testing.T) {
	if impl.Modulus != 4 {
		t.Errorf("Modulus is %d", impl.Modulus)
	}
	ops := []int{impl.OpAdd, impl.OpSubtract, impl.OpMultiply, impl.OpDivide, impl.OpLess, impl.OpSame, impl.OpAnd, impl.OpOr}
	if !slices.Equal(ops, []int{1, 2, 3, 4, 5, 6, 7, 8}) {
		t.Errorf("the operators have the numbers %v", ops)
	}
}

func TestWrap(t *testing.T) {
	cases := []struct{ n, want int }{
		{0, 0}, {1, 1}, {2, 2}, {3, 3}, {4, 0}, {5, 1}, {6, 2}, {7, 3}, {8, 0}, {9, 1},
		{-1, 3}, {-2, 2}, {-3, 1}, {-4, 0}, {-5, 3}, {-6, 2}, {-7, 1}, {-8, 0}, {-9, 3},
		{399, 3}, {400, 0}, {401, 1}, {-399, 1}, {-400, 0}, {-401, 3},
		{math.MaxInt32, 3}, {math.MinInt32, 0}, {1 << 62, 0}, {1<<62 - 1, 3}, {-1<<62 - 1, 3},
		{math.MaxInt, 3}, {math.MaxInt - 1, 2}, {math.MaxInt - 2, 1}, {math.MaxInt - 3, 0},
		{math.MinInt, 0}, {math.MinInt + 1, 1}, {math.MinInt + 2, 2}, {math.MinInt + 3, 3}, {math.MinInt + 4, 0},
	}
	for _, c := range cases {
		if got := impl.Wrap(c.n); got != c.want {
			t.Errorf("Wrap(%d) = %d; want %d", c.n, got, c.want)
		}
	}
}

func TestWrapReturnsTheCongruentWord(t *testing.T) {
	for _, n := range manyIntegers() {
		got := impl.Wrap(n)
		if got < 0 || got > 3 || got != wordOf(big.NewInt(int64(n))) {
			t.Errorf("Wrap(%d) = %d", n, got)
		}
		if !impl.IsWord(got) || impl.Wrap(got) != got {
			t.Errorf("Wrap(%d) = %d is not a word", n, got)
		}
	}
}

func TestIsWord(t *testing.T) {
	for _, n := range manyIntegers() {
		want := n == 0 || n == 1 || n == 2 || n == 3
		if impl.IsWord(n) != want {
			t.Errorf("IsWord(%d) is %v", n, !want)
		}
		if (impl.Wrap(n) == n) != want {
			t.Errorf("Wrap(%d) is %d", n, impl.Wrap(n))
		}
	}
}

func TestOperatorsOnWords(t *testing.T) {
	for _, o := range operatorTables {
		for x, row := range o.table {
			for y, want := range row {
				wantResult(t, o.op, x, y, want)
			}
		}
	}
}

func TestOperatorsOnOtherOperands(t *testing.T) {
	cases := []struct{ op, x, y, want int }{
		{impl.OpAdd, -1, -1, 2}, {impl.OpAdd, 7, 6, 1}, {impl.OpAdd, math.MaxInt, 1, 0}, {impl.OpAdd, math.MinInt, -1, 3},
		{impl.OpAdd, math.MaxInt, math.MaxInt, 2}, {impl.OpAdd, math.MinInt, math.MinInt, 0},
		{impl.OpSubtract, -1, 1, 2}, {impl.OpSubtract, 4, 5, 3}, {impl.OpSubtract, math.MinInt, 1, 3}, {impl.OpSubtract, 0, math.MinInt, 0},
		{impl.OpMultiply, -1, -1, 1}, {impl.OpMultiply, 6, 3, 2}, {impl.OpMultiply, math.MaxInt, math.MaxInt, 1}, {impl.OpMultiply, math.MinInt, 3, 0},
		{impl.OpDivide, -1, 2, 1}, {impl.OpDivide, -1, -2, 1}, {impl.OpDivide, -2, -1, 0}, {impl.OpDivide, 7, 2, 1}, {impl.OpDivide, 9, 2, 0},
		{impl.OpDivide, 6, 5, 2}, {impl.OpDivide, math.MaxInt, math.MaxInt, 1}, {impl.OpDivide, math.MinInt, -1, 0}, {impl.OpDivide, math.MaxInt, 1, 3},
		{impl.OpLess, -1, 0, 0}, {impl.OpLess, 0, -1, 1}, {impl.OpLess, 3, 4, 0}, {impl.OpLess, 4, 3, 1}, {impl.OpLess, -4, 0, 0},
		{impl.OpLess, math.MinInt, math.MaxInt, 1}, {impl.OpLess, math.MaxInt, math.MinInt, 0}, {impl.OpLess, math.MinInt, 0, 0},
		{impl.OpSame, 4, 0, 1}, {impl.OpSame, -1, 3, 1}, {impl.OpSame, -1, 1, 0}, {impl.OpSame, math.MinInt, 0, 1}, {impl.OpSame, math.MaxInt, -1, 1},
		{impl.OpAnd, 4, 1, 0}, {impl.OpAnd, 1, -8, 0}, {impl.OpAnd, 5, -1, 1}, {impl.OpAnd, math.MinInt, math.MaxInt, 0}, {impl.OpAnd, math.MaxInt, math.MaxInt, 1},
		{impl.OpOr, 4, -4, 0}, {impl.OpOr, math.MinInt, 8, 0}, {impl.OpOr, 4, 5, 1}, {impl.OpOr, -1, 0, 1}, {impl.OpOr, math.MinInt, math.MaxInt, 1},
	}
	for _, c := range cases {
		wantResult(t, c.op, c.x, c.y, c.want)
	}
}

func TestOperatorsWrapTheirOperands(t *testing.T) {
	for _, o := range operatorTables {
		for _, x := range someIntegers() {
			for _, y := range someIntegers() {
				wantResult(t, o.op, x, y, o.table[wordOf(big.NewInt(int64(x)))][wordOf(big.NewInt(int64(y)))])
			}
		}
	}
	for _, o := range operatorTables {
		for _, n := range manyIntegers() {
			word := wordOf(big.NewInt(int64(n)))
			for other := range 4 {
				wantResult(t, o.op, n, other, o.table[word][other])
				wantResult(t, o.op, other, n, o.table[other][word])
			}
		}
	}
}

func TestArithmeticWrapsAround(t *testing.T) {
	for _, x := range someIntegers() {
		for _, y := range someIntegers() {
			a, b := big.NewInt(int64(x)), big.NewInt(int64(y))
			wantResult(t, impl.OpAdd, x, y, wordOf(new(big.Int).Add(a, b)))
			wantResult(t, impl.OpSubtract, x, y, wordOf(new(big.Int).Sub(a, b)))
			wantResult(t, impl.OpMultiply, x, y, wordOf(new(big.Int).Mul(a, b)))
			for op := 1; op <= 8; op++ {
				got, ok := impl.ApplyOp(op, x, y)
				same, sameOk := impl.ApplyOp(op, impl.Wrap(x), impl.Wrap(y))
				if got != same || ok != sameOk || !impl.IsWord(got) {
					t.Errorf("ApplyOp(%d, %d, %d) = %d, %v; for the wrapped operands %d, %v", op, x, y, got, ok, same, sameOk)
				}
			}
		}
	}
}

func TestQuotientsAreRoundedDown(t *testing.T) {
	for x := range 4 {
		for y := 1; y < 4; y++ {
			q, ok := impl.ApplyOp(impl.OpDivide, x, y)
			if !ok || q*y > x || (q+1)*y <= x {
				t.Errorf("ApplyOp(OpDivide, %d, %d) = %d, %v", x, y, q, ok)
			}
		}
	}
}

func TestDivisionByZero(t *testing.T) {
	for _, x := range manyIntegers() {
		for _, y := range []int{0, 4, -4, 8, -8, 400, -400, 1 << 32, 1 << 62, -1 << 62, math.MaxInt - 3, math.MinInt, math.MinInt + 4} {
			wantResult(t, impl.OpDivide, x, y, -1)
		}
	}
	for _, y := range manyIntegers() {
		if _, ok := impl.ApplyOp(impl.OpDivide, 3, y); ok != (wordOf(big.NewInt(int64(y))) != 0) {
			t.Errorf("ApplyOp(OpDivide, 3, %d) has a result: %v", y, ok)
		}
	}
}

func TestOtherNumbersAreNoOperators(t *testing.T) {
	for _, op := range noOperators() {
		for _, x := range []int{0, 1, 2, 3, -1, 4, math.MinInt, math.MaxInt} {
			for _, y := range []int{0, 1, 2, 3, -1, 4, math.MinInt, math.MaxInt} {
				wantResult(t, op, x, y, -1)
			}
		}
	}
}

func TestOpSymbol(t *testing.T) {
	var symbols []string
	for _, o := range operatorTables {
		if got := impl.OpSymbol(o.op); got != o.symbol {
			t.Errorf("OpSymbol(%d) = %q; want %q", o.op, got, o.symbol)
		}
		symbols = append(symbols, impl.OpSymbol(o.op))
	}
	if !impl.AllDistinct(symbols) {
		t.Errorf("two operators have one symbol: %q", symbols)
	}
	for _, op := range noOperators() {
		if got := impl.OpSymbol(op); got != "?" {
			t.Errorf("OpSymbol(%d) = %q", op, got)
		}
	}
}

func TestAllStates(t *testing.T) {
	cases := [][][]int{
		{{}},
		{{0}, {1}, {2}, {3}},
		{
			{0, 0}, {0, 1}, {0, 2}, {0, 3}, {1, 0}, {1, 1}, {1, 2}, {1, 3},
			{2, 0}, {2, 1}, {2, 2}, {2, 3}, {3, 0}, {3, 1}, {3, 2}, {3, 3},
		},
	}
	for n, want := range cases {
		if got := impl.AllStates(n); !equalLists(got, want) {
			t.Errorf("AllStates(%d) = %v; want %v", n, got, want)
		}
	}
	for _, n := range []int{-1, -2, -3, -4, 3, 4, 5, 6, 8, 16, 1000, 1 << 32, 1<<32 + 1, 1<<32 + 2, math.MinInt32, math.MaxInt32, math.MinInt, math.MinInt + 1, math.MinInt + 2, math.MaxInt} {
		if got := impl.AllStates(n); len(got) != 0 {
			t.Errorf("AllStates(%d) has %d lists", n, len(got))
		}
	}
}

func TestStatesAreInOrderAndOccurOnce(t *testing.T) {
	count := 1
	for n := range 3 {
		states := impl.AllStates(n)
		if len(states) != count {
			t.Errorf("AllStates(%d) has %d lists; want %d", n, len(states), count)
		}
		for i, state := range states {
			if len(state) != n {
				t.Errorf("AllStates(%d) has %v", n, state)
			}
			for _, word := range state {
				if !impl.IsWord(word) {
					t.Errorf("AllStates(%d) has %v", n, state)
				}
			}
			if i > 0 && slices.Compare(states[i-1], state) >= 0 {
				t.Errorf("AllStates(%d) has %v before %v", n, states[i-1], state)
			}
		}
		count *= impl.Modulus
	}
}

func TestStatesShareNoMemory(t *testing.T) {
	for n := range 3 {
		want := impl.AllStates(n)
		states, others := impl.AllStates(n), impl.AllStates(n)
		for i := range states {
			// Everything an append could reach is overwritten, and each list in turn.
			whole := states[i][:cap(states[i])]
			for k := range whole {
				whole[k] = 90 + i
			}
			for k := range states {
				if k > i && !slices.Equal(states[k], want[k]) {
					t.Errorf("list %d of AllStates(%d) shares memory with list %d", k, n, i)
				}
			}
			for _, word := range states[i] {
				if word != 90+i {
					t.Errorf("list %d of AllStates(%d) is %v", i, n, states[i])
				}
			}
		}
		for i := len(states) - 1; i >= 0; i-- {
			for _, word := range states[i] {
				if word != 90+i {
					t.Errorf("list %d of AllStates(%d) was changed with another one", i, n)
				}
			}
		}
		whole := states[:cap(states)]
		for i := range whole {
			whole[i] = []int{-1, -1, -1}
		}
		if !equalLists(others, want) || !equalLists(impl.AllStates(n), want) {
			t.Errorf("a change of a result of AllStates(%d) changed another one", n)
		}
	}
}

func TestWordsKeepNothing(t *testing.T) {
	for range 3 {
		for _, o := range operatorTables {
			wantResult(t, o.op, 3, 2, o.table[3][2])
			wantResult(t, 9, 3, 2, -1)
			wantResult(t, impl.OpDivide, 3, 0, -1)
			if impl.OpSymbol(o.op) != o.symbol || impl.OpSymbol(9) != "?" {
				t.Errorf("OpSymbol(%d) or OpSymbol(9) changes from call to call", o.op)
			}
		}
	}
}
