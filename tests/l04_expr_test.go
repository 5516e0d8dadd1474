package tests

import (
	"fmt"
	"math"
	"math/rand/v2"
	"reflect"
	"slices"
	"strings"
	"testing"

	"loop.example/g00514/impl"
)

func con(n int) impl.Expr { return impl.Expr{Kind: impl.ExprConst, N: n} }

func ref(name string) impl.Expr { return impl.Expr{Kind: impl.ExprVar, Name: name} }

func bin(op int, left, right impl.Expr) impl.Expr {
	return impl.Expr{Kind: impl.ExprOp, N: op, Args: []impl.Expr{left, right}}
}

func not(e impl.Expr) impl.Expr { return impl.Expr{Kind: impl.ExprNot, Args: []impl.Expr{e}} }

// nots returns e below the given number of negations.
func nots(number int, e impl.Expr) impl.Expr {
	for range number {
		e = not(e)
	}
	return e
}

// fullTree returns sums of sums of ones in which each sum has the same depth on both sides.
func fullTree(depth int) impl.Expr {
	if depth == 1 {
		return con(1)
	}
	return bin(impl.OpAdd, fullTree(depth-1), fullTree(depth-1))
}

// copyExpr shares no memory with e and has nil for each empty list.
func copyExpr(e impl.Expr) impl.Expr {
	args := e.Args
	e.Args = nil
	for _, arg := range args {
		e.Args = append(e.Args, copyExpr(arg))
	}
	return e
}

// nodesOf returns pointers to the nodes of an expression, itself first.
func nodesOf(e *impl.Expr) []*impl.Expr {
	nodes := []*impl.Expr{e}
	for i := range e.Args {
		nodes = append(nodes, nodesOf(&e.Args[i])...)
	}
	return nodes
}

// changedNodes returns all copies of e in which change was applied to one node.
func changedNodes(e impl.Expr, change func(*impl.Expr)) []impl.Expr {
	var changed []impl.Expr
	for k := range nodesOf(&e) {
		c := copyExpr(e)
		change(nodesOf(&c)[k])
		changed = append(changed, c)
	}
	return changed
}

// ordinaryExprs are valid, and no two of them are equal.
func ordinaryExprs() []impl.Expr {
	x, y := ref("x"), ref("y")
	return []impl.Expr{
		con(0), con(3), x, y, ref("z9999999"), not(con(0)), not(x), nots(4, y),
		bin(impl.OpAdd, x, con(3)), bin(impl.OpAdd, con(3), x), bin(impl.OpSubtract, x, con(3)), bin(impl.OpDivide, x, y), bin(impl.OpDivide, x, x),
		not(bin(impl.OpSame, x, con(1))), bin(impl.OpSame, not(x), con(1)),
		bin(impl.OpAnd, not(bin(impl.OpSame, x, con(1))), bin(impl.OpLess, bin(impl.OpSubtract, y, bin(impl.OpSubtract, x, con(1))), con(2))),
		bin(impl.OpSubtract, bin(impl.OpSubtract, x, y), con(1)), bin(impl.OpSubtract, x, bin(impl.OpSubtract, y, con(1))),
		bin(impl.OpMultiply, bin(impl.OpOr, x, not(y)), bin(impl.OpDivide, con(2), not(x))),
	}
}

// invalidExprs have one fault each, at their root.
func invalidExprs() []impl.Expr {
	x, one := ref("x"), con(1)
	all := []impl.Expr{
		{}, {Name: "x"}, {N: 1}, {Args: []impl.Expr{x, one}},
		{Kind: impl.ExprConst, N: 1, Name: "x"}, {Kind: impl.ExprConst, Name: "x"}, {Kind: impl.ExprConst, N: 1, Name: "?"},
		{Kind: impl.ExprConst, N: 1, Args: []impl.Expr{x}}, {Kind: impl.ExprConst, N: 1, Args: []impl.Expr{x, one}}, {Kind: impl.ExprConst, Args: []impl.Expr{{}}},
		{Kind: impl.ExprVar, Name: "x", N: 1}, {Kind: impl.ExprVar, Name: "x", N: -1}, {Kind: impl.ExprVar, Name: "x", N: math.MinInt},
		{Kind: impl.ExprVar, Name: "x", Args: []impl.Expr{x}}, {Kind: impl.ExprVar, Name: "x", Args: []impl.Expr{x, one}}, {Kind: impl.ExprVar, Name: "x", Args: []impl.Expr{{}}},
		{Kind: impl.ExprOp, N: impl.OpAdd, Name: "x", Args: []impl.Expr{x, one}}, {Kind: impl.ExprOp, N: impl.OpAdd, Name: "+", Args: []impl.Expr{x, one}},
		{Kind: impl.ExprOp, N: impl.OpAdd}, {Kind: impl.ExprOp, N: impl.OpAdd, Args: []impl.Expr{}}, {Kind: impl.ExprOp, N: impl.OpAdd, Args: []impl.Expr{x}},
		{Kind: impl.ExprOp, N: impl.OpAdd, Args: []impl.Expr{x, one, x}}, {Kind: impl.ExprOp, N: impl.OpSubtract, Args: []impl.Expr{x, one, x, one}},
		{Kind: impl.ExprNot, N: 1, Args: []impl.Expr{x}}, {Kind: impl.ExprNot, N: -1, Args: []impl.Expr{x}}, {Kind: impl.ExprNot, N: math.MaxInt, Args: []impl.Expr{x}},
		{Kind: impl.ExprNot, Name: "x", Args: []impl.Expr{x}}, {Kind: impl.ExprNot, Name: "!", Args: []impl.Expr{x}},
		{Kind: impl.ExprNot}, {Kind: impl.ExprNot, Args: []impl.Expr{}}, {Kind: impl.ExprNot, Args: []impl.Expr{x, one}}, {Kind: impl.ExprNot, Args: []impl.Expr{x, x, x}},
	}
	for _, n := range []int{-1, 4, 5, 7, 8, -4, 256, 1 << 32, math.MinInt, math.MaxInt} {
		all = append(all, con(n))
	}
	for _, name := range append(slices.Clone(reserved), "", "1", "1x", "X", "x_", "x y", " x", "x\n", "\x00", "\xff", "é", "toolongna", "abcdefghi") {
		all = append(all, ref(name))
	}
	for _, op := range []int{0, -1, 9, 10, -8, 257, 1 << 32, 1<<32 + 1, math.MinInt, math.MaxInt} {
		all = append(all, bin(op, x, one))
	}
	for _, kind := range []int{0, -1, -2, -3, -4, 5, 6, 7, 8, 257, 1<<32 + 1, math.MinInt, math.MinInt + 1, math.MaxInt} {
		all = append(all, impl.Expr{Kind: kind, N: 1}, impl.Expr{Kind: kind, Name: "x"},
			impl.Expr{Kind: kind, N: 1, Args: []impl.Expr{x, one}}, impl.Expr{Kind: kind, Args: []impl.Expr{x}})
	}
	return all
}

func wantValidity(t *testing.T, e impl.Expr, want bool) {
	t.Helper()
	if impl.IsValidExpr(e) != want {
		t.Errorf("IsValidExpr(%.300s) is %v", fmt.Sprint(e), !want)
	}
}

// wantValue takes -1 for no value.
func wantValue(t *testing.T, e impl.Expr, vars []string, state []int, want int) {
	t.Helper()
	if got, ok := impl.EvalExpr(e, vars, state); got != max(want, 0) || ok != (want >= 0) {
		t.Errorf("EvalExpr(%.300s, %q, %v) = %d, %v; want %d", fmt.Sprint(e), vars, state, got, ok, want)
	}
}

// valueOf evaluates a valid expression by the tables of the operators; words has the values of variables, and -1 is no value.
func valueOf(e impl.Expr, words map[string]int) int {
	switch e.Kind {
	case impl.ExprConst:
		return e.N
	case impl.ExprVar:
		return words[e.Name]
	case impl.ExprNot:
		return [...]int{-1, 1, 0, 0, 0}[1+valueOf(e.Args[0], words)]
	}
	left, right := valueOf(e.Args[0], words), valueOf(e.Args[1], words)
	if left < 0 || right < 0 {
		return -1
	}
	return operatorTables[e.N-1].table[left][right]
}

// smallExprs returns all expressions over the leaves of at most the given depth, by operators and negations.
func smallExprs(leaves []impl.Expr, depth int) []impl.Expr {
	if depth == 1 {
		return leaves
	}
	all := slices.Clone(leaves)
	parts := smallExprs(leaves, depth-1)
	for _, left := range parts {
		all = append(all, not(left))
		for op := 1; op <= 8; op++ {
			for _, right := range parts {
				all = append(all, bin(op, left, right))
			}
		}
	}
	return all
}

// randomExpr returns a valid expression if depth is at most 3, as it then has at most 7 nodes.
func randomExpr(random *rand.Rand, names []string, depth int) impl.Expr {
	switch choice := random.IntN(8); {
	case depth == 1 && choice < 3:
		return con(random.IntN(4))
	case depth == 1 || choice < 2:
		return ref(names[random.IntN(len(names))])
	case choice == 2:
		return not(randomExpr(random, names, depth-1))
	}
	return bin(1+random.IntN(8), randomExpr(random, names, depth-1), randomExpr(random, names, depth-1))
}

func TestConstantsOfExprs(t *testing.T) {
	if impl.MaxExprNodes != 12 || impl.MaxExprDepth != 5 {
		t.Errorf("the limits are %d and %d", impl.MaxExprNodes, impl.MaxExprDepth)
	}
	kinds := []int{impl.ExprConst, impl.ExprVar, impl.ExprOp, impl.ExprNot}
	if !slices.Equal(kinds, []int{1, 2, 3, 4}) {
		t.Errorf("the kinds have the numbers %v", kinds)
	}
}

func TestCountAndDepth(t *testing.T) {
	x := ref("x")
	cases := []struct {
		e            impl.Expr
		count, depth int
	}{
		{impl.Expr{}, 1, 1},
		{con(2), 1, 1},
		{x, 1, 1},
		{impl.Expr{Kind: impl.ExprOp, N: 1, Args: []impl.Expr{}}, 1, 1},
		{not(x), 2, 2},
		{nots(4, x), 5, 5},
		{bin(1, x, x), 3, 2},
		{bin(1, not(x), x), 4, 3},
		{bin(1, x, not(x)), 4, 3},
		{bin(1, nots(2, x), bin(2, x, x)), 7, 4},
		{bin(1, bin(2, x, x), nots(2, x)), 7, 4},
		{bin(1, nots(3, x), bin(2, x, x)), 8, 5},
		{fullTree(3), 7, 3},
		{fullTree(5), 31, 5},
		{fullTree(9), 511, 9},
		{nots(300, x), 301, 301},
		{impl.Expr{Args: []impl.Expr{{}, {}, {}}}, 4, 2},
		{impl.Expr{Args: []impl.Expr{{}, {Args: []impl.Expr{{}}}, {}}}, 5, 3},
		{impl.Expr{Kind: impl.ExprConst, N: 1, Args: []impl.Expr{x, not(x)}}, 4, 3},
		{impl.Expr{Kind: impl.ExprVar, Name: "x", Args: []impl.Expr{x}}, 2, 2},
		{impl.Expr{Kind: -7, Args: make([]impl.Expr, 1000)}, 1001, 2},
	}
	for _, c := range cases {
		if count, depth := impl.CountExpr(c.e), impl.DepthOfExpr(c.e); count != c.count || depth != c.depth {
			t.Errorf("CountExpr and DepthOfExpr of %.300s are %d and %d; want %d and %d", fmt.Sprint(c.e), count, depth, c.count, c.depth)
		}
	}
}

func TestCountAndDepthOfParts(t *testing.T) {
	for _, e := range append(invalidExprs(), ordinaryExprs()...) {
		count, depth := 1, 0
		for _, arg := range e.Args {
			count += impl.CountExpr(arg)
			depth = max(depth, impl.DepthOfExpr(arg))
		}
		if impl.CountExpr(e) != count || impl.DepthOfExpr(e) != 1+depth {
			t.Errorf("CountExpr and DepthOfExpr of %v are %d and %d", e, impl.CountExpr(e), impl.DepthOfExpr(e))
		}
	}
}

func TestLimitsOfExprs(t *testing.T) {
	four, five := not(bin(1, con(1), con(1))), bin(1, bin(1, con(1), con(1)), con(1))
	cases := []struct {
		e            impl.Expr
		count, depth int
		valid        bool
	}{
		{bin(1, fullTree(3), four), 12, 4, true},
		{bin(1, four, fullTree(3)), 12, 4, true},
		{bin(1, fullTree(3), five), 13, 4, false},
		{bin(1, five, fullTree(3)), 13, 4, false},
		{not(bin(1, fullTree(3), bin(1, con(1), con(1)))), 12, 5, true},
		{not(bin(1, fullTree(3), four)), 13, 5, false},
		{fullTree(4), 15, 4, false},
		{fullTree(5), 31, 5, false},
		{fullTree(6), 63, 6, false},
		{fullTree(12), 4095, 12, false},
		{nots(3, con(1)), 4, 4, true},
		{nots(4, con(1)), 5, 5, true},
		{nots(5, con(1)), 6, 6, false},
		{nots(11, con(1)), 12, 12, false},
		{nots(12, con(1)), 13, 13, false},
		{bin(1, nots(3, con(1)), nots(3, con(1))), 9, 5, true},
		{bin(1, nots(4, con(1)), con(1)), 7, 6, false},
		{bin(1, con(1), nots(4, con(1))), 7, 6, false},
		{bin(1, con(1), bin(1, con(1), bin(1, con(1), bin(1, con(1), con(1))))), 9, 5, true},
		{bin(1, con(1), bin(1, con(1), bin(1, con(1), bin(1, con(1), not(con(1)))))), 10, 6, false},
		{bin(1, bin(1, bin(1, bin(1, con(1), con(1)), con(1)), con(1)), not(con(1))), 10, 5, true},
	}
	for _, c := range cases {
		if impl.CountExpr(c.e) != c.count || impl.DepthOfExpr(c.e) != c.depth {
			t.Errorf("CountExpr and DepthOfExpr of %v are %d and %d", c.e, impl.CountExpr(c.e), impl.DepthOfExpr(c.e))
		}
		wantValidity(t, c.e, c.valid)
		if _, ok := impl.EvalExpr(c.e, nil, nil); ok != c.valid {
			t.Errorf("EvalExpr of %v has a value: %v", c.e, ok)
		}
	}
}

func TestValidExprs(t *testing.T) {
	for _, e := range ordinaryExprs() {
		wantValidity(t, e, true)
	}
	for n := range 4 {
		wantValidity(t, con(n), true)
	}
	for op := 1; op <= 8; op++ {
		wantValidity(t, bin(op, ref("x"), con(1)), true)
	}
	empty := []impl.Expr{}
	wantValidity(t, impl.Expr{Kind: impl.ExprConst, N: 2, Args: empty}, true)
	wantValidity(t, impl.Expr{Kind: impl.ExprVar, Name: "x", Args: empty}, true)
	wantValidity(t, not(impl.Expr{Kind: impl.ExprVar, Name: "x", Args: empty}), true)
	for _, e := range smallExprs([]impl.Expr{con(0), ref("x")}, 3) {
		if !impl.IsValidExpr(e) {
			t.Fatalf("IsValidExpr(%v) is false", e)
		}
	}
}

func TestInvalidExprs(t *testing.T) {
	x := ref("x")
	for _, e := range invalidExprs() {
		for _, whole := range []impl.Expr{
			e, not(e), bin(impl.OpAdd, e, x), bin(impl.OpAdd, x, e), bin(impl.OpAnd, con(0), e), bin(impl.OpOr, con(1), not(e)),
			bin(impl.OpMultiply, bin(impl.OpLess, x, e), x), bin(impl.OpMultiply, x, not(not(bin(impl.OpLess, e, x)))),
		} {
			wantValidity(t, whole, false)
			wantValue(t, whole, []string{"x", "", "a"}, []int{1, 2, 3}, -1)
		}
	}
}

func TestValidityOfNumbersAndNames(t *testing.T) {
	for _, n := range manyIntegers() {
		wantValidity(t, con(n), 0 <= n && n <= 3)
		wantValidity(t, bin(n, con(1), con(1)), 1 <= n && n <= 8)
		wantValidity(t, impl.Expr{Kind: n, N: 1}, n == 1)
		wantValidity(t, impl.Expr{Kind: n, Name: "x"}, n == 2)
		wantValidity(t, impl.Expr{Kind: n, N: 1, Args: []impl.Expr{con(1), con(1)}}, n == 3)
		wantValidity(t, impl.Expr{Kind: n, Args: []impl.Expr{con(1)}}, n == 4)
		wantValidity(t, impl.Expr{Kind: impl.ExprVar, N: n, Name: "x"}, n == 0)
		wantValidity(t, impl.Expr{Kind: impl.ExprNot, N: n, Args: []impl.Expr{con(1)}}, n == 0)
	}
	for _, name := range stringsOver("abif09Z ", 4) {
		wantValidity(t, ref(name), nameSyntax.MatchString(name) && !slices.Contains(reserved, name))
	}
	for length := range 20 {
		wantValidity(t, ref(strings.Repeat("x", length)), 1 <= length && length <= 8)
	}
	for number := range 20 {
		args := slices.Repeat([]impl.Expr{con(1)}, number)
		wantValidity(t, impl.Expr{Kind: impl.ExprConst, N: 1, Args: args}, number == 0)
		wantValidity(t, impl.Expr{Kind: impl.ExprVar, Name: "x", Args: args}, number == 0)
		wantValidity(t, impl.Expr{Kind: impl.ExprOp, N: 1, Args: args}, number == 2)
		wantValidity(t, impl.Expr{Kind: impl.ExprNot, Args: args}, number == 1)
	}
}

// differentExprs are valid and invalid expressions, and no two of them are equal.
func differentExprs() []impl.Expr {
	var all []impl.Expr
	for _, n := range []int{0, 1, -1, math.MinInt, math.MaxInt} {
		for _, kind := range []int{0, 1, 2, 3, 4, 5, -7} {
			for _, name := range []string{"", "x", "y", "x\x00", "\xff"} {
				all = append(all, impl.Expr{Kind: kind, N: n, Name: name})
			}
		}
	}
	for _, args := range [][]impl.Expr{
		{{}}, {{}, {}}, {{}, {}, {}}, {{N: 1}}, {{N: 1}, {}}, {{}, {N: 1}}, {{Args: []impl.Expr{{}}}}, {{}, {Args: []impl.Expr{{}}}}, {{Args: []impl.Expr{{}}}, {}},
	} {
		all = append(all, impl.Expr{Args: args}, impl.Expr{Kind: 3, N: 1, Args: args}, impl.Expr{Kind: 3, N: 2, Args: args}, impl.Expr{Kind: 4, Args: args})
	}
	for _, e := range ordinaryExprs() {
		if e.Kind > 2 {
			all = append(all, e)
		}
	}
	return all
}

func TestEqualExprs(t *testing.T) {
	all := differentExprs()
	for i, e := range all {
		for k, other := range all {
			if impl.EqualExpr(e, other) != (i == k) || impl.EqualExpr(copyExpr(e), other) != (i == k) {
				t.Errorf("EqualExpr(%v, %v) is %v", e, other, i != k)
			}
		}
	}
}

func TestExprsThatDifferInOneField(t *testing.T) {
	changes := []func(*impl.Expr){
		func(e *impl.Expr) { e.Kind++ }, func(e *impl.Expr) { e.Kind = ^e.Kind }, func(e *impl.Expr) { e.Kind += 1 << 32 },
		func(e *impl.Expr) { e.N++ }, func(e *impl.Expr) { e.N-- }, func(e *impl.Expr) { e.N += 1 << 32 }, func(e *impl.Expr) { e.N += math.MinInt },
		func(e *impl.Expr) { e.Name += "x" }, func(e *impl.Expr) { e.Name += "\x00" }, func(e *impl.Expr) { e.Name = "other" },
		func(e *impl.Expr) { e.Args = append(e.Args, impl.Expr{}) },
		func(e *impl.Expr) { e.Args = append([]impl.Expr{{}}, e.Args...) },
		func(e *impl.Expr) { e.Args = append(e.Args, e.Args...); e.Args = append(e.Args, con(0)) },
	}
	bases := append(ordinaryExprs(), invalidExprs()...)
	bases = append(bases, fullTree(5), nots(20, ref("x")), impl.Expr{Kind: -7, N: -7, Name: "?", Args: []impl.Expr{con(9), {}, not(ref("")), {Kind: 3}}})
	for _, e := range bases {
		for _, change := range changes {
			for _, changed := range changedNodes(e, change) {
				if impl.EqualExpr(e, changed) || impl.EqualExpr(changed, e) {
					t.Errorf("EqualExpr(%v, %v) is true", e, changed)
				}
				if !impl.EqualExpr(changed, copyExpr(changed)) {
					t.Errorf("EqualExpr(%v, itself) is false", changed)
				}
			}
		}
		for k, node := range nodesOf(&e) {
			if len(node.Args) == 0 {
				continue
			}
			c := copyExpr(e)
			shorter := nodesOf(&c)[k]
			shorter.Args = shorter.Args[:len(shorter.Args)-1]
			if impl.EqualExpr(e, c) || impl.EqualExpr(c, e) {
				t.Errorf("EqualExpr(%v, %v) is true", e, c)
			}
		}
	}
}

func TestNilAndEmptyArgsAreEqual(t *testing.T) {
	for _, e := range append(differentExprs(), invalidExprs()...) {
		var emptied []impl.Expr
		emptied = append(emptied, changedNodes(e, func(e *impl.Expr) {
			if len(e.Args) == 0 {
				e.Args = []impl.Expr{}
			}
		})...)
		for _, c := range emptied {
			if !impl.EqualExpr(e, c) || !impl.EqualExpr(c, e) || impl.IsValidExpr(e) != impl.IsValidExpr(c) {
				t.Errorf("%v with nil and with empty Args differ", e)
			}
		}
	}
	// A part of a longer list is a list of its own.
	long := []impl.Expr{ref("x"), con(1), con(2)}
	if e := (impl.Expr{Kind: impl.ExprOp, N: 1, Args: long[:2]}); !impl.EqualExpr(e, bin(1, ref("x"), con(1))) || impl.EqualExpr(e, impl.Expr{Kind: impl.ExprOp, N: 1, Args: long}) {
		t.Error("EqualExpr looks behind the end of Args")
	}
	if e := (impl.Expr{Kind: impl.ExprConst, N: 1, Args: long[:0]}); !impl.EqualExpr(e, con(1)) || !impl.IsValidExpr(e) || impl.CountExpr(e) != 1 || len(impl.VarsOfExpr(e)) != 0 {
		t.Error("a function looks behind the end of empty Args")
	}
}

func TestEqualExprAgreesWithTheirValues(t *testing.T) {
	random := rand.New(rand.NewPCG(4, 1))
	for range 20000 {
		e, other := randomExpr(random, []string{"x", "y"}, 1+random.IntN(2)), randomExpr(random, []string{"x", "y"}, 1+random.IntN(2))
		if want := reflect.DeepEqual(e, other); impl.EqualExpr(e, other) != want {
			t.Fatalf("EqualExpr(%v, %v) is %v", e, other, !want)
		}
	}
}

func TestVarsOfExpr(t *testing.T) {
	x, y := ref("x"), ref("y")
	cases := []struct {
		e    impl.Expr
		want []string
	}{
		{con(1), nil},
		{impl.Expr{}, nil},
		{x, []string{"x"}},
		{not(con(0)), nil},
		{nots(4, y), []string{"y"}},
		{bin(1, x, x), []string{"x"}},
		{bin(1, y, x), []string{"x", "y"}},
		{bin(1, x, y), []string{"x", "y"}},
		{bin(1, bin(2, y, x), bin(3, x, not(y))), []string{"x", "y"}},
		{bin(1, ref("x10"), bin(1, ref("x9"), bin(1, ref("x1"), x))), []string{"x", "x1", "x10", "x9"}},
		{bin(1, ref("c"), bin(2, ref("d"), ref("c"))), []string{"c", "d"}},
		// Expressions that are not valid.
		{bin(9, y, x), []string{"x", "y"}},
		{bin(1, ref("if"), ref("")), []string{"", "if"}},
		{bin(1, ref("toolongname"), ref("\xff")), []string{"toolongname", "\xff"}},
		{impl.Expr{Kind: impl.ExprVar, N: 5, Name: "x"}, []string{"x"}},
		{impl.Expr{Kind: impl.ExprVar}, []string{""}},
		{impl.Expr{Kind: impl.ExprConst, N: 1, Name: "x"}, nil},
		{impl.Expr{Kind: impl.ExprOp, N: 1, Name: "z", Args: []impl.Expr{x, y}}, []string{"x", "y"}},
		{impl.Expr{Kind: impl.ExprNot, Name: "z", Args: []impl.Expr{con(1)}}, nil},
		{impl.Expr{Kind: impl.ExprNot, Args: []impl.Expr{y, x, y, ref("z")}}, []string{"x", "y", "z"}},
		{impl.Expr{Kind: impl.ExprConst, Args: []impl.Expr{y, not(x)}}, []string{"x", "y"}},
		{impl.Expr{Kind: impl.ExprVar, Name: "y", Args: []impl.Expr{x}}, []string{"x", "y"}},
		{impl.Expr{Kind: -7, Name: "z", Args: []impl.Expr{y}}, []string{"y"}},
		{impl.Expr{Kind: 5, Name: "z"}, nil},
		{impl.Expr{Name: "z"}, nil},
		{impl.Expr{Kind: impl.ExprVar + 1<<32, Name: "z"}, nil},
		{nots(40, x), []string{"x"}},
	}
	for _, c := range cases {
		if got := impl.VarsOfExpr(c.e); !slices.Equal(got, c.want) {
			t.Errorf("VarsOfExpr(%v) = %q; want %q", c.e, got, c.want)
		}
	}
	for _, e := range append(invalidExprs(), differentExprs()...) {
		var names []string
		for _, node := range nodesOf(&e) {
			if node.Kind == impl.ExprVar {
				names = append(names, node.Name)
			}
		}
		if got := impl.VarsOfExpr(e); !slices.Equal(got, impl.SortNames(names)) {
			t.Errorf("VarsOfExpr(%v) = %q", e, got)
		}
	}
}

func TestEvalExpr(t *testing.T) {
	x, y := ref("x"), ref("y")
	vars := []string{"x", "y"}
	cases := []struct {
		e     impl.Expr
		state []int
		want  int
	}{
		{con(0), []int{1, 2}, 0}, {con(3), []int{1, 2}, 3},
		{x, []int{1, 2}, 1}, {y, []int{1, 2}, 2},
		{not(con(0)), []int{1, 2}, 1}, {not(con(1)), []int{1, 2}, 0}, {not(con(2)), []int{1, 2}, 0}, {not(con(3)), []int{1, 2}, 0},
		{nots(2, con(3)), []int{1, 2}, 1}, {nots(4, y), []int{1, 2}, 1},
		{bin(impl.OpAdd, x, y), []int{3, 2}, 1}, {bin(impl.OpSubtract, x, y), []int{1, 2}, 3}, {bin(impl.OpSubtract, y, x), []int{1, 2}, 1},
		{bin(impl.OpMultiply, x, y), []int{3, 3}, 1}, {bin(impl.OpDivide, x, y), []int{3, 2}, 1}, {bin(impl.OpDivide, y, x), []int{3, 2}, 0},
		{bin(impl.OpLess, x, y), []int{1, 2}, 1}, {bin(impl.OpLess, y, x), []int{1, 2}, 0}, {bin(impl.OpSame, x, y), []int{2, 2}, 1},
		{bin(impl.OpAnd, x, y), []int{1, 2}, 1}, {bin(impl.OpAnd, x, y), []int{1, 0}, 0}, {bin(impl.OpOr, x, y), []int{0, 2}, 1}, {bin(impl.OpOr, x, y), []int{0, 0}, 0},
		{bin(impl.OpSubtract, bin(impl.OpSubtract, x, y), con(3)), []int{1, 2}, 0},
		{bin(impl.OpSubtract, x, bin(impl.OpSubtract, y, con(3))), []int{1, 2}, 2},
		{ordinaryExprs()[15], []int{1, 2}, 0}, {ordinaryExprs()[15], []int{2, 1}, 1}, {ordinaryExprs()[15], []int{0, 3}, 1},
		{bin(impl.OpLess, bin(impl.OpAdd, x, con(1)), x), []int{3, 0}, 1},
	}
	for _, c := range cases {
		wantValue(t, c.e, vars, c.state, c.want)
	}
}

func TestEvalExprAgreesWithTheTables(t *testing.T) {
	leaves := []impl.Expr{con(0), con(1), con(2), con(3), ref("x"), ref("y")}
	for _, e := range smallExprs(leaves, 2) {
		for _, state := range impl.AllStates(2) {
			wantValue(t, e, []string{"x", "y"}, state, valueOf(e, map[string]int{"x": state[0], "y": state[1]}))
		}
	}
	for i, e := range smallExprs([]impl.Expr{con(2), ref("x"), ref("y")}, 3) {
		state := []int{i % 4, i / 4 % 4}
		wantValue(t, e, []string{"x", "y"}, state, valueOf(e, map[string]int{"x": state[0], "y": state[1]}))
	}
}

func TestVariablesThatDoNotExist(t *testing.T) {
	x, y := ref("x"), ref("y")
	cases := []struct {
		e     impl.Expr
		vars  []string
		state []int
		want  int
	}{
		{x, nil, nil, 0},
		{x, nil, []int{3}, 0},
		{x, []string{}, []int{3, 3}, 0},
		{x, []string{"y"}, []int{3}, 0},
		{x, []string{"y", "z"}, []int{3, 3, 3}, 0},
		{x, []string{"xx", "X", "x1", "x ", ""}, []int{3, 3, 3, 3, 3}, 0},
		{x, []string{"x"}, nil, 0},
		{x, []string{"x"}, []int{}, 0},
		{y, []string{"x", "y"}, []int{3}, 0},
		{y, []string{"x", "x", "y"}, []int{3, 3}, 0},
		{y, []string{"x", "y"}, []int{3, 2}, 2},
		{x, []string{"x"}, []int{2, 3, 3}, 2},
		{x, []string{"x", "x"}, []int{1, 3}, 1},
		{x, []string{"y", "x", "x"}, []int{3, 2, 1}, 2},
		{x, []string{"y", "x", "x"}, []int{3, 2}, 2},
		{x, []string{"x", "y", "x"}, []int{0, 3, 3}, 0},
		{x, []string{"", "if", "x"}, []int{1, 2, 3}, 3},
		{not(x), nil, nil, 1},
		{bin(impl.OpAdd, x, con(2)), nil, []int{1}, 2},
		{bin(impl.OpAdd, x, y), []string{"y"}, []int{3}, 3},
		{bin(impl.OpSame, x, con(0)), []string{"y"}, []int{3}, 1},
		{bin(impl.OpDivide, y, x), []string{"y"}, []int{3}, -1},
		{bin(impl.OpDivide, x, y), []string{"y"}, []int{3}, 0},
		{bin(impl.OpDivide, x, x), []string{"y", "x"}, []int{3}, -1},
		{ref("abcdefgh"), []string{"abcdefg", "abcdefgh"}, []int{1, 2}, 2},
	}
	for _, c := range cases {
		wantValue(t, c.e, c.vars, c.state, c.want)
	}
	// The index decides, not what lies behind the end of state.
	long := []int{3, 3, 3}
	wantValue(t, y, []string{"x", "y"}, long[:1], 0)
	names := []string{"y", "x"}
	wantValue(t, x, names[:1], long, 0)
}

func TestElementsOfStateAreWrapped(t *testing.T) {
	x, y := ref("x"), ref("y")
	for _, n := range manyIntegers() {
		word := (n%4 + 4) % 4
		state := []int{n, 2}
		wantValue(t, x, []string{"x", "y"}, state, word)
		wantValue(t, not(x), []string{"x", "y"}, state, [...]int{1, 0, 0, 0}[word])
		wantValue(t, nots(2, x), []string{"x", "y"}, state, [...]int{0, 1, 1, 1}[word])
		wantValue(t, bin(impl.OpLess, x, y), []string{"x", "y"}, state, operatorTables[4].table[word][2])
		wantValue(t, bin(impl.OpSame, x, con(word)), []string{"x"}, state, 1)
		wantValue(t, bin(impl.OpDivide, y, x), []string{"x", "y"}, state, operatorTables[3].table[2][word])
		wantValue(t, bin(impl.OpAdd, x, x), []string{"x", "y"}, state, 2*word%4)
	}
	for _, n := range []int{math.MinInt, math.MaxInt} {
		wantValue(t, bin(impl.OpSubtract, x, y), []string{"x", "y"}, []int{n, -n}, operatorTables[1].table[(n%4+4)%4][(-n%4+4)%4])
		wantValue(t, bin(impl.OpMultiply, x, y), []string{"x", "y"}, []int{n, n}, operatorTables[2].table[(n%4+4)%4][(n%4+4)%4])
	}
}

func TestDivisionByZeroInExprs(t *testing.T) {
	x, y := ref("x"), ref("y")
	vars := []string{"x", "y"}
	zeros := []impl.Expr{
		con(0), y, bin(impl.OpAdd, con(2), con(2)), bin(impl.OpSubtract, x, x), bin(impl.OpMultiply, con(2), con(2)), bin(impl.OpLess, con(3), x), not(con(2)), bin(impl.OpDivide, con(1), con(2)), ref("other"),
	}
	for _, zero := range zeros {
		fails := bin(impl.OpDivide, x, zero)
		for _, y0 := range []int{0, 4, -4, 8, -400, 1 << 62, math.MinInt, math.MaxInt - 3} {
			state := []int{3, y0}
			for _, e := range []impl.Expr{fails, not(fails), nots(2, fails)} {
				wantValue(t, e, vars, state, -1)
			}
			for op := 1; op <= 8; op++ {
				for _, other := range []impl.Expr{con(0), con(1), x, y} {
					wantValue(t, bin(op, fails, other), vars, state, -1)
					wantValue(t, bin(op, other, fails), vars, state, -1)
					wantValue(t, bin(op, other, not(fails)), vars, state, -1)
					wantValue(t, not(bin(op, not(fails), other)), vars, state, -1)
				}
				wantValue(t, bin(op, fails, fails), vars, state, -1)
			}
		}
	}
	// A dividend of 0 is none, and neither is a divisor that is 0 elsewhere only.
	wantValue(t, bin(impl.OpDivide, y, x), vars, []int{1, 0}, 0)
	wantValue(t, bin(impl.OpDivide, x, bin(impl.OpAdd, y, con(1))), vars, []int{3, 0}, 3)
	wantValue(t, bin(impl.OpDivide, x, bin(impl.OpAdd, y, con(1))), vars, []int{3, 3}, -1)
	wantValue(t, bin(impl.OpAnd, con(0), bin(impl.OpDivide, x, y)), vars, []int{3, 1}, 0)
	wantValue(t, bin(impl.OpAnd, con(0), bin(impl.OpDivide, x, y)), vars, []int{3, 0}, -1)
	wantValue(t, bin(impl.OpOr, con(1), bin(impl.OpDivide, x, y)), vars, []int{3, 4}, -1)
}

func TestValuesDependOnlyOnTheVariables(t *testing.T) {
	random := rand.New(rand.NewPCG(4, 2))
	names := []string{"x", "y", "z", "u"}
	for range 20000 {
		e := randomExpr(random, names[:1+random.IntN(3)], 1+random.IntN(3))
		vars := slices.Clone(names)
		random.Shuffle(len(vars), func(i, k int) { vars[i], vars[k] = vars[k], vars[i] })
		words, state := map[string]int{}, []int{}
		for _, name := range vars {
			words[name] = random.IntN(4)
			state = append(state, words[name])
		}
		want := valueOf(e, words)
		wantValue(t, e, vars, state, want)
		occurs := impl.VarsOfExpr(e)
		var fewer []string
		var itsState []int
		for i, name := range vars {
			if slices.Contains(occurs, name) {
				fewer, itsState = append(fewer, name), append(itsState, words[name])
				continue
			}
			changed := slices.Clone(state)
			changed[i] = random.IntN(4000) - 2000
			wantValue(t, e, vars, changed, want)
			renamed := slices.Clone(vars)
			renamed[i] = "other"
			wantValue(t, e, renamed, state, want)
		}
		wantValue(t, e, fewer, itsState, want)
		wantValue(t, e, slices.Concat(fewer, []string{"other"}, fewer), append(itsState, 3, 2, 1, 0), want)
	}
}

func TestValuesOfEqualExprsAreEqual(t *testing.T) {
	for _, e := range append(ordinaryExprs(), invalidExprs()...) {
		for _, state := range impl.AllStates(2) {
			got, ok := impl.EvalExpr(e, []string{"x", "y"}, state)
			same, sameOk := impl.EvalExpr(copyExpr(e), []string{"x", "y"}, slices.Clone(state))
			if got != same || ok != sameOk || !impl.IsWord(got) || !ok && got != 0 {
				t.Errorf("EvalExpr(%v, .., %v) = %d, %v and %d, %v", e, state, got, ok, same, sameOk)
			}
		}
	}
}

// spacious returns a copy of e whose lists go on behind their ends.
func spacious(e impl.Expr) impl.Expr {
	args := make([]impl.Expr, 0, len(e.Args)+2)
	for _, arg := range e.Args {
		args = append(args, spacious(arg))
	}
	e.Args = append(args, ref("behind"), con(-9))[:len(args)]
	return e
}

// withCapacity returns a copy of e in which each list is as long as its capacity.
func withCapacity(e impl.Expr) impl.Expr {
	args := e.Args[:cap(e.Args)]
	e.Args = nil
	for _, arg := range args {
		e.Args = append(e.Args, withCapacity(arg))
	}
	return e
}

func TestExprsAreNotModified(t *testing.T) {
	for _, plain := range append(ordinaryExprs(), append(invalidExprs(), fullTree(6), nots(9, ref("y")))...) {
		e, other := spacious(plain), spacious(plain)
		before := withCapacity(e)
		vars, arrayOfVars := behind([]string{"y", "x", "y"})
		state := []int{5, -3, 2, 77, 78}
		beforeVars, beforeState := slices.Clone(arrayOfVars), slices.Clone(state)
		impl.CountExpr(e)
		impl.DepthOfExpr(e)
		impl.IsValidExpr(e)
		impl.EqualExpr(e, other)
		impl.EvalExpr(e, vars, state[:3])
		names := impl.VarsOfExpr(e)
		want := slices.Clone(names)
		for i := range names[:cap(names)] {
			names[:cap(names)][i] = "changed"
		}
		if !reflect.DeepEqual(withCapacity(e), before) || !reflect.DeepEqual(withCapacity(other), before) {
			t.Errorf("a function or a change of its result modified %v", plain)
		}
		if !slices.Equal(arrayOfVars, beforeVars) || !slices.Equal(state, beforeState) {
			t.Errorf("EvalExpr modified its lists to %q and %v", arrayOfVars, state)
		}
		if again := impl.VarsOfExpr(e); !slices.Equal(again, want) {
			t.Errorf("VarsOfExpr(%v) = %q after a change of the first result %q", plain, again, want)
		}
	}
}

func TestExprsKeepNothing(t *testing.T) {
	e := bin(impl.OpAdd, ref("x"), con(1))
	for range 3 {
		wantValue(t, e, []string{"x"}, []int{1}, 2)
		wantValue(t, e, []string{"x"}, []int{2}, 3)
		wantValue(t, e, nil, nil, 1)
		wantValue(t, con(4), nil, nil, -1)
		// The same memory with another content is another expression.
		wasEqual := impl.EqualExpr(e, bin(impl.OpAdd, ref("x"), con(1)))
		e.Args[1] = not(ref("y"))
		if !wasEqual || impl.EqualExpr(e, bin(impl.OpAdd, ref("x"), con(1))) || impl.CountExpr(e) != 4 || impl.DepthOfExpr(e) != 3 || len(impl.VarsOfExpr(e)) != 2 {
			t.Error("a function remembers an expression")
		}
		e.Args[1] = con(1)
		if impl.CountExpr(e) != 3 || impl.DepthOfExpr(e) != 2 || len(impl.VarsOfExpr(e)) != 1 {
			t.Error("a function remembers an expression")
		}
	}
}

func TestSharedArgs(t *testing.T) {
	pair := []impl.Expr{ref("x"), ref("y")}
	left, right := impl.Expr{Kind: impl.ExprOp, N: impl.OpAdd, Args: pair}, impl.Expr{Kind: impl.ExprOp, N: impl.OpSubtract, Args: pair}
	e := bin(impl.OpMultiply, left, right)
	if impl.CountExpr(e) != 7 || impl.DepthOfExpr(e) != 3 || !impl.IsValidExpr(e) || !impl.EqualExpr(e, copyExpr(e)) || !impl.EqualExpr(copyExpr(e), e) {
		t.Error("an expression with shared Args is not taken for what it is")
	}
	if impl.EqualExpr(e, bin(impl.OpMultiply, left, left)) || impl.EqualExpr(e, bin(impl.OpMultiply, left, bin(impl.OpSubtract, ref("x"), ref("x")))) {
		t.Error("EqualExpr of different expressions with shared Args is true")
	}
	wantValue(t, e, []string{"x", "y"}, []int{3, 2}, 1)
	// Lists of different lengths at one place.
	one, two := impl.Expr{Args: pair[:1]}, impl.Expr{Args: pair}
	whole := impl.Expr{Args: []impl.Expr{one, two, {Args: pair[1:]}}}
	if impl.CountExpr(whole) != 8 || impl.DepthOfExpr(whole) != 3 || !slices.Equal(impl.VarsOfExpr(whole), []string{"x", "y"}) || impl.EqualExpr(one, two) {
		t.Error("lists of different lengths are taken for one")
	}
	for _, other := range []impl.Expr{{Args: pair[1:]}, two} {
		if got := impl.VarsOfExpr(impl.Expr{Args: []impl.Expr{one, other}}); !slices.Equal(got, []string{"x", "y"}) {
			t.Errorf("VarsOfExpr of parts of one list is %q", got)
		}
	}
	// Written out, it has 2 to the 41 minus 1 nodes.
	e = ref("x")
	for range 40 {
		e = impl.Expr{Kind: impl.ExprOp, N: impl.OpAdd, Args: []impl.Expr{e, e}}
	}
	if impl.CountExpr(e) != 1<<41-1 || impl.DepthOfExpr(e) != 41 || impl.IsValidExpr(e) || !slices.Equal(impl.VarsOfExpr(e), []string{"x"}) || !impl.EqualExpr(e, e) {
		t.Error("an expression of much shared memory is not taken for what it is")
	}
	wantValue(t, e, []string{"x"}, []int{1}, -1)
	// The number of nodes is no int any more.
	for range 60 {
		e = impl.Expr{Kind: impl.ExprOp, N: impl.OpAdd, Args: []impl.Expr{e, e}}
		wantValidity(t, e, false)
		if impl.CountExpr(e) < 1<<41-1 || impl.DepthOfExpr(e) != 1+impl.DepthOfExpr(e.Args[0]) {
			t.Errorf("CountExpr and DepthOfExpr are %d and %d", impl.CountExpr(e), impl.DepthOfExpr(e))
		}
	}
}

func TestLargeExprs(t *testing.T) {
	deep, other := nots(100000, ref("x")), nots(100000, ref("y"))
	if impl.CountExpr(deep) != 100001 || impl.DepthOfExpr(deep) != 100001 || impl.IsValidExpr(deep) {
		t.Error("a deep expression is not taken for what it is")
	}
	if !impl.EqualExpr(deep, nots(100000, ref("x"))) || impl.EqualExpr(deep, other) || impl.EqualExpr(deep, deep.Args[0]) {
		t.Error("EqualExpr of deep expressions")
	}
	if got := impl.VarsOfExpr(bin(1, other, deep)); !slices.Equal(got, []string{"x", "y"}) {
		t.Errorf("VarsOfExpr of a deep expression is %q", got)
	}
	wantValue(t, deep, []string{"x"}, []int{1}, -1)
	wide := impl.Expr{Kind: impl.ExprOp, N: 1, Args: slices.Repeat([]impl.Expr{ref("x"), not(ref("y"))}, 50000)}
	if impl.CountExpr(wide) != 150001 || impl.DepthOfExpr(wide) != 3 || impl.IsValidExpr(wide) || len(impl.VarsOfExpr(wide)) != 2 || !impl.EqualExpr(wide, wide) {
		t.Error("a wide expression is not taken for what it is")
	}
	wantValue(t, wide, []string{"x"}, []int{1}, -1)
}

func TestExprsThatContainThemselves(t *testing.T) {
	endless := func(kind int, name string) impl.Expr {
		args := []impl.Expr{{Kind: kind, N: 1}, ref(name)}
		args[0].Args = args
		return impl.Expr{Kind: kind, N: 1, Args: args}
	}
	for _, kind := range []int{impl.ExprConst, impl.ExprVar, impl.ExprOp, impl.ExprNot, 0, -7} {
		e := endless(kind, "x")
		for _, whole := range []impl.Expr{e, not(e), bin(1, con(1), e), bin(1, e, e)} {
			wantValidity(t, whole, false)
			wantValue(t, whole, []string{"x"}, []int{1}, -1)
			if impl.CountExpr(whole) <= impl.MaxExprNodes || impl.DepthOfExpr(whole) <= impl.MaxExprDepth {
				t.Errorf("CountExpr and DepthOfExpr of an endless expression are %d and %d", impl.CountExpr(whole), impl.DepthOfExpr(whole))
			}
			if !slices.Contains(impl.VarsOfExpr(whole), "x") || !impl.EqualExpr(whole, whole) {
				t.Error("VarsOfExpr or EqualExpr of an endless expression")
			}
		}
		if !impl.EqualExpr(e, endless(kind, "x")) || impl.EqualExpr(e, endless(kind, "y")) || !impl.EqualExpr(e, copyOnce(e)) || impl.EqualExpr(e, bin(1, con(1), ref("x"))) {
			t.Error("EqualExpr of endless expressions")
		}
	}
}

// copyOnce writes an endless expression out by one level.
func copyOnce(e impl.Expr) impl.Expr {
	e.Args = slices.Clone(e.Args)
	return e
}
