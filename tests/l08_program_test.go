package tests

import (
	"fmt"
	"math"
	"math/rand/v2"
	"reflect"
	"slices"
	"strings"
	"testing"

	"loop.example/g00514/impl"
)

func assign(name string, e impl.Expr) impl.Stmt {
	return impl.Stmt{Kind: impl.StAssign, Name: name, Expr: e}
}

func emit(e impl.Expr) impl.Stmt { return impl.Stmt{Kind: impl.StEmit, Expr: e} }

func when(e impl.Expr, body, otherwise []impl.Stmt) impl.Stmt {
	return impl.Stmt{Kind: impl.StIf, Expr: e, Body: body, Else: otherwise}
}

func while(e impl.Expr, body ...impl.Stmt) impl.Stmt {
	return impl.Stmt{Kind: impl.StWhile, Expr: e, Body: body}
}

func block(list ...impl.Stmt) []impl.Stmt { return list }

func prog(vars string, body ...impl.Stmt) impl.Program {
	return impl.Program{Vars: strings.Fields(vars), Body: body}
}

// emits returns the given number of emissions.
func emits(number int) []impl.Stmt { return slices.Repeat(block(emit(con(1))), number) }

// copyStmts shares no memory with list and has nil for each empty list.
func copyStmts(list []impl.Stmt) []impl.Stmt {
	var all []impl.Stmt
	for _, s := range list {
		s.Expr, s.Body, s.Else = copyExpr(s.Expr), copyStmts(s.Body), copyStmts(s.Else)
		all = append(all, s)
	}
	return all
}

func copyProgram(p impl.Program) impl.Program {
	return impl.Program{Vars: append([]string(nil), p.Vars...), Body: copyStmts(p.Body)}
}

// stmtsOf returns pointers to the statements of a list, also to those in Body and Else.
func stmtsOf(list []impl.Stmt) []*impl.Stmt {
	var all []*impl.Stmt
	for i := range list {
		all = append(all, &list[i])
		all = append(all, stmtsOf(list[i].Body)...)
		all = append(all, stmtsOf(list[i].Else)...)
	}
	return all
}

// changedPrograms returns all copies of p in which change was applied to one statement.
func changedPrograms(p impl.Program, change func(*impl.Stmt)) []impl.Program {
	var changed []impl.Program
	for k := range stmtsOf(p.Body) {
		c := copyProgram(p)
		change(stmtsOf(c.Body)[k])
		changed = append(changed, c)
	}
	return changed
}

// ordinaryPrograms are valid, and no two of them are equal.
func ordinaryPrograms() []impl.Program {
	x, y := ref("x"), ref("y")
	inc := func(name string) impl.Stmt { return assign(name, bin(impl.OpAdd, ref(name), con(1))) }
	return []impl.Program{
		{}, prog("x"), prog("y"), prog("x y"), prog("y x"), prog("z9999999 c"),
		prog("", emit(con(0))), prog("", emit(con(0)), emit(con(0))), prog("", while(con(1))), prog("", when(con(1), nil, nil)),
		prog("x", emit(x)), prog("y", emit(y)), prog("x y", emit(x)), prog("x y", emit(y)), prog("x", assign("x", x)), prog("x y", assign("x", y)), prog("x y", assign("y", x)),
		prog("x", while(bin(impl.OpLess, x, con(3)), inc("x")), emit(x)),
		prog("x", while(bin(impl.OpLess, x, con(3)), inc("x"), emit(x))),
		prog("x", assign("x", con(3)), emit(x)), prog("x", emit(x), assign("x", con(3))),
		prog("x y", assign("x", bin(impl.OpAdd, x, y)), emit(x)),
		prog("x y", when(y, block(inc("x")), block(inc("x"))), emit(x)),
		prog("x y", when(y, block(inc("x")), nil), emit(x)),
		prog("x y", when(y, nil, block(inc("x"))), emit(x)),
		prog("x y", when(y, nil, nil), inc("x"), emit(x)),
		prog("x y", when(y, block(emit(x)), nil), emit(con(1))),
		prog("x y", while(y, assign("y", bin(impl.OpSubtract, y, con(1))), inc("x"))),
		prog("x", assign("x", bin(impl.OpDivide, x, con(2)))),
		prog("x", emit(bin(impl.OpDivide, con(1), con(0)))),
		prog("x y", while(x, when(y, block(inc("x"), emit(y)), block(inc("y"), emit(x))), inc("x")), emit(not(x))),
		prog("x y", while(x, while(y, inc("x"), inc("y")), when(con(0), nil, block(emit(y), while(con(1))))), inc("x")),
		prog("x y", when(x, block(when(y, block(inc("x")), block(inc("y")))), block(while(y, emit(nots(4, x)), inc("y"))))),
		prog("x", emits(8)...),
	}
}

func wantProgram(t *testing.T, p impl.Program, want bool) {
	t.Helper()
	if impl.IsValidProgram(p) != want {
		t.Errorf("IsValidProgram(%.400s) is %v", fmt.Sprint(p), !want)
	}
}

// wantExtent takes the number of statements and the depth.
func wantExtent(t *testing.T, list []impl.Stmt, count, depth int) {
	t.Helper()
	if gotCount, gotDepth := impl.CountStmts(list), impl.BlockDepth(list); gotCount != count || gotDepth != depth {
		t.Errorf("CountStmts and BlockDepth of %.400s are %d and %d; want %d and %d", fmt.Sprint(list), gotCount, gotDepth, count, depth)
	}
}

func wantAssigned(t *testing.T, list []impl.Stmt, want ...string) {
	t.Helper()
	if got := impl.AssignedVars(list); !slices.Equal(got, want) {
		t.Errorf("AssignedVars(%.400s) = %q; want %q", fmt.Sprint(list), got, want)
	}
}

func wantEqualPrograms(t *testing.T, p, q impl.Program, want bool) {
	t.Helper()
	if impl.EqualProgram(p, q) != want || impl.EqualProgram(q, p) != want {
		t.Errorf("EqualProgram(%.400s, %.400s) is %v", fmt.Sprint(p), fmt.Sprint(q), !want)
	}
}

// depthByText is the sentence of the document on BlockDepth.
func depthByText(list []impl.Stmt) int {
	most := 0
	for _, s := range list {
		for _, lower := range [][]impl.Stmt{s.Body, s.Else} {
			if len(lower) > 0 {
				most = max(most, depthByText(lower))
			}
		}
	}
	return 1 + most
}

// isValidByText is the sentence of the document on IsValidProgram. It relies on IsValidExpr and VarsOfExpr only.
func isValidByText(p impl.Program) bool {
	if len(p.Vars) > 2 || len(stmtsOf(p.Body)) > 8 || depthByText(p.Body) > 3 {
		return false
	}
	for i, name := range p.Vars {
		if !nameSyntax.MatchString(name) || slices.Contains(reserved, name) || slices.Contains(p.Vars[:i], name) {
			return false
		}
	}
	for _, s := range stmtsOf(p.Body) {
		hasName, hasBody, hasElse := s.Kind == 1, s.Kind == 2 || s.Kind == 3, s.Kind == 2
		switch {
		case s.Kind < 1 || s.Kind > 4,
			hasName && !slices.Contains(p.Vars, s.Name), !hasName && s.Name != "",
			!hasBody && len(s.Body) > 0, !hasElse && len(s.Else) > 0,
			!impl.IsValidExpr(s.Expr):
			return false
		}
		for _, name := range impl.VarsOfExpr(s.Expr) {
			if !slices.Contains(p.Vars, name) {
				return false
			}
		}
	}
	return true
}

// shapes returns all lists of the given number of statements that differ in their kinds and blocks.
func shapes(number int) [][]impl.Stmt {
	if number == 0 {
		return [][]impl.Stmt{nil}
	}
	var all [][]impl.Stmt
	for within := range number {
		rests := shapes(number - 1 - within)
		for _, first := range shapesOfOne(within) {
			for _, rest := range rests {
				all = append(all, append(block(first), rest...))
			}
		}
	}
	return all
}

// shapesOfOne returns the statements that have the given number of statements in their blocks.
func shapesOfOne(within int) []impl.Stmt {
	var all []impl.Stmt
	if within == 0 {
		all = append(all, emit(con(1)))
	}
	for _, body := range shapes(within) {
		all = append(all, while(con(1), body...))
	}
	for inBody := range within + 1 {
		for _, body := range shapes(inBody) {
			for _, otherwise := range shapes(within - inBody) {
				all = append(all, when(con(1), body, otherwise))
			}
		}
	}
	return all
}

func TestConstantsOfPrograms(t *testing.T) {
	if impl.MaxVars != 2 || impl.MaxStmts != 8 || impl.MaxBlockDepth != 3 {
		t.Errorf("the limits are %d, %d and %d", impl.MaxVars, impl.MaxStmts, impl.MaxBlockDepth)
	}
	kinds := []int{impl.StAssign, impl.StIf, impl.StWhile, impl.StEmit}
	if !slices.Equal(kinds, []int{1, 2, 3, 4}) {
		t.Errorf("the kinds have the numbers %v", kinds)
	}
}

func TestCountStmtsAndBlockDepth(t *testing.T) {
	one, x := emit(con(1)), con(1)
	cases := []struct {
		list         []impl.Stmt
		count, depth int
	}{
		{nil, 0, 1},
		{block(), 0, 1},
		{block(one), 1, 1},
		{emits(3), 3, 1},
		{block(while(x)), 1, 1},
		{block(impl.Stmt{Kind: impl.StWhile, Expr: x, Body: block()}), 1, 1},
		{block(when(x, nil, nil)), 1, 1},
		{block(when(x, block(), block())), 1, 1},
		{block(while(x, one)), 2, 2},
		{block(when(x, block(one), nil)), 2, 2},
		{block(when(x, nil, block(one))), 2, 2},
		{block(when(x, block(one), block(one, one))), 4, 2},
		{block(when(x, block(one, one), block(one)), one), 5, 2},
		{block(one, when(x, emits(4), emits(5)), one), 12, 2},
		{block(while(x, while(x))), 2, 2},
		{block(while(x, while(x, one))), 3, 3},
		{block(when(x, nil, block(when(x, nil, block(one))))), 3, 3},
		{block(when(x, block(while(x, one)), emits(3))), 6, 3},
		{block(when(x, emits(3), block(while(x, one)))), 6, 3},
		{block(while(x, one), while(x, while(x, one)), one), 6, 3},
		{block(while(x, while(x, one)), while(x, one), one), 6, 3},
		{block(while(x, while(x, while(x)))), 3, 3},
		{block(while(x, while(x, while(x, one)))), 4, 4},
		{block(when(x, block(while(x, when(x, nil, block(one)))), block(while(x)))), 5, 4},
		// Statements that are not valid.
		{block(impl.Stmt{}), 1, 1},
		{block(impl.Stmt{}, impl.Stmt{Kind: -7}, impl.Stmt{Kind: 5}), 3, 1},
		{block(impl.Stmt{Body: emits(2)}), 3, 2},
		{block(impl.Stmt{Else: emits(2)}), 3, 2},
		{block(impl.Stmt{Kind: impl.StAssign, Name: "x", Body: emits(2), Else: emits(3)}), 6, 2},
		{block(impl.Stmt{Kind: impl.StEmit, Else: block(impl.Stmt{Kind: 9, Body: emits(1)})}), 3, 3},
		{block(impl.Stmt{Kind: impl.StWhile, Else: emits(1)}), 2, 2},
		{block(impl.Stmt{Kind: -7, Body: block(impl.Stmt{Kind: -7, Body: block(impl.Stmt{Kind: -7, Else: emits(20)})})}), 23, 4},
		{block(impl.Stmt{Expr: fullTree(4)}), 1, 1},
	}
	for _, c := range cases {
		wantExtent(t, c.list, c.count, c.depth)
	}
}

func TestExtentsOfAllShapes(t *testing.T) {
	for number := range 6 {
		for _, list := range shapes(number) {
			count, depth := impl.CountStmts(list), impl.BlockDepth(list)
			if count != number || depth != depthByText(list) {
				t.Fatalf("CountStmts and BlockDepth of %v are %d and %d", list, count, depth)
			}
			p := impl.Program{Body: list}
			if impl.IsValidProgram(p) != (depth <= 3) || !impl.EqualProgram(p, copyProgram(p)) || len(impl.AssignedVars(list)) != 0 {
				t.Fatalf("a function takes %v for another list", list)
			}
		}
	}
}

func TestAllShapesAreDifferentPrograms(t *testing.T) {
	var all [][]impl.Stmt
	for number := range 4 {
		all = append(all, shapes(number)...)
	}
	for i, list := range all {
		for k, other := range all {
			wantEqualPrograms(t, prog("x", list...), prog("x", other...), i == k)
		}
	}
}

func TestNumbersOfStmts(t *testing.T) {
	x := ref("x")
	for number := range 30 {
		all := [][]impl.Stmt{emits(number)}
		for within := 1; within < number; within++ {
			before := emits(number - 1 - within)
			all = append(all,
				append(before[:len(before):len(before)], while(x, emits(within)...)),
				append(block(while(x, emits(within)...)), before...),
				append(before[:len(before):len(before)], when(x, emits(within), nil)),
				append(before[:len(before):len(before)], when(x, nil, emits(within))),
				append(block(when(x, nil, emits(within))), before...),
				block(when(x, before, emits(within))),
				block(when(x, emits(within), before)))
			if len(before) > 0 {
				all = append(all,
					block(while(x, append(before[1:], while(x, emits(within)...))...)),
					block(while(x, when(x, before[1:], emits(within)))),
					block(while(x, emits(within)...), when(x, nil, before[1:])))
			}
		}
		for _, list := range all {
			if impl.CountStmts(list) != number {
				t.Errorf("CountStmts(%v) = %d; want %d", list, impl.CountStmts(list), number)
			}
			wantProgram(t, prog("x", list...), number <= 8)
		}
	}
	// The statements of a program are counted together, with no regard to their order and blocks.
	wantProgram(t, prog("", when(con(1), emits(3), emits(4))), true)
	wantProgram(t, prog("", when(con(1), emits(4), emits(4))), false)
	wantProgram(t, prog("", while(con(1), emits(3)...), while(con(1), emits(3)...)), true)
	wantProgram(t, prog("", while(con(1), emits(3)...), while(con(1), emits(3)...), emit(con(1))), false)
}

func TestDepthsOfBlocks(t *testing.T) {
	wraps := []func([]impl.Stmt) []impl.Stmt{
		func(list []impl.Stmt) []impl.Stmt { return block(while(con(1), list...)) },
		func(list []impl.Stmt) []impl.Stmt { return block(when(con(1), list, nil)) },
		func(list []impl.Stmt) []impl.Stmt { return block(when(con(1), nil, list)) },
	}
	for choice := range 3 * 3 * 3 * 3 * 3 {
		list, empty := emits(1), []impl.Stmt(nil)
		rest := choice
		for depth := 1; depth <= 6; depth++ {
			wantExtent(t, list, depth, depth)
			wantProgram(t, impl.Program{Body: list}, depth <= 3)
			wantProgram(t, impl.Program{Body: append(emits(1), list...)}, depth <= 3)
			list = wraps[rest%3](list)
			// An empty block is no deeper level.
			empty = wraps[rest%3](empty)
			wantExtent(t, empty, depth, depth)
			wantProgram(t, impl.Program{Body: empty}, depth <= 3)
			rest /= 3
		}
	}
	// The deepest block counts, wherever it is.
	deep := block(while(con(1), while(con(1), while(con(1), emit(con(1))))))
	for _, list := range [][]impl.Stmt{
		deep, append(emits(4), deep...), append(deep[:1:1], emits(4)...), block(when(con(1), deep[0].Body, emits(2))), block(when(con(1), emits(2), deep[0].Body)),
		block(while(con(1)), deep[0], while(con(1), emits(1)...)),
	} {
		wantProgram(t, impl.Program{Body: list}, false)
		if impl.BlockDepth(list) != 4 || impl.CountStmts(list) > 8 {
			t.Errorf("CountStmts and BlockDepth of %v are %d and %d", list, impl.CountStmts(list), impl.BlockDepth(list))
		}
	}
}

func TestValidPrograms(t *testing.T) {
	for _, p := range ordinaryPrograms() {
		wantProgram(t, p, true)
		wantProgram(t, copyProgram(p), true)
	}
	for op := 1; op <= 8; op++ {
		wantProgram(t, prog("x y", emit(bin(op, ref("x"), ref("y")))), true)
	}
}

func TestVarsOfPrograms(t *testing.T) {
	for _, list := range listsOver([]string{"x", "y", "x1", "if", "", "X", "a"}, 3) {
		valid := len(list) <= 2 && impl.AllDistinct(list)
		for _, name := range list {
			valid = valid && slices.Contains([]string{"x", "y", "x1"}, name)
		}
		wantProgram(t, impl.Program{Vars: list}, valid)
		wantProgram(t, impl.Program{Vars: list, Body: emits(2)}, valid)
	}
	for number := range 12 {
		wantProgram(t, prog(strings.Join(strings.Split("cdefghijklmno"[:number], ""), " ")), number <= 2)
	}
	for _, name := range slices.Concat(stringsOver("abif09Z ", 4), reserved, []string{"toolongn", "toolongna", "abcdefgh", "abcdefghi", "x\n", "\x00", "\xff", "é"}) {
		valid := nameSyntax.MatchString(name) && !slices.Contains(reserved, name)
		wantProgram(t, impl.Program{Vars: []string{name}}, valid)
		wantProgram(t, impl.Program{Vars: []string{"x", name}}, valid)
		wantProgram(t, impl.Program{Vars: []string{name, "x"}}, valid)
		wantProgram(t, impl.Program{Vars: []string{name}, Body: block(assign(name, ref(name)))}, valid)
	}
	wantProgram(t, impl.Program{Vars: []string{"x", "x"}, Body: block(emit(ref("x")))}, false)
	wantProgram(t, prog("x y z", emit(ref("x"))), false)
	wantProgram(t, impl.Program{Vars: slices.Repeat([]string{"x"}, 100000)}, false)
	// What lies behind the end of the list is no variable.
	three := []string{"x", "y", "z"}
	wantProgram(t, impl.Program{Vars: three[:2]}, true)
	wantProgram(t, impl.Program{Vars: three[:2], Body: block(emit(ref("z")))}, false)
	wantProgram(t, impl.Program{Vars: three[:1], Body: block(assign("y", con(1)))}, false)
}

// inEveryPlace returns programs of the variables x and y with the statement at different places. None has more than 4 other statements.
func inEveryPlace(s impl.Stmt) []impl.Program {
	x, one := ref("x"), emit(con(1))
	return []impl.Program{
		prog("x y", s), prog("x y", one, s), prog("x y", s, one), prog("x y", one, one, s, one, one),
		prog("x y", while(x, s)), prog("x y", while(x, one, s), one),
		prog("x y", when(x, block(s), nil)), prog("x y", when(x, nil, block(s))), prog("x y", when(x, block(one), block(one, s))), prog("x y", when(x, block(s, one), block(one))),
		prog("x y", while(x, when(x, block(one), block(s)))), prog("x y", while(x, while(x, s))), prog("x y", one, when(x, nil, block(when(x, nil, block(one, s))))),
	}
}

func TestKindsOfStmts(t *testing.T) {
	for _, kind := range append(manyIntegers(), noOperators()...) {
		e := con(1)
		wantProgram(t, prog("x", impl.Stmt{Kind: kind, Expr: e}), kind >= 2 && kind <= 4)
		wantProgram(t, prog("x", impl.Stmt{Kind: kind, Name: "x", Expr: e}), kind == 1)
		wantProgram(t, prog("x", impl.Stmt{Kind: kind, Expr: e, Body: emits(1)}), kind == 2 || kind == 3)
		wantProgram(t, prog("x", impl.Stmt{Kind: kind, Expr: e, Else: emits(1)}), kind == 2)
		wantProgram(t, prog("x", impl.Stmt{Kind: kind, Expr: e, Body: emits(1), Else: emits(1)}), kind == 2)
		wantProgram(t, prog("x", impl.Stmt{Kind: kind, Name: "x", Expr: e, Body: emits(1)}), false)
		wantProgram(t, prog("x", impl.Stmt{Kind: kind, Name: "x", Expr: e, Else: emits(1)}), false)
		wantProgram(t, prog("x", impl.Stmt{Kind: kind}), false)
	}
	for _, kind := range []int{0, 5, -1, -4, 257, 1<<32 + 1, math.MinInt, math.MaxInt} {
		for _, s := range []impl.Stmt{{Kind: kind, Expr: con(1)}, {Kind: kind, Name: "x", Expr: con(1)}, {Kind: kind, Expr: con(1), Body: emits(1)}} {
			for _, p := range inEveryPlace(s) {
				wantProgram(t, p, false)
			}
		}
	}
}

func TestFieldsThatAKindDoesNotUse(t *testing.T) {
	x, one := ref("x"), con(1)
	bases := []impl.Stmt{assign("x", one), when(x, emits(1), emits(1)), when(x, nil, nil), while(x, emits(1)...), while(x), emit(x)}
	names := []string{"x", "y", "z", "if", "emit", "while", " ", "?", "\x00", "\xff"}
	blocks := [][]impl.Stmt{emits(1), emits(2), block(assign("x", one)), block(while(x)), block(impl.Stmt{})}
	for _, base := range bases {
		for _, p := range inEveryPlace(base) {
			wantProgram(t, p, isValidByText(p))
		}
		wantProgram(t, prog("x y", base), true)
		wrong := func(change func(*impl.Stmt)) {
			t.Helper()
			s := base
			change(&s)
			for _, p := range inEveryPlace(s) {
				wantProgram(t, p, false)
			}
		}
		if base.Kind != impl.StAssign {
			for _, name := range names {
				wrong(func(s *impl.Stmt) { s.Name = name })
			}
		}
		for _, list := range blocks {
			if base.Kind != impl.StIf {
				wrong(func(s *impl.Stmt) { s.Else = list })
			}
			if base.Kind == impl.StAssign || base.Kind == impl.StEmit {
				wrong(func(s *impl.Stmt) { s.Body = list })
				wrong(func(s *impl.Stmt) { s.Body, s.Else = list, list })
			}
		}
	}
}

func TestEmptyListsAreLikeNil(t *testing.T) {
	emptied := func(s *impl.Stmt) {
		if len(s.Body) == 0 {
			s.Body = []impl.Stmt{}
		}
		if len(s.Else) == 0 {
			s.Else = make([]impl.Stmt, 0, 5)
		}
		if len(s.Expr.Args) == 0 {
			s.Expr.Args = []impl.Expr{}
		}
	}
	for _, p := range ordinaryPrograms() {
		for _, c := range changedPrograms(p, emptied) {
			wantProgram(t, c, true)
			wantEqualPrograms(t, p, c, true)
			wantExtent(t, c.Body, impl.CountStmts(p.Body), impl.BlockDepth(p.Body))
			wantAssigned(t, c.Body, impl.AssignedVars(p.Body)...)
		}
	}
	wantEqualPrograms(t, impl.Program{}, impl.Program{Vars: []string{}, Body: []impl.Stmt{}}, true)
	wantProgram(t, impl.Program{Vars: []string{}, Body: []impl.Stmt{}}, true)
	wantProgram(t, prog("x", assign("x", con(1)), when(con(1), block(), block()), emit(con(1))), true)
	// What lies behind the end of a list is no statement.
	long := block(emit(con(1)), assign("x", con(1)), impl.Stmt{Kind: 9})
	for _, s := range []impl.Stmt{{Kind: 1, Name: "x", Expr: con(1)}, {Kind: 2, Expr: con(1)}, {Kind: 3, Expr: con(1)}, {Kind: 4, Expr: con(1)}} {
		plain := prog("x", s)
		s.Body, s.Else = long[:0], long[:0]
		wantProgram(t, prog("x", s), true)
		wantEqualPrograms(t, prog("x", s), plain, true)
		wantExtent(t, block(s), 1, 1)
	}
	wantProgram(t, prog("x", long[:2]...), true)
	wantExtent(t, long[:1], 1, 1)
	wantAssigned(t, long[:1])
	wantEqualPrograms(t, prog("x", long[:1]...), prog("x", emit(con(1))), true)
	wantEqualPrograms(t, prog("x", long[:2]...), prog("x", long...), false)
}

func TestNamesOfAssignments(t *testing.T) {
	for _, name := range []string{"", "z", "xx", "x1", "X", "Y", "x ", " x", "x\x00", "xy", "x y", "if", "a", "vars", "emit", "\xff", "toolongname"} {
		for _, p := range inEveryPlace(assign(name, con(1))) {
			wantProgram(t, p, false)
			p.Vars = nil
			wantProgram(t, p, false)
		}
	}
	for _, name := range []string{"x", "y"} {
		for _, p := range inEveryPlace(assign(name, con(1))) {
			wantProgram(t, p, true)
			if got := impl.AssignedVars(p.Body); !slices.Equal(got, []string{name}) {
				t.Errorf("AssignedVars(%v) = %q", p.Body, got)
			}
		}
	}
	wantProgram(t, prog("x", assign("x", con(1))), true)
	wantProgram(t, prog("y", assign("x", con(1))), false)
	wantProgram(t, prog("", assign("x", con(1))), false)
	wantProgram(t, prog("", assign("", con(1))), false)
	wantProgram(t, prog("x", assign("x", con(1)), assign("y", con(1))), false)
	wantProgram(t, prog("abcdefgh", assign("abcdefgh", con(1))), true)
	wantProgram(t, prog("abcdefgh", assign("abcdefg", con(1))), false)
}

// withExpr returns statements of all kinds that evaluate e.
func withExpr(e impl.Expr) []impl.Stmt {
	return block(assign("x", e), emit(e), while(e), while(e, emits(1)...), when(e, nil, nil), when(e, emits(1), nil), when(e, nil, emits(1)))
}

func wantExprInPrograms(t *testing.T, e impl.Expr, want bool) {
	t.Helper()
	for _, s := range withExpr(e) {
		for _, p := range inEveryPlace(s) {
			wantProgram(t, p, want && impl.BlockDepth(p.Body) <= 3)
		}
	}
}

func TestExprsOfPrograms(t *testing.T) {
	for _, e := range ordinaryExprs() {
		wantExprInPrograms(t, e, !slices.Contains(impl.VarsOfExpr(e), "z9999999"))
	}
	for _, e := range invalidExprs() {
		wantExprInPrograms(t, e, false)
	}
	x, y, z := ref("x"), ref("y"), ref("z")
	for _, e := range []impl.Expr{
		z, not(z), nots(4, z), ref("xx"), ref("x1"), ref("abcdefgh"), bin(impl.OpAdd, x, z), bin(impl.OpAdd, z, x), bin(impl.OpSame, z, z),
		bin(impl.OpMultiply, bin(impl.OpAdd, x, y), bin(impl.OpAdd, y, not(z))), bin(impl.OpAnd, con(0), z), bin(impl.OpMultiply, z, con(0)), bin(impl.OpSubtract, z, z),
	} {
		wantValidity(t, e, true)
		wantExprInPrograms(t, e, false)
	}
	// Each variable of the program may occur, and no other one.
	for _, e := range []impl.Expr{x, bin(impl.OpLess, x, con(1)), bin(impl.OpLess, con(1), not(x))} {
		wantProgram(t, prog("x", emit(e)), true)
		wantProgram(t, prog("x y", emit(e)), true)
		wantProgram(t, prog("y x", emit(e)), true)
		wantProgram(t, prog("y", emit(e)), false)
		wantProgram(t, prog("", emit(e)), false)
		wantProgram(t, prog("y z", emit(e)), false)
	}
	// An assignment makes no variable.
	wantProgram(t, prog("x", assign("x", con(1)), emit(y)), false)
	wantProgram(t, prog("x y", assign("y", con(1)), emit(y)), true)
	// The limits of expressions.
	four, five := not(bin(1, con(1), con(1))), bin(1, bin(1, con(1), con(1)), con(1))
	wantExprInPrograms(t, bin(1, fullTree(3), four), true)
	wantExprInPrograms(t, bin(1, fullTree(3), five), false)
	wantExprInPrograms(t, nots(4, x), true)
	wantExprInPrograms(t, nots(5, x), false)
	// Each expression has limits of its own.
	large := emit(bin(1, fullTree(3), four))
	wantProgram(t, prog("", slices.Repeat(block(large), 8)...), true)
}

// someFaults make a valid statement of the variables x and y wrong, or leave it as valid as it was.
func someFaults(random *rand.Rand) func(*impl.Stmt) {
	names := []string{"x", "y", "z", "", "if", "X"}
	name, number := names[random.IntN(len(names))], random.IntN(7)-1
	e := randomExpr(random, []string{"x", "y", "z"}[:2+random.IntN(2)], 1+random.IntN(4))
	return []func(*impl.Stmt){
		func(s *impl.Stmt) { s.Kind = number }, func(s *impl.Stmt) { s.Name = name }, func(s *impl.Stmt) { s.Expr = e }, func(s *impl.Stmt) { s.Expr.N = number },
		func(s *impl.Stmt) { s.Body = nil }, func(s *impl.Stmt) { s.Else = []impl.Stmt{} }, func(s *impl.Stmt) { s.Body, s.Else = s.Else, s.Body },
		func(s *impl.Stmt) { s.Body = append(s.Body, emit(e)) }, func(s *impl.Stmt) { s.Else = append(s.Else, assign(name, e)) },
		func(s *impl.Stmt) { s.Expr.Name = name }, func(s *impl.Stmt) { s.Body = block(while(e, s.Body...)) },
	}[random.IntN(11)]
}

// randomStmts returns a list of at most the given number of statements and levels, all of them valid for the variables.
func randomStmts(random *rand.Rand, vars []string, number, depth int) []impl.Stmt {
	var list []impl.Stmt
	for number > 0 && random.IntN(8) > 0 {
		e := randomExpr(random, []string{"x"}, 1)
		if len(vars) > 0 {
			e = randomExpr(random, vars, 1+random.IntN(3))
		} else if e.Kind == impl.ExprVar {
			e = con(1)
		}
		s := emit(e)
		switch kind := random.IntN(4); {
		case kind == 0 && len(vars) > 0:
			s = assign(vars[random.IntN(len(vars))], e)
		case kind == 1 && depth > 1:
			s = while(e, randomStmts(random, vars, number-1, depth-1)...)
		case kind == 2 && depth > 1:
			half := random.IntN(number)
			s = when(e, randomStmts(random, vars, half, depth-1), randomStmts(random, vars, number-1-half, depth-1))
		}
		list = append(list, s)
		number -= len(stmtsOf(block(s)))
	}
	return list
}

func TestRandomPrograms(t *testing.T) {
	random := rand.New(rand.NewPCG(8, 1))
	valid, notValid := 0, 0
	for range 60000 {
		p := prog([]string{"", "x", "y", "x y", "y x"}[random.IntN(5)])
		p.Body = randomStmts(random, p.Vars, 1+random.IntN(8), 1+random.IntN(3))
		if !impl.IsValidProgram(p) {
			t.Fatalf("IsValidProgram(%v) is false", p)
		}
		for range random.IntN(3) {
			if list := stmtsOf(p.Body); len(list) > 0 {
				someFaults(random)(list[random.IntN(len(list))])
			}
			p.Body = copyStmts(p.Body)
		}
		want := isValidByText(p)
		if impl.IsValidProgram(p) != want {
			t.Fatalf("IsValidProgram(%v) is %v", p, !want)
		}
		if !want {
			notValid++
			continue
		}
		valid++
		if len(p.Vars) > 2 || impl.CountStmts(p.Body) > 8 || impl.BlockDepth(p.Body) > 3 || len(impl.Without(impl.AssignedVars(p.Body), p.Vars)) > 0 {
			t.Fatalf("%v is valid", p)
		}
	}
	if min(valid, notValid) < 15000 {
		t.Errorf("%d programs are valid, and %d are not", valid, notValid)
	}
}

// differentPrograms are valid and invalid programs, and no two of them are equal.
func differentPrograms() []impl.Program {
	all := ordinaryPrograms()
	for _, vars := range [][]string{{""}, {"", ""}, {"x", "x"}, {"x", "y", "z"}, {"z", "y", "x"}, {"x y"}, {"x\x00"}, {"\xff"}, {"X"}} {
		all = append(all, impl.Program{Vars: vars}, impl.Program{Vars: vars, Body: emits(1)})
	}
	for _, kind := range []int{-7, 0, 1, 2, 3, 4, 5, 1 << 32} {
		for _, name := range []string{"", "x", "X\xff"} {
			for _, e := range []impl.Expr{{}, con(-1), ref("if"), {Kind: 3, N: 9, Args: []impl.Expr{{}}}} {
				all = append(all, prog("x", impl.Stmt{Kind: kind, Name: name, Expr: e}))
			}
			all = append(all, prog("x", impl.Stmt{Kind: kind, Name: name, Body: emits(1)}), prog("x", impl.Stmt{Kind: kind, Name: name, Else: emits(1)}), prog("x", impl.Stmt{Kind: kind, Name: name, Body: emits(1), Else: emits(1)}))
		}
	}
	return append(all, prog("", emits(9)...), prog("", emits(10)...), prog("", while(con(1), while(con(1), while(con(1), emits(1)...)))))
}

func TestEqualPrograms(t *testing.T) {
	all := differentPrograms()
	for i, p := range all {
		for k, q := range all {
			wantEqualPrograms(t, p, q, i == k)
		}
		wantEqualPrograms(t, p, copyProgram(p), true)
	}
}

func TestProgramsThatDifferInOneField(t *testing.T) {
	changes := []func(*impl.Stmt){
		func(s *impl.Stmt) { s.Kind++ }, func(s *impl.Stmt) { s.Kind = -s.Kind - 1 }, func(s *impl.Stmt) { s.Kind += 1 << 32 },
		func(s *impl.Stmt) { s.Name += "x" }, func(s *impl.Stmt) { s.Name += "\x00" }, func(s *impl.Stmt) { s.Name = "other" },
		func(s *impl.Stmt) { s.Expr.Kind++ }, func(s *impl.Stmt) { s.Expr.N++ }, func(s *impl.Stmt) { s.Expr.N -= 4 }, func(s *impl.Stmt) { s.Expr.Name += "x" },
		func(s *impl.Stmt) { s.Expr = not(s.Expr) }, func(s *impl.Stmt) { s.Expr = impl.Expr{Kind: -7} }, func(s *impl.Stmt) { s.Expr.Args = append(s.Expr.Args, con(0)) },
		func(s *impl.Stmt) { s.Body = append(s.Body, emit(con(0))) }, func(s *impl.Stmt) { s.Body = append(block(impl.Stmt{}), s.Body...) },
		func(s *impl.Stmt) { s.Else = append(s.Else, emit(con(0))) }, func(s *impl.Stmt) { s.Else = append(block(impl.Stmt{}), s.Else...) },
		func(s *impl.Stmt) { s.Body, s.Else = append(s.Else, emit(con(3))), s.Body },
		func(s *impl.Stmt) { *s = impl.Stmt{Kind: -7} }, func(s *impl.Stmt) { *s = while(con(1), *s) },
	}
	deep := impl.Program{Vars: []string{"if"}, Body: block(impl.Stmt{Kind: 9, Name: "x", Body: block(while(con(1), while(con(1), while(con(1), emits(2)...)))), Else: emits(3)})}
	for _, p := range append(ordinaryPrograms(), deep) {
		for _, change := range changes {
			for _, changed := range changedPrograms(p, change) {
				wantEqualPrograms(t, p, changed, false)
				wantEqualPrograms(t, copyProgram(changed), changed, true)
			}
		}
		for k, s := range stmtsOf(p.Body) {
			c := copyProgram(p)
			changed := stmtsOf(c.Body)[k]
			changed.Body, changed.Else = changed.Else, changed.Body
			wantEqualPrograms(t, p, c, reflect.DeepEqual(copyStmts(s.Body), copyStmts(s.Else)))
			if len(s.Body) > 0 {
				c = copyProgram(p)
				shorter := stmtsOf(c.Body)[k]
				shorter.Body = shorter.Body[:len(shorter.Body)-1]
				wantEqualPrograms(t, p, c, false)
			}
		}
		for k := range p.Vars {
			c := copyProgram(p)
			c.Vars[k] += "x"
			wantEqualPrograms(t, p, c, false)
			wantEqualPrograms(t, p, impl.Program{Vars: p.Vars[:k], Body: p.Body}, false)
		}
		wantEqualPrograms(t, p, impl.Program{Vars: append([]string{"new"}, p.Vars...), Body: p.Body}, false)
		wantEqualPrograms(t, p, impl.Program{Vars: append(slices.Clone(p.Vars), "new"), Body: p.Body}, false)
		wantEqualPrograms(t, p, impl.Program{Vars: p.Vars, Body: append(copyStmts(p.Body), emit(con(1)))}, false)
	}
}

func TestEqualProgramAgreesWithTheirValues(t *testing.T) {
	random := rand.New(rand.NewPCG(8, 2))
	equal := 0
	for range 40000 {
		p, q := prog("x"), prog("x")
		p.Body, q.Body = randomStmts(random, p.Vars, 2, 2), randomStmts(random, q.Vars, 2, 2)
		want := reflect.DeepEqual(copyProgram(p), copyProgram(q))
		if impl.EqualProgram(p, q) != want {
			t.Fatalf("EqualProgram(%v, %v) is %v", p, q, !want)
		}
		if want {
			equal++
		}
	}
	if equal < 500 {
		t.Errorf("only %d pairs are equal", equal)
	}
}

func TestAssignedVars(t *testing.T) {
	one := con(1)
	c, d := assign("c", one), assign("d", one)
	wantAssigned(t, nil)
	wantAssigned(t, block())
	wantAssigned(t, emits(3))
	wantAssigned(t, block(emit(ref("c")), while(ref("d")), when(ref("x"), emits(1), nil)))
	wantAssigned(t, block(c), "c")
	wantAssigned(t, block(c, c), "c")
	wantAssigned(t, block(c, d), "c", "d")
	wantAssigned(t, block(d, c, d), "c", "d")
	wantAssigned(t, block(assign("c", ref("d"))), "c")
	wantAssigned(t, block(while(one, d), c), "c", "d")
	wantAssigned(t, block(when(one, block(d), nil)), "d")
	wantAssigned(t, block(when(one, nil, block(d))), "d")
	wantAssigned(t, block(when(one, block(d, d), block(c, d))), "c", "d")
	wantAssigned(t, block(when(one, block(while(ref("x"), while(one, d))), emits(1)), emit(one)), "d")
	wantAssigned(t, block(assign("x10", one), assign("x9", one), assign("x1", one), assign("x", one), assign("xa", one)), "x", "x1", "x10", "x9", "xa")
	wantAssigned(t, append(emits(20), assign("y", one), while(one, append(emits(20), assign("x", one))...)), "x", "y")
	// Statements that are not valid.
	wantAssigned(t, block(impl.Stmt{}, impl.Stmt{Kind: 5, Name: "c"}, impl.Stmt{Kind: -1, Name: "c"}, impl.Stmt{Name: "c"}, impl.Stmt{Kind: impl.StAssign + 1<<32, Name: "c"}))
	wantAssigned(t, block(impl.Stmt{Kind: impl.StIf, Name: "c"}, impl.Stmt{Kind: impl.StWhile, Name: "c"}, impl.Stmt{Kind: impl.StEmit, Name: "c"}))
	wantAssigned(t, block(impl.Stmt{Kind: impl.StAssign}), "")
	wantAssigned(t, block(assign("if", one), assign("", one), assign("\xff", one), assign("toolongname", one), assign("B", one)), "", "B", "if", "toolongname", "\xff")
	wantAssigned(t, block(impl.Stmt{Kind: impl.StAssign, Name: "y", Body: block(c), Else: block(d)}), "c", "d", "y")
	wantAssigned(t, block(impl.Stmt{Kind: impl.StEmit, Body: block(c), Else: block(d)}), "c", "d")
	wantAssigned(t, block(impl.Stmt{Kind: impl.StWhile, Else: block(d)}), "d")
	wantAssigned(t, block(impl.Stmt{Kind: -7, Name: "x", Body: block(impl.Stmt{Else: block(d)})}), "d")
	wantAssigned(t, block(impl.Stmt{Kind: impl.StAssign, Name: "x", Expr: impl.Expr{Kind: -7}}), "x")
	for _, p := range append(differentPrograms(), prog("", shapes(5)[77]...)) {
		var names []string
		for _, s := range stmtsOf(p.Body) {
			if s.Kind == impl.StAssign {
				names = append(names, s.Name)
			}
		}
		wantAssigned(t, p.Body, impl.SortNames(names)...)
	}
}

// spaciousStmts returns a copy of list in which all lists go on behind their ends.
func spaciousStmts(list []impl.Stmt) []impl.Stmt {
	all := make([]impl.Stmt, 0, len(list)+2)
	for _, s := range list {
		s.Expr, s.Body, s.Else = spacious(s.Expr), spaciousStmts(s.Body), spaciousStmts(s.Else)
		all = append(all, s)
	}
	return append(all, assign("behind", con(1)), impl.Stmt{Kind: -9})[:len(list)]
}

// stmtsWithCapacity returns a copy of list in which each list is as long as its capacity.
func stmtsWithCapacity(list []impl.Stmt) []impl.Stmt {
	var all []impl.Stmt
	for _, s := range list[:cap(list)] {
		s.Expr, s.Body, s.Else = withCapacity(s.Expr), stmtsWithCapacity(s.Body), stmtsWithCapacity(s.Else)
		all = append(all, s)
	}
	return all
}

func TestProgramsAreNotModified(t *testing.T) {
	for _, plain := range append(differentPrograms(), prog("x y", while(con(4), emits(20)...), emit(fullTree(6)))) {
		vars, array := behind(plain.Vars)
		p := impl.Program{Vars: vars, Body: spaciousStmts(plain.Body)}
		q := impl.Program{Vars: slices.Clone(vars), Body: spaciousStmts(plain.Body)}
		before, beforeVars := stmtsWithCapacity(p.Body), slices.Clone(array)
		wantExtent(t, p.Body, len(stmtsOf(plain.Body)), depthByText(plain.Body))
		wantProgram(t, p, isValidByText(plain))
		wantEqualPrograms(t, p, q, true)
		wantEqualPrograms(t, p, plain, true)
		names := impl.AssignedVars(p.Body)
		want := slices.Clone(names)
		for i := range names[:cap(names)] {
			names[:cap(names)][i] = "changed"
		}
		wantAssigned(t, p.Body, want...)
		if !reflect.DeepEqual(stmtsWithCapacity(p.Body), before) || !reflect.DeepEqual(stmtsWithCapacity(q.Body), before) || !slices.Equal(array, beforeVars) {
			t.Errorf("a function or a change of its result modified %v", plain)
		}
	}
}

func TestProgramsKeepNothing(t *testing.T) {
	p := prog("x", assign("x", con(1)), while(ref("x"), emit(con(1))))
	original := copyProgram(p)
	for range 3 {
		wantProgram(t, p, true)
		wantExtent(t, p.Body, 3, 2)
		wantAssigned(t, p.Body, "x")
		wantEqualPrograms(t, p, original, true)
		// The same memory with another content is another program.
		p.Body[1].Body[0] = while(con(1), assign("y", con(2)))
		wantProgram(t, p, false)
		wantExtent(t, p.Body, 4, 3)
		wantAssigned(t, p.Body, "x", "y")
		wantEqualPrograms(t, p, original, false)
		p.Vars = []string{"x", "y"}
		wantProgram(t, p, true)
		p.Vars[1] = "x"
		wantProgram(t, p, false)
		p.Vars = []string{"x"}
		p.Body[1].Body[0] = emit(con(1))
	}
}

func TestSharedBlocks(t *testing.T) {
	shared := block(assign("x", con(1)), emit(ref("x")))
	p := prog("x", when(ref("x"), shared, shared), while(con(0), shared...))
	wantExtent(t, p.Body, 8, 2)
	wantProgram(t, p, true)
	wantAssigned(t, p.Body, "x")
	wantEqualPrograms(t, p, copyProgram(p), true)
	wantEqualPrograms(t, p, prog("x", when(ref("x"), shared, shared[:1]), while(con(0), shared...)), false)
	wantProgram(t, prog("x", append(p.Body[:2:2], emit(con(1)))...), false)
	// Lists of different lengths, and different parts, at one place.
	parts := block(while(con(1), shared[:1]...), while(con(1), shared...), while(con(1), shared[1:]...))
	wantExtent(t, parts, 7, 2)
	wantAssigned(t, block(while(con(1), shared[1:]...), while(con(1), shared...)), "x")
	backwards := block(shared[1], shared[0])
	wantAssigned(t, block(while(con(1), backwards[:1]...), while(con(1), backwards...)), "x")
	wantEqualPrograms(t, prog("x", parts[0]), prog("x", parts[1]), false)
	wantEqualPrograms(t, prog("x", parts[0]), prog("x", parts[2]), false)
	// Written out, it has 2 to the 41 minus 1 statements.
	list := block(assign("x", con(1)))
	other := block(assign("y", con(1)))
	for range 40 {
		list, other = block(when(con(1), list, list)), block(when(con(1), other, other))
	}
	wantExtent(t, list, 1<<41-1, 41)
	wantProgram(t, prog("x", list...), false)
	wantAssigned(t, append(list, other...), "x", "y")
	wantEqualPrograms(t, prog("x", list...), prog("x", list...), true)
	wantEqualPrograms(t, prog("x", list...), prog("x", other...), false)
	// The number of statements is no int any more.
	for range 60 {
		list = block(when(con(1), list, list), list[0])
		wantProgram(t, prog("x", list...), false)
		if impl.CountStmts(list) < 1<<41-1 || impl.BlockDepth(list) != 1+impl.BlockDepth(list[0].Body) {
			t.Errorf("CountStmts and BlockDepth are %d and %d", impl.CountStmts(list), impl.BlockDepth(list))
		}
	}
	// Few statements, but large expressions.
	e := ref("x")
	for range 60 {
		e = bin(impl.OpAdd, e, e)
	}
	p = prog("x", while(e, emit(e)))
	wantExtent(t, p.Body, 2, 2)
	wantProgram(t, p, false)
	wantEqualPrograms(t, p, prog("x", while(e, emit(e))), true)
	wantEqualPrograms(t, p, prog("x", while(e, emit(not(e)))), false)
}

func TestLargePrograms(t *testing.T) {
	deep, other, inElse := block(assign("x", con(1))), block(assign("y", con(1))), block(assign("x", con(1)))
	for range 100000 {
		deep, other, inElse = block(while(con(1), deep...)), block(while(con(1), other...)), block(when(con(1), nil, inElse))
	}
	for _, list := range [][]impl.Stmt{deep, inElse} {
		wantAssigned(t, list, "x")
		if impl.CountStmts(list) != 100001 || impl.BlockDepth(list) != 100001 || impl.IsValidProgram(prog("x", list...)) || !impl.EqualProgram(prog("x", list...), prog("x", list...)) {
			t.Error("a deep program is not taken for what it is")
		}
	}
	if impl.EqualProgram(prog("", deep...), prog("", other...)) || impl.EqualProgram(prog("", deep...), prog("", deep[0].Body...)) || impl.EqualProgram(prog("", deep...), prog("", inElse...)) {
		t.Error("EqualProgram of deep programs")
	}
	wide := slices.Repeat(block(emit(ref("x")), while(con(1), assign("y", con(1)))), 50000)
	if impl.CountStmts(wide) != 150000 || impl.BlockDepth(wide) != 2 || impl.IsValidProgram(prog("x y", wide...)) || !impl.EqualProgram(prog("", wide...), prog("", slices.Clone(wide)...)) {
		t.Error("a wide program is not taken for what it is")
	}
	wantAssigned(t, wide, "y")
	wantProgram(t, prog("x", emit(nots(100000, ref("x")))), false)
	wantProgram(t, prog("x", emit(impl.Expr{Kind: impl.ExprOp, N: 1, Args: slices.Repeat([]impl.Expr{con(1)}, 100000)})), false)
	wantProgram(t, prog("x", assign(strings.Repeat("x", 100000), con(1))), false)
}

// endlessList returns a list of an assignment and a statement whose Body, Else or both are the list itself.
func endlessList(kind int, name string, inBody, inElse bool) []impl.Stmt {
	list := block(assign(name, con(1)), impl.Stmt{Kind: kind, Name: name, Expr: con(1)})
	if inBody {
		list[1].Body = list
	}
	if inElse {
		list[1].Else = list
	}
	return list
}

func TestProgramsThatContainThemselves(t *testing.T) {
	for kind := -1; kind <= 5; kind++ {
		for in := 1; in <= 3; in++ {
			list, other := endlessList(kind, "x", in != 2, in != 1), endlessList(kind, "y", in != 2, in != 1)
			for _, whole := range [][]impl.Stmt{list, block(while(con(1), list...)), block(when(con(1), nil, list)), block(emit(con(1)), list[1]), list[1:]} {
				wantProgram(t, prog("x", whole...), false)
				if impl.CountStmts(whole) <= impl.MaxStmts || impl.BlockDepth(whole) <= impl.MaxBlockDepth {
					t.Errorf("CountStmts and BlockDepth of an endless program are %d and %d", impl.CountStmts(whole), impl.BlockDepth(whole))
				}
				if !slices.Equal(impl.AssignedVars(whole), []string{"x"}) || !impl.EqualProgram(prog("x", whole...), prog("x", whole...)) {
					t.Error("AssignedVars or EqualProgram of an endless program")
				}
			}
			same, once := endlessList(kind, "x", in != 2, in != 1), slices.Clone(list)
			if !impl.EqualProgram(prog("x", list...), prog("x", same...)) || !impl.EqualProgram(prog("x", list...), prog("x", once...)) {
				t.Error("EqualProgram of equal endless programs is false")
			}
			if impl.EqualProgram(prog("x", list...), prog("x", other...)) || impl.EqualProgram(prog("x", list...), prog("x", list[0])) || impl.EqualProgram(prog("x", list...), prog("x", list[1:]...)) {
				t.Error("EqualProgram of different endless programs is true")
			}
		}
	}
	endless := con(1)
	endless.Kind, endless.Args = impl.ExprNot, []impl.Expr{{Kind: impl.ExprNot}}
	endless.Args[0].Args = endless.Args
	for _, s := range withExpr(endless) {
		p := prog("x", s)
		wantProgram(t, p, false)
		if !impl.EqualProgram(p, prog("x", s)) || impl.EqualProgram(p, prog("x", emit(not(con(1))))) || impl.CountStmts(p.Body) > 2 {
			t.Error("a program with an endless expression is not taken for what it is")
		}
	}
}
