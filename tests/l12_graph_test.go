package tests

import (
	"fmt"
	"math"
	"math/rand/v2"
	"reflect"
	"regexp"
	"slices"
	"strconv"
	"testing"

	"loop.example/g00514/impl"
)

func assignNode(name string, e impl.Expr, next int) impl.Node {
	return impl.Node{Kind: impl.NodeAssign, Name: name, Expr: e, Next: next}
}

func testNode(e impl.Expr, next, other int) impl.Node {
	return impl.Node{Kind: impl.NodeTest, Expr: e, Next: next, Other: other}
}

func emitNode(e impl.Expr, next int) impl.Node {
	return impl.Node{Kind: impl.NodeEmit, Expr: e, Next: next}
}

// graph returns the graph with the nodes and the two that end it.
func graph(vars []string, nodes ...impl.Node) impl.Graph {
	return impl.Graph{Vars: vars, Nodes: append(slices.Clone(nodes), impl.Node{Kind: impl.NodeHalt}, impl.Node{Kind: impl.NodeTrap})}
}

func sameNode(n, other impl.Node) bool {
	return n.Kind == other.Kind && n.Name == other.Name && sameExpr(n.Expr, other.Expr) && n.Next == other.Next && n.Other == other.Other
}

func sameGraph(g, other impl.Graph) bool {
	return slices.Equal(g.Vars, other.Vars) && slices.EqualFunc(g.Nodes, other.Nodes, sameNode)
}

func copyGraph(g impl.Graph) impl.Graph {
	c := impl.Graph{Vars: slices.Clone(g.Vars), Nodes: slices.Clone(g.Nodes)}
	for k := range c.Nodes {
		c.Nodes[k].Expr = copyExpr(c.Nodes[k].Expr)
	}
	return c
}

// lineOf is the sentence of the document on the text of a node. It takes a valid expression.
func lineOf(n impl.Node) string {
	if n.Kind == 4 || n.Kind == 5 {
		return []string{"halt", "trap"}[n.Kind-4]
	}
	e, _ := shortSource(n.Expr)
	head := map[int]string{1: n.Name + " := ", 2: "test ", 3: "emit "}[n.Kind]
	text := head + e + " -> " + strconv.Itoa(n.Next)
	if n.Kind == 2 {
		text += " " + strconv.Itoa(n.Other)
	}
	return text
}

// followers are the sentences of the document on where execution continues after each statement of a list, which is given the number of its first one, and what follows the list. It returns the number behind the last statement, too.
func followers(list []impl.Stmt, first, after int) ([]int, int) {
	var all []int
	for i, s := range list {
		behind := first + len(stmtsOf(list[i:i+1]))
		follows := behind
		if i == len(list)-1 {
			follows = after
		}
		all = append(all, follows)
		inside := follows
		if s.Kind == impl.StWhile {
			inside = first
		}
		inBody, firstOfElse := followers(s.Body, first+1, inside)
		inElse, _ := followers(s.Else, firstOfElse, inside)
		all, first = slices.Concat(all, inBody, inElse), behind
	}
	return all, first
}

// graphByText follows the sentences of the document on BuildGraph.
func graphByText(p impl.Program) impl.Graph {
	all := stmtsOf(p.Body)
	follows, _ := followers(p.Body, 0, len(all))
	var nodes []impl.Node
	for k, s := range all {
		switch s.Kind {
		case impl.StAssign:
			nodes = append(nodes, assignNode(s.Name, s.Expr, follows[k]))
			continue
		case impl.StEmit:
			nodes = append(nodes, emitNode(s.Expr, follows[k]))
			continue
		}
		next, other := k+1, k+1+len(stmtsOf(s.Body))
		if len(s.Body) == 0 {
			next = follows[k]
			if s.Kind == impl.StWhile {
				next = k
			}
		}
		if len(s.Else) == 0 {
			other = follows[k]
		}
		nodes = append(nodes, testNode(s.Expr, next, other))
	}
	return graph(p.Vars, nodes...)
}

var headOfStmt = regexp.MustCompile(`(?:while|if) ([^{]+) \{|emit ([^;]+) ;|([a-z0-9]+ := [^;]+) ;`)

// headsOf returns the texts of the statements of a program before their blocks, in the order of the source code, as the texts of nodes begin.
func headsOf(p impl.Program) []string {
	var all []string
	for _, match := range headOfStmt.FindAllStringSubmatch(sourceOf(impl.Program{Body: p.Body}), -1) {
		switch {
		case match[1] != "":
			all = append(all, "test "+match[1])
		case match[2] != "":
			all = append(all, "emit "+match[2])
		default:
			all = append(all, match[3])
		}
	}
	return all
}

// walk runs a graph. It relies on the sentence of the document on what the nodes do only.
func walk(g impl.Graph, input []int, fuel int) impl.Outcome {
	now, at := impl.Outcome{Status: impl.RunFuel, State: slices.Clone(input)}, 0
	for ; g.Nodes[at].Kind < impl.NodeHalt; now.Cost++ {
		if now.Cost == fuel {
			return now
		}
		n, values := g.Nodes[at], map[string]int{}
		for i, name := range g.Vars {
			values[name] = now.State[i]
		}
		value := valueOf(n.Expr, values)
		at = n.Next
		switch {
		case value < 0:
			at = len(g.Nodes) - 1
		case n.Kind == impl.NodeAssign:
			now.State[slices.Index(g.Vars, n.Name)] = value
		case n.Kind == impl.NodeEmit:
			now.Output = append(now.Output, value)
		case value == 0:
			at = n.Other
		}
	}
	now.Status = g.Nodes[at].Kind - impl.NodeHalt + impl.RunEnded
	return now
}

func wantGraph(t *testing.T, p impl.Program, want impl.Graph) {
	t.Helper()
	if got := impl.BuildGraph(p); !sameGraph(got, want) {
		t.Fatalf("BuildGraph(%.400s) = %v; want %v", fmt.Sprint(p), got, want)
	}
}

func wantNoGraph(t *testing.T, p impl.Program) {
	t.Helper()
	wantGraph(t, p, impl.Graph{})
}

func wantGraphValidity(t *testing.T, g impl.Graph, want bool) {
	t.Helper()
	if impl.IsValidGraph(g) != want {
		t.Errorf("IsValidGraph(%.400s) is %v", fmt.Sprint(g), !want)
	}
}

func wantTerminal(t *testing.T, g impl.Graph, at int, want bool) {
	t.Helper()
	if impl.IsTerminal(g, at) != want {
		t.Errorf("IsTerminal with %d nodes is %v at %d", len(g.Nodes), !want, at)
	}
}

func wantNodeText(t *testing.T, n impl.Node, want string) {
	t.Helper()
	wantFormatOf(t, impl.FormatNode, n, want)
}

// wantGraphOf takes a valid program and checks all that is said of its graph.
func wantGraphOf(t *testing.T, p impl.Program) {
	t.Helper()
	want := graphByText(p)
	wantGraph(t, p, want)
	g := impl.BuildGraph(p)
	number := impl.CountStmts(p.Body)
	if !impl.IsValidGraph(g) || !isValidGraphByText(g) || len(g.Nodes) != number+2 {
		t.Fatalf("the graph %v of %v is not valid", g, p)
	}
	heads := headsOf(p)
	for at, n := range g.Nodes {
		wantNodeText(t, n, lineOf(want.Nodes[at]))
		wantTerminal(t, g, at, at >= number)
		if at < number && (len(heads) != number || !regexp.MustCompile(`^`+regexp.QuoteMeta(heads[at])+` -> `).MatchString(lineOf(n))) {
			t.Fatalf("the nodes %v of %v are not in the order of its statements", g.Nodes, p)
		}
	}
	for _, at := range []int{-2, -1, number + 2, number + 3} {
		wantTerminal(t, g, at, false)
	}
}

// wantWalks compares the graph of a program with its runs by the second interpreter.
func wantWalks(t *testing.T, p impl.Program, input []int) {
	t.Helper()
	all, g := stepByStep(p, input, impl.MaxFuel), impl.BuildGraph(p)
	for _, fuel := range []int{impl.MaxFuel, len(all) / 2} {
		if got, want := walk(g, input, fuel), all[min(fuel, len(all)-1)]; !sameOutcome(got, want) {
			t.Fatalf("the graph %v of %v does %v at %v; want %v", g, p, got, input, want)
		}
	}
}

// wantLines takes the texts of the nodes before the two last ones.
func wantLines(t *testing.T, source string, lines ...string) {
	t.Helper()
	p := parsed(t, source)
	wantGraphOf(t, p)
	lines = append(lines, "halt", "trap")
	var got, own []string
	for _, n := range impl.BuildGraph(p).Nodes {
		got, own = append(got, impl.FormatNode(n)), append(own, lineOf(n))
	}
	if !slices.Equal(got, lines) || !slices.Equal(own, lines) {
		t.Errorf("the graph of %q is %q; want %q", source, got, lines)
	}
	for _, input := range statesOf(len(p.Vars)) {
		wantWalks(t, p, input)
	}
}

func TestConstantsOfGraphs(t *testing.T) {
	kinds := []int{impl.NodeAssign, impl.NodeTest, impl.NodeEmit, impl.NodeHalt, impl.NodeTrap}
	if !slices.Equal(kinds, []int{1, 2, 3, 4, 5}) {
		t.Errorf("the kinds of nodes have the numbers %v", kinds)
	}
}

func TestGraphsOfTheDocument(t *testing.T) {
	wantLines(t, "vars x ; while x < 3 { x := x + 1 ; } emit x ;", "test x < 3 -> 1 2", "x := x + 1 -> 0", "emit x -> 3")
	wantLines(t, "vars x ; x := 3 ; emit x ;", "x := 3 -> 1", "emit x -> 2")
	wantLines(t, "vars x y ; if y { x := x + 1 ; } else { x := x + 1 ; } emit x ;", "test y -> 1 2", "x := x + 1 -> 3", "x := x + 1 -> 3", "emit x -> 4")
	wantLines(t, "vars x y ; if y { emit x ; } emit 1 ;", "test y -> 1 2", "emit x -> 2", "emit 1 -> 3")
	wantLines(t, "vars x y ; while y { y := y - 1 ; x := x + 1 ; }", "test y -> 1 3", "y := y - 1 -> 2", "x := x + 1 -> 0")
	wantLines(t, "vars x ; x := x / 2 ;", "x := x / 2 -> 1")
}

func TestGraphsWithoutBlocks(t *testing.T) {
	wantLines(t, "vars ;")
	wantLines(t, "vars x y ;")
	wantLines(t, "vars ; emit 0 ;", "emit 0 -> 1")
	wantLines(t, "vars x ; emit x ; emit x ;", "emit x -> 1", "emit x -> 2")
	wantLines(t, "vars x y ; x := y ; emit 1 / x ; y := 0 ; emit y ;", "x := y -> 1", "emit 1 / x -> 2", "y := 0 -> 3", "emit y -> 4")
	wantLines(t, "vars y x ; emit 1 ; emit 2 ; emit 3 ; emit 0 ; emit 1 ; emit 2 ; x := !(y == 1) & x - (y - 1) < 2 ; emit 0 ;",
		"emit 1 -> 1", "emit 2 -> 2", "emit 3 -> 3", "emit 0 -> 4", "emit 1 -> 5", "emit 2 -> 6", "x := !(y == 1) & x - (y - 1) < 2 -> 7", "emit 0 -> 8")
}

func TestGraphsOfChoices(t *testing.T) {
	wantLines(t, "vars x ; if x { emit 1 ; }", "test x -> 1 2", "emit 1 -> 2")
	wantLines(t, "vars x ; if x { emit 1 ; } emit 2 ;", "test x -> 1 2", "emit 1 -> 2", "emit 2 -> 3")
	wantLines(t, "vars x ; if x { emit 1 ; } else { emit 2 ; }", "test x -> 1 2", "emit 1 -> 3", "emit 2 -> 3")
	wantLines(t, "vars x ; if x { emit 1 ; x := 0 ; } else { emit 2 ; x := 1 ; emit 3 ; } emit x ;",
		"test x -> 1 3", "emit 1 -> 2", "x := 0 -> 6", "emit 2 -> 4", "x := 1 -> 5", "emit 3 -> 6", "emit x -> 7")
	// The end of a block within a block leads behind all of them.
	wantLines(t, "vars x y ; if x { if y { emit 3 ; } else { emit 2 ; } } else { if y { emit 1 ; } else { emit 0 ; } } emit x ;",
		"test x -> 1 4", "test y -> 2 3", "emit 3 -> 7", "emit 2 -> 7", "test y -> 5 6", "emit 1 -> 7", "emit 0 -> 7", "emit x -> 8")
	wantLines(t, "vars x y ; if x { if y { emit 1 ; } emit 2 ; } emit 3 ;", "test x -> 1 4", "test y -> 2 3", "emit 1 -> 3", "emit 2 -> 4", "emit 3 -> 5")
	wantLines(t, "vars x y ; if x { emit 2 ; if y { emit 1 ; } } emit 3 ;", "test x -> 1 4", "emit 2 -> 2", "test y -> 3 4", "emit 1 -> 4", "emit 3 -> 5")
	wantLines(t, "vars x y ; if x { if y { emit 1 ; } }", "test x -> 1 3", "test y -> 2 3", "emit 1 -> 3")
	wantLines(t, "vars x y ; if x { if y { emit 1 ; } } else { emit 2 ; }", "test x -> 1 3", "test y -> 2 4", "emit 1 -> 4", "emit 2 -> 4")
	wantLines(t, "vars x y ; if x { emit 2 ; } else { if y { emit 1 ; } }", "test x -> 1 2", "emit 2 -> 4", "test y -> 3 4", "emit 1 -> 4")
	wantLines(t, "vars x y ; if x { emit 2 ; } if y { emit 1 ; }", "test x -> 1 2", "emit 2 -> 2", "test y -> 3 4", "emit 1 -> 4")
}

func TestGraphsOfLoops(t *testing.T) {
	wantLines(t, "vars x ; while x { x := x - 1 ; }", "test x -> 1 2", "x := x - 1 -> 0")
	wantLines(t, "vars x ; while x { x := x - 1 ; } emit x ;", "test x -> 1 2", "x := x - 1 -> 0", "emit x -> 3")
	wantLines(t, "vars x ; emit x ; while x { emit 1 ; x := x - 1 ; }", "emit x -> 1", "test x -> 2 4", "emit 1 -> 3", "x := x - 1 -> 1")
	// The last statement of a loop leads to the innermost loop only.
	wantLines(t, "vars x y ; while x { while y { y := y - 1 ; } x := x - 1 ; } emit 3 ;",
		"test x -> 1 4", "test y -> 2 3", "y := y - 1 -> 1", "x := x - 1 -> 0", "emit 3 -> 5")
	wantLines(t, "vars x y ; while x { x := x - 1 ; while y { y := y - 1 ; } } emit 3 ;",
		"test x -> 1 4", "x := x - 1 -> 2", "test y -> 3 0", "y := y - 1 -> 2", "emit 3 -> 5")
	wantLines(t, "vars x ; while x { while x { x := x - 1 ; } }", "test x -> 1 3", "test x -> 2 0", "x := x - 1 -> 1")
	wantLines(t, "vars x ; while x { x := x - 1 ; } while x < 2 { x := x + 1 ; }", "test x -> 1 2", "x := x - 1 -> 0", "test x < 2 -> 3 4", "x := x + 1 -> 2")
	// A choice in a loop, and a loop in a choice.
	wantLines(t, "vars x y ; while x { if y { y := 0 ; } else { x := 0 ; } }", "test x -> 1 4", "test y -> 2 3", "y := 0 -> 0", "x := 0 -> 0")
	wantLines(t, "vars x y ; while x { if y { y := 0 ; } } emit x ;", "test x -> 1 3", "test y -> 2 0", "y := 0 -> 0", "emit x -> 4")
	wantLines(t, "vars x y ; while x { if y { y := 0 ; } x := 0 ; } emit x ;", "test x -> 1 4", "test y -> 2 3", "y := 0 -> 3", "x := 0 -> 0", "emit x -> 5")
	wantLines(t, "vars x y ; if x { while y { y := 0 ; } } else { while y < 3 { y := 3 ; } } emit y ;",
		"test x -> 1 3", "test y -> 2 5", "y := 0 -> 1", "test y < 3 -> 4 5", "y := 3 -> 3", "emit y -> 6")
	wantLines(t, "vars x y ; while x { if x { while y { } } else { emit 1 ; } }", "test x -> 1 4", "test x -> 2 3", "test y -> 2 0", "emit 1 -> 0")
	wantLines(t, "vars x y ; if x { while y { if x { } } } emit y ;", "test x -> 1 3", "test y -> 2 3", "test x -> 1 1", "emit y -> 4")
}

func TestGraphsOfEmptyBlocks(t *testing.T) {
	wantLines(t, "vars x ; while x { }", "test x -> 0 1")
	wantLines(t, "vars x ; while x { } emit x ;", "test x -> 0 1", "emit x -> 2")
	wantLines(t, "vars x ; emit x ; while x { }", "emit x -> 1", "test x -> 1 2")
	wantLines(t, "vars x ; while x { } while x { }", "test x -> 0 1", "test x -> 1 2")
	wantLines(t, "vars x y ; while x { while y { } }", "test x -> 1 2", "test y -> 1 0")
	wantLines(t, "vars x y ; while x { while y { } x := 0 ; }", "test x -> 1 3", "test y -> 1 2", "x := 0 -> 0")
	wantLines(t, "vars x ; if x { }", "test x -> 1 1")
	wantLines(t, "vars x ; if x { } else { }", "test x -> 1 1")
	wantLines(t, "vars x ; if x { } emit x ;", "test x -> 1 1", "emit x -> 2")
	wantLines(t, "vars x ; emit x ; if x { }", "emit x -> 1", "test x -> 2 2")
	wantLines(t, "vars x ; if x { } if x { }", "test x -> 1 1", "test x -> 2 2")
	wantLines(t, "vars x ; if x { } else { emit 1 ; }", "test x -> 2 1", "emit 1 -> 2")
	wantLines(t, "vars x ; if x { } else { emit 1 ; } emit 2 ;", "test x -> 2 1", "emit 1 -> 2", "emit 2 -> 3")
	wantLines(t, "vars x ; if x { emit 1 ; } else { } emit 2 ;", "test x -> 1 2", "emit 1 -> 2", "emit 2 -> 3")
	// The node after an if in a loop can be the loop, and that after one in an if is the one after the outer if.
	wantLines(t, "vars x y ; while x { if y { } }", "test x -> 1 2", "test y -> 0 0")
	wantLines(t, "vars x y ; while x { if y { } } emit 1 ;", "test x -> 1 2", "test y -> 0 0", "emit 1 -> 3")
	wantLines(t, "vars x y ; while x { if y { } else { x := 0 ; } }", "test x -> 1 3", "test y -> 0 2", "x := 0 -> 0")
	wantLines(t, "vars x y ; while x { if y { } x := 0 ; }", "test x -> 1 3", "test y -> 2 2", "x := 0 -> 0")
	wantLines(t, "vars x y ; if x { if y { } } else { if y { } } emit 1 ;", "test x -> 1 2", "test y -> 3 3", "test y -> 3 3", "emit 1 -> 4")
	wantLines(t, "vars x y ; if x { if y { } } else { if y { } }", "test x -> 1 2", "test y -> 3 3", "test y -> 3 3")
	wantLines(t, "vars x y ; if x { while y { } } else { while y { } } emit 1 ;", "test x -> 1 2", "test y -> 1 3", "test y -> 2 3", "emit 1 -> 4")
	wantLines(t, "vars x y ; if x { } else { while y { } } emit 1 ;", "test x -> 2 1", "test y -> 1 2", "emit 1 -> 3")
	wantLines(t, "vars x y ; while x { if x { if y { } } else { } }", "test x -> 1 3", "test x -> 2 0", "test y -> 0 0")
	wantLines(t, "vars x y ; while x { if x { } else { if y { } } }", "test x -> 1 3", "test x -> 0 2", "test y -> 0 0")
	// Nil and empty blocks are the same.
	x := ref("x")
	for _, empty := range [][]impl.Stmt{nil, {}, make([]impl.Stmt, 0, 4), emits(2)[:0], emits(2)[2:]} {
		wantGraph(t, prog("x", when(x, empty, empty), while(x, empty...), emit(x)), graph([]string{"x"}, testNode(x, 1, 1), testNode(x, 1, 2), emitNode(x, 3)))
		wantGraph(t, prog("x", impl.Stmt{Kind: impl.StAssign, Name: "x", Expr: x, Body: empty, Else: empty}), graph([]string{"x"}, assignNode("x", x, 1)))
		wantGraph(t, impl.Program{Vars: []string{}, Body: empty}, graph(nil))
	}
}

func TestGraphsOfOrdinaryPrograms(t *testing.T) {
	for _, p := range runningPrograms(t) {
		wantGraphOf(t, p)
		for _, input := range statesOf(len(p.Vars)) {
			wantWalks(t, p, input)
		}
	}
	// Each expression is kept as it is.
	for _, e := range ordinaryExprs() {
		if slices.Contains(impl.VarsOfExpr(e), "z9999999") {
			continue
		}
		for _, s := range withExpr(e) {
			for _, p := range inEveryPlace(s) {
				if impl.BlockDepth(p.Body) <= impl.MaxBlockDepth {
					wantGraphOf(t, p)
				}
			}
		}
	}
	for _, name := range []string{"x", "c", "x1", "abcdefgh"} {
		p := prog(name+" y", assign(name, ref(name)), assign("y", ref(name)))
		wantGraph(t, p, graph([]string{name, "y"}, assignNode(name, ref(name), 1), assignNode("y", ref(name), 2)))
	}
}

func TestGraphsOfAllShapes(t *testing.T) {
	random := rand.New(rand.NewPCG(12, 1))
	for number := range 5 {
		for _, p := range shapesWithLoops(random, number) {
			wantGraphOf(t, p)
			for _, input := range [][]int{words("00"), words("31"), {random.IntN(4), random.IntN(4)}} {
				wantWalks(t, p, input)
			}
		}
	}
	for _, list := range shapes(5) {
		if p := (impl.Program{Body: list}); impl.BlockDepth(list) <= impl.MaxBlockDepth {
			wantGraph(t, p, graphByText(p))
		}
	}
}

func TestGraphsOfRandomPrograms(t *testing.T) {
	random := rand.New(rand.NewPCG(12, 2))
	full := 0
	for range 4000 {
		p := prog([]string{"", "x", "y", "x y", "y x"}[random.IntN(5)])
		p.Body = randomStmts(random, p.Vars, 1+random.IntN(8), 1+random.IntN(3))
		q := prog([]string{"x y", "y x"}[random.IntN(2)])
		q.Body = withLoops(random, randomStmts(random, q.Vars, 8, 3))
		for _, p := range []impl.Program{p, q} {
			wantGraphOf(t, p)
			states := statesOf(len(p.Vars))
			wantWalks(t, p, states[random.IntN(len(states))])
			if impl.CountStmts(p.Body) == impl.MaxStmts {
				full++
			}
		}
	}
	if full < 500 {
		t.Errorf("only %d programs have all the statements they can have", full)
	}
}

func TestProgramsWithoutGraph(t *testing.T) {
	for _, p := range differentPrograms() {
		if isValidByText(p) {
			wantGraphOf(t, p)
		} else {
			wantNoGraph(t, p)
		}
	}
	for _, e := range invalidExprs() {
		for _, s := range withExpr(e) {
			wantNoGraph(t, prog("x", when(con(0), block(s), nil)))
		}
	}
	for _, p := range []impl.Program{
		prog("x", emits(9)...), prog("x y z"), prog("x x"), prog("if"), prog("x", assign("y", con(1))), prog("x", emit(ref("y"))), prog("", emit(ref("x"))),
		prog("x", when(con(0), block(assign("y", con(1))), nil)), prog("x", while(con(0), while(con(0), while(con(0), emits(1)...)))), prog("x", emit(nots(5, ref("x")))),
		prog("x", impl.Stmt{Kind: impl.StEmit, Name: "x", Expr: con(1)}), prog("x", impl.Stmt{Kind: impl.StEmit, Expr: con(1), Body: emits(1)}), prog("x", impl.Stmt{Kind: impl.StWhile, Expr: con(0), Else: emits(1)}),
		prog("x", impl.Stmt{Kind: 5, Expr: con(1)}), prog("x", impl.Stmt{}), prog("x", emit(con(1)), impl.Stmt{Kind: -1, Name: "x", Expr: con(1)}),
	} {
		wantNoGraph(t, p)
	}
	random := rand.New(rand.NewPCG(12, 3))
	valid, notValid := 0, 0
	for range 4000 {
		p := prog([]string{"", "x", "x y", "y x"}[random.IntN(4)])
		p.Body = randomStmts(random, p.Vars, 1+random.IntN(8), 1+random.IntN(3))
		for range 1 + random.IntN(2) {
			if list := stmtsOf(p.Body); len(list) > 0 {
				someFaults(random)(list[random.IntN(len(list))])
			}
			p.Body = copyStmts(p.Body)
		}
		if isValidByText(p) {
			wantGraphOf(t, p)
			valid++
		} else {
			wantNoGraph(t, p)
			notValid++
		}
	}
	if min(valid, notValid) < 500 {
		t.Errorf("%d programs are valid, and %d are not", valid, notValid)
	}
}

func TestLargeAndEndlessProgramsHaveNoGraph(t *testing.T) {
	deep := block(assign("x", con(1)))
	for range 100000 {
		deep = block(while(con(1), deep...))
	}
	list := block(assign("x", con(1)))
	for range 100 {
		list = block(when(con(1), list, list))
	}
	for _, body := range [][]impl.Stmt{deep, slices.Repeat(emits(1), 100000), list} {
		wantNoGraph(t, prog("x", body...))
	}
	for kind := -1; kind <= 5; kind++ {
		for in := 1; in <= 3; in++ {
			wantNoGraph(t, prog("x", endlessList(kind, "x", in != 2, in != 1)...))
		}
	}
	for _, s := range withExpr(endlessExpr()) {
		wantNoGraph(t, prog("x", s))
	}
	wantNoGraph(t, impl.Program{Vars: slices.Repeat([]string{"x"}, 100000)})
}

// endlessExpr returns a negation below which there is always another one.
func endlessExpr() impl.Expr {
	list := []impl.Expr{{Kind: impl.ExprNot}}
	list[0].Args = list
	return list[0]
}

// isValidGraphByText is the sentence of the document on IsValidGraph. It relies on IsValidExpr and VarsOfExpr only.
func isValidGraphByText(g impl.Graph) bool {
	number := len(g.Nodes)
	if number < 2 || !isValidByText(impl.Program{Vars: g.Vars}) {
		return false
	}
	for k, n := range g.Nodes {
		if k >= number-2 {
			if !sameNode(n, impl.Node{Kind: 4 + k - (number - 2)}) {
				return false
			}
			continue
		}
		kinds := map[int]int{1: impl.StAssign, 2: impl.StIf, 3: impl.StEmit}
		s := impl.Stmt{Kind: kinds[n.Kind], Name: n.Name, Expr: n.Expr}
		if !isValidByText(impl.Program{Vars: g.Vars, Body: block(s)}) || n.Kind != 2 && n.Other != 0 {
			return false
		}
		for _, to := range []int{n.Next, n.Other} {
			if to < 0 || to > number-2 {
				return false
			}
		}
	}
	return true
}

// someGraphs are valid and have all kinds of nodes.
func someGraphs() []impl.Graph {
	x, y, xy := ref("x"), ref("y"), []string{"x", "y"}
	return []impl.Graph{
		graph(nil), graph([]string{"x"}), graph(xy), graph(nil, emitNode(con(0), 0)), graph(nil, emitNode(con(0), 1)), graph(nil, testNode(con(1), 0, 1)), graph(nil, testNode(con(1), 1, 0)),
		graph(xy, testNode(bin(impl.OpLess, x, y), 1, 3), assignNode("x", bin(impl.OpDivide, x, y), 2), emitNode(not(x), 0)),
		// No program has these: nodes that lead back at will, and nodes to which none leads.
		graph([]string{"y", "x"}, assignNode("y", con(3), 2), testNode(x, 1, 1), emitNode(y, 4), emitNode(x, 0)),
		graph(xy, emitNode(x, 5), emitNode(x, 4), emitNode(x, 3), assignNode("x", y, 2), testNode(y, 0, 5)),
		graph(xy, testNode(x, 2, 0), testNode(x, 0, 0), assignNode("y", x, 2)),
	}
}

func TestGraphsOfProgramsAreValid(t *testing.T) {
	for _, p := range runningPrograms(t) {
		wantGraphValidity(t, impl.BuildGraph(p), true)
		wantGraphValidity(t, copyGraph(impl.BuildGraph(p)), true)
	}
	for _, g := range someGraphs() {
		wantGraphValidity(t, g, true)
		wantGraphValidity(t, copyGraph(g), true)
	}
	wantGraphValidity(t, impl.BuildGraph(prog("x x")), false)
}

func TestEndsOfGraphs(t *testing.T) {
	halt, trap, other := impl.Node{Kind: impl.NodeHalt}, impl.Node{Kind: impl.NodeTrap}, emitNode(con(1), 0)
	list := []impl.Node{halt, trap, other, {}}
	valid := 0
	for choice := range 4 + 16 + 64 + 256 {
		number := 1
		for size := 4; choice >= size; size *= 4 {
			choice -= size
			number++
		}
		var g impl.Graph
		for range number {
			g.Nodes = append(g.Nodes, list[choice%4])
			choice /= 4
		}
		want := number >= 2 && g.Nodes[number-2].Kind == 4 && g.Nodes[number-1].Kind == 5
		for k := range max(number-2, 0) {
			want = want && g.Nodes[k].Kind == 3
		}
		wantGraphValidity(t, g, want)
		if want {
			valid++
		}
	}
	if valid != 3 {
		t.Errorf("%d graphs are valid", valid)
	}
	wantGraphValidity(t, impl.Graph{}, false)
	wantGraphValidity(t, impl.Graph{Vars: []string{"x"}, Nodes: []impl.Node{}}, false)
	// Nil and empty lists are the same in the two last nodes, too, but no other field may be there.
	empty := impl.Expr{Args: []impl.Expr{}}
	wantGraphValidity(t, impl.Graph{Vars: []string{}, Nodes: []impl.Node{{Kind: 4, Expr: empty}, {Kind: 5, Expr: empty}}}, true)
	wantGraphValidity(t, impl.Graph{Nodes: []impl.Node{{Kind: 4, Expr: impl.Expr{Args: []impl.Expr{{}}[:0]}}, trap}}, true)
	for _, g := range someGraphs() {
		for at := len(g.Nodes) - 2; at < len(g.Nodes); at++ {
			for _, change := range []func(*impl.Node){
				func(n *impl.Node) { n.Kind = 9 - n.Kind }, func(n *impl.Node) { n.Kind = 0 }, func(n *impl.Node) { n.Kind = 3 }, func(n *impl.Node) { n.Kind = 6 }, func(n *impl.Node) { n.Kind = -n.Kind }, func(n *impl.Node) { n.Kind += 1 << 32 },
				func(n *impl.Node) { n.Name = "x" }, func(n *impl.Node) { n.Name = "halt" }, func(n *impl.Node) { n.Name = "\x00" },
				func(n *impl.Node) { n.Expr = con(0) }, func(n *impl.Node) { n.Expr = ref("x") }, func(n *impl.Node) { n.Expr.N = 1 }, func(n *impl.Node) { n.Expr.N = math.MinInt }, func(n *impl.Node) { n.Expr.Name = "x" },
				func(n *impl.Node) { n.Expr.Args = []impl.Expr{{}} }, func(n *impl.Node) { n.Expr = endlessExpr() }, func(n *impl.Node) { n.Expr.Args = endlessExpr().Args },
				func(n *impl.Node) { n.Next = 1 }, func(n *impl.Node) { n.Next = -1 }, func(n *impl.Node) { n.Next = at }, func(n *impl.Node) { n.Other = 1 }, func(n *impl.Node) { n.Other = -1 }, func(n *impl.Node) { n.Next, n.Other = 1, -1 },
			} {
				c := copyGraph(g)
				change(&c.Nodes[at])
				wantGraphValidity(t, c, sameGraph(c, g))
			}
		}
		// Neither can be missing, nor may there be another one.
		last := len(g.Nodes) - 1
		wantGraphValidity(t, impl.Graph{Vars: g.Vars, Nodes: g.Nodes[:last]}, false)
		wantGraphValidity(t, impl.Graph{Vars: g.Vars, Nodes: g.Nodes[:last-1]}, false)
		wantGraphValidity(t, impl.Graph{Vars: g.Vars, Nodes: append(slices.Clone(g.Nodes[:last-1]), trap)}, false)
		wantGraphValidity(t, impl.Graph{Vars: g.Vars, Nodes: append(slices.Clone(g.Nodes), trap)}, false)
		wantGraphValidity(t, impl.Graph{Vars: g.Vars, Nodes: append(slices.Clone(g.Nodes), halt, trap)}, false)
		wantGraphValidity(t, impl.Graph{Vars: g.Vars, Nodes: append([]impl.Node{halt}, g.Nodes...)}, false)
		wantGraphValidity(t, impl.Graph{Vars: g.Vars, Nodes: append([]impl.Node{trap}, g.Nodes...)}, false)
	}
}

func TestWhereNodesLead(t *testing.T) {
	for _, g := range someGraphs() {
		halt := len(g.Nodes) - 2
		for at := range halt {
			for _, to := range append(manyIntegers(), halt-1, halt, halt+1, halt+2) {
				c, d, e := copyGraph(g), copyGraph(g), copyGraph(g)
				c.Nodes[at].Next, d.Nodes[at].Other, e.Nodes[at].Next, e.Nodes[at].Other = to, to, to, to
				inside, isTest := to >= 0 && to <= halt, g.Nodes[at].Kind == impl.NodeTest
				wantGraphValidity(t, c, inside)
				wantGraphValidity(t, d, to == 0 || inside && isTest)
				wantGraphValidity(t, e, to == 0 || inside && isTest)
			}
		}
	}
	// What lies behind the end of the list is no node.
	long := append(graph(nil, emitNode(con(1), 1)).Nodes, emitNode(con(1), 0))
	wantGraphValidity(t, impl.Graph{Nodes: long[:3]}, true)
	long[0].Next = 3
	wantGraphValidity(t, impl.Graph{Nodes: long[:3]}, false)
}

func TestKindsOfNodes(t *testing.T) {
	for _, kind := range manyIntegers() {
		ends := func(n impl.Node) impl.Graph { return graph([]string{"x", "y"}, emitNode(con(1), 1), n) }
		wantGraphValidity(t, ends(impl.Node{Kind: kind}), false)
		wantGraphValidity(t, ends(impl.Node{Kind: kind, Expr: con(1), Next: 1}), kind == 2 || kind == 3)
		wantGraphValidity(t, ends(impl.Node{Kind: kind, Expr: con(1), Next: 2, Other: 1}), kind == 2)
		wantGraphValidity(t, ends(impl.Node{Kind: kind, Expr: con(1), Other: 2}), kind == 2)
		wantGraphValidity(t, ends(impl.Node{Kind: kind, Name: "x", Expr: con(1), Next: 2}), kind == 1)
		wantGraphValidity(t, ends(impl.Node{Kind: kind, Name: "x", Expr: con(1), Other: 2}), false)
		wantGraphValidity(t, ends(impl.Node{Kind: kind, Name: "x", Next: 2}), false)
	}
	for _, name := range []string{"", "x", "y", "z", "xx", "X", "if", "emit", "test", "x ", "\x00", "x\x00", "\xff", "toolongname"} {
		for _, vars := range [][]string{nil, {"x"}, {"y"}, {"x", "y"}, {"y", "x"}, {"z", "xx"}} {
			wantGraphValidity(t, graph(vars, assignNode(name, con(1), 1)), slices.Contains(vars, name))
			for kind := 2; kind <= 5; kind++ {
				wantGraphValidity(t, graph(vars, impl.Node{Kind: kind, Name: name, Expr: con(1), Next: 1}), name == "" && kind < 4)
			}
		}
	}
}

func TestExprsOfNodes(t *testing.T) {
	with := func(e impl.Expr) []impl.Node {
		return []impl.Node{assignNode("x", e, 1), testNode(e, 1, 0), emitNode(e, 1)}
	}
	want := func(e impl.Expr, valid bool) {
		t.Helper()
		for _, n := range with(e) {
			one, xy := emitNode(con(1), 1), []string{"x", "y"}
			wantGraphValidity(t, graph(xy, n), valid)
			wantGraphValidity(t, graph(xy, n, one, one), valid)
			wantGraphValidity(t, graph(xy, one, one, n), valid)
			wantGraphValidity(t, graph(xy, n, n), valid)
		}
	}
	for _, e := range ordinaryExprs() {
		want(e, !slices.Contains(impl.VarsOfExpr(e), "z9999999"))
	}
	for _, e := range invalidExprs() {
		want(e, false)
	}
	x, y, z := ref("x"), ref("y"), ref("z")
	for _, e := range []impl.Expr{z, not(z), nots(4, z), ref("xx"), bin(impl.OpAdd, x, z), bin(impl.OpAdd, z, x), bin(impl.OpAnd, con(0), z), bin(impl.OpAdd, bin(impl.OpAdd, x, y), bin(impl.OpAdd, y, not(z)))} {
		want(e, false)
	}
	four, five := not(bin(1, con(1), con(1))), bin(1, bin(1, con(1), con(1)), con(1))
	want(bin(1, fullTree(3), four), true)
	want(bin(1, fullTree(3), five), false)
	want(nots(4, x), true)
	want(nots(5, x), false)
	want(endlessExpr(), false)
	want(nots(100000, x), false)
	for _, n := range with(x) {
		wantGraphValidity(t, graph([]string{"x"}, n), true)
		wantGraphValidity(t, graph([]string{"x", "c"}, n), true)
		wantGraphValidity(t, graph([]string{"c", "x"}, n), true)
		wantGraphValidity(t, graph([]string{"y"}, n), false)
		wantGraphValidity(t, graph(nil, n), false)
	}
	for _, n := range with(y) {
		wantGraphValidity(t, graph([]string{"x"}, n), false)
		wantGraphValidity(t, graph([]string{"x", "y"}, n), true)
	}
}

func TestVarsOfGraphs(t *testing.T) {
	wantVars := func(vars []string) {
		t.Helper()
		valid := isValidByText(impl.Program{Vars: vars})
		wantGraphValidity(t, graph(vars), valid)
		wantGraphValidity(t, graph(vars, emitNode(con(1), 1)), valid)
	}
	for _, list := range listsOver([]string{"x", "y", "x1", "if", "", "X", "a"}, 3) {
		wantVars(list)
	}
	for _, name := range slices.Concat(stringsOver("abif09Z ", 3), reserved, []string{"toolongn", "toolongna", "abcdefgh", "abcdefghi", "x\n", "\x00", "\xff", "é"}) {
		wantVars([]string{name})
		wantVars([]string{"x", name})
		wantVars([]string{name, "x"})
	}
	wantVars(slices.Repeat([]string{"x"}, 100000))
	wantVars([]string{"x", "y", "z"})
	wantVars([]string{"x", "y", "z"}[:2])
	wantGraphValidity(t, graph([]string{"x", "y", "z"}[:2], emitNode(ref("z"), 1)), false)
	wantGraphValidity(t, graph([]string{"x", "y"}[:1], assignNode("y", con(1), 1)), false)
}

// The limits of programs are not those of graphs.
func TestLargeGraphs(t *testing.T) {
	for _, number := range []int{8, 9, 20, 50000} {
		var nodes []impl.Node
		for k := range number {
			nodes = append(nodes, []impl.Node{emitNode(ref("x"), k+1), assignNode("x", con(1), number-k), testNode(ref("y"), number, k)}[k%3])
		}
		g := graph([]string{"x", "y"}, nodes...)
		wantGraphValidity(t, g, true)
		wantTerminal(t, g, number-1, false)
		wantTerminal(t, g, number, true)
		wantTerminal(t, g, number+1, true)
		wantTerminal(t, g, number+2, false)
		for _, at := range []int{0, number / 2, number - 1} {
			kept := g.Nodes[at]
			g.Nodes[at].Next = number + 1
			wantGraphValidity(t, g, false)
			g.Nodes[at] = impl.Node{Kind: impl.NodeHalt}
			wantGraphValidity(t, g, false)
			g.Nodes[at] = kept
		}
		wantGraphValidity(t, g, true)
	}
}

// randomGraph returns a valid graph.
func randomGraph(random *rand.Rand) impl.Graph {
	vars := [][]string{nil, {"x"}, {"x", "y"}, {"y", "x"}}[random.IntN(4)]
	number := random.IntN(6)
	var nodes []impl.Node
	for range number {
		e := con(random.IntN(4))
		if len(vars) > 0 {
			e = randomExpr(random, vars, 1+random.IntN(3))
		}
		n := emitNode(e, random.IntN(number+1))
		switch kind := random.IntN(3); {
		case kind == 0 && len(vars) > 0:
			n = assignNode(vars[random.IntN(len(vars))], e, n.Next)
		case kind == 1:
			n = testNode(e, n.Next, random.IntN(number+1))
		}
		nodes = append(nodes, n)
	}
	return graph(vars, nodes...)
}

// faultOfNode makes a valid node wrong, or leaves it as valid as it was.
func faultOfNode(random *rand.Rand) func(*impl.Node) {
	name, number := []string{"x", "y", "z", "", "if"}[random.IntN(5)], random.IntN(9)-1
	e := randomExpr(random, []string{"x", "y", "z"}[:2+random.IntN(2)], 1+random.IntN(3))
	return []func(*impl.Node){
		func(n *impl.Node) { n.Kind = number }, func(n *impl.Node) { n.Name = name }, func(n *impl.Node) { n.Expr = e }, func(n *impl.Node) { n.Expr.N = number }, func(n *impl.Node) { n.Expr = impl.Expr{} },
		func(n *impl.Node) { n.Next = number }, func(n *impl.Node) { n.Other = number }, func(n *impl.Node) { n.Next, n.Other = n.Other, n.Next }, func(n *impl.Node) { *n = testNode(e, number, 0) },
	}[random.IntN(9)]
}

func TestRandomGraphs(t *testing.T) {
	random := rand.New(rand.NewPCG(12, 4))
	valid, notValid := 0, 0
	for range 40000 {
		g := copyGraph(randomGraph(random))
		if !impl.IsValidGraph(g) {
			t.Fatalf("IsValidGraph(%v) is false", g)
		}
		for range random.IntN(3) {
			faultOfNode(random)(&g.Nodes[random.IntN(len(g.Nodes))])
		}
		switch random.IntN(8) {
		case 0:
			g.Nodes = slices.Delete(g.Nodes, 0, 1)
		case 1:
			g.Vars = []string{"x", "y", "z", "x", "if"}[random.IntN(4):][:random.IntN(3)]
		case 2:
			i, k := random.IntN(len(g.Nodes)), random.IntN(len(g.Nodes))
			g.Nodes[i], g.Nodes[k] = g.Nodes[k], g.Nodes[i]
		}
		want := isValidGraphByText(g)
		if impl.IsValidGraph(g) != want {
			t.Fatalf("IsValidGraph(%v) is %v", g, !want)
		}
		if want {
			valid++
		} else {
			notValid++
		}
	}
	if min(valid, notValid) < 10000 {
		t.Errorf("%d graphs are valid, and %d are not", valid, notValid)
	}
}

func TestTerminalNodes(t *testing.T) {
	for number := range 13 {
		// Whether the graph is valid does not matter.
		for _, n := range []impl.Node{{}, {Kind: impl.NodeHalt}, {Kind: impl.NodeTrap}, emitNode(con(1), 0), {Kind: -7, Expr: endlessExpr()}} {
			g := impl.Graph{Nodes: slices.Repeat([]impl.Node{n}, number)}
			for _, at := range manyIntegers() {
				wantTerminal(t, g, at, at >= 0 && at < number && (number < 2 || at == number-2 || at == number-1))
			}
		}
	}
	halt, trap := impl.Node{Kind: impl.NodeHalt}, impl.Node{Kind: impl.NodeTrap}
	wantTerminal(t, impl.Graph{}, 0, false)
	wantTerminal(t, impl.Graph{}, -1, false)
	wantTerminal(t, impl.Graph{}, -2, false)
	wantTerminal(t, impl.Graph{Nodes: []impl.Node{halt}}, 0, true)
	wantTerminal(t, impl.Graph{Nodes: []impl.Node{halt}}, -1, false)
	wantTerminal(t, impl.Graph{Nodes: []impl.Node{halt}}, 1, false)
	wantTerminal(t, impl.Graph{Vars: []string{"x", "x"}, Nodes: []impl.Node{emitNode(con(9), 9)}}, 0, true)
	wantTerminal(t, impl.Graph{Nodes: []impl.Node{halt, trap, {}, {}}}, 0, false)
	wantTerminal(t, impl.Graph{Nodes: []impl.Node{halt, trap, {}, {}}}, 2, true)
	// What lies behind the end of the list is no node.
	long := []impl.Node{halt, trap, {}, {}}
	wantTerminal(t, impl.Graph{Nodes: long[:2]}, 2, false)
	wantTerminal(t, impl.Graph{Nodes: long[:1]}, 1, false)
	wantTerminal(t, impl.Graph{Nodes: long[:0]}, 0, false)
}

func TestTextsOfNodes(t *testing.T) {
	x := ref("x")
	wantNodeText(t, assignNode("x", bin(impl.OpAdd, x, con(1)), 0), "x := x + 1 -> 0")
	wantNodeText(t, assignNode("abcdefgh", con(3), 12), "abcdefgh := 3 -> 12")
	wantNodeText(t, testNode(bin(impl.OpLess, x, con(3)), 1, 2), "test x < 3 -> 1 2")
	wantNodeText(t, testNode(x, 0, 0), "test x -> 0 0")
	wantNodeText(t, testNode(x, 10, 7), "test x -> 10 7")
	wantNodeText(t, emitNode(not(bin(impl.OpSame, x, con(1))), 5), "emit !(x == 1) -> 5")
	wantNodeText(t, impl.Node{Kind: impl.NodeHalt}, "halt")
	wantNodeText(t, impl.Node{Kind: impl.NodeTrap}, "trap")
	wantNodeText(t, impl.Node{}, "?")
	for _, kind := range manyIntegers() {
		want := "?"
		if kind >= 1 && kind <= 5 {
			want = []string{"x := x -> 3", "test x -> 3 1", "emit x -> 3", "halt", "trap"}[kind-1]
		}
		// Fields that a kind does not use are not written.
		wantNodeText(t, impl.Node{Kind: kind, Name: "x", Expr: x, Next: 3, Other: 1}, want)
	}
	for _, n := range manyIntegers() {
		wantNodeText(t, assignNode("x", x, n), "x := x -> "+strconv.Itoa(n))
		wantNodeText(t, emitNode(x, n), "emit x -> "+strconv.Itoa(n))
		wantNodeText(t, testNode(x, n, 1), "test x -> "+strconv.Itoa(n)+" 1")
		wantNodeText(t, testNode(x, 1, n), "test x -> 1 "+strconv.Itoa(n))
		wantNodeText(t, testNode(x, n, n), "test x -> "+strconv.Itoa(n)+" "+strconv.Itoa(n))
	}
	for _, e := range ordinaryExprs() {
		s, _ := shortSource(e)
		wantNodeText(t, assignNode("y", e, 1), "y := "+s+" -> 1")
		wantNodeText(t, testNode(e, 1, 2), "test "+s+" -> 1 2")
		wantNodeText(t, emitNode(e, 1), "emit "+s+" -> 1")
	}
	// An expression that is not valid has the text "".
	for _, e := range append(invalidExprs(), fullTree(5), nots(5, x), nots(100000, x), endlessExpr()) {
		wantNodeText(t, assignNode("y", e, 1), "y :=  -> 1")
		wantNodeText(t, testNode(e, 1, 2), "test  -> 1 2")
		wantNodeText(t, emitNode(e, 1), "emit  -> 1")
		wantNodeText(t, impl.Node{Kind: impl.NodeHalt, Expr: e}, "halt")
		wantNodeText(t, impl.Node{Kind: impl.NodeTrap, Expr: e}, "trap")
		wantNodeText(t, impl.Node{Kind: 6, Expr: e}, "?")
	}
	for _, name := range []string{"", "if", "X", "x y", "toolongname", "\x00", "\xff", "é", "\n", "?", "->"} {
		wantNodeText(t, assignNode(name, x, 1), name+" := x -> 1")
		wantNodeText(t, impl.Node{Kind: impl.NodeTest, Name: name, Expr: x}, "test x -> 0 0")
		wantNodeText(t, impl.Node{Kind: impl.NodeEmit, Name: name, Expr: x}, "emit x -> 0")
	}
}

// placesIn adds the addresses of all expressions below e, also of those behind the ends of its lists. It reports whether none of them was there before.
func placesIn(places map[*impl.Expr]bool, e impl.Expr) bool {
	isNew := true
	args := e.Args[:cap(e.Args)]
	for i := range args {
		isNew = isNew && !places[&args[i]]
		places[&args[i]] = true
		isNew = placesIn(places, args[i]) && isNew
	}
	return isNew
}

func TestGraphsShareNoMemory(t *testing.T) {
	// In some of the programs, statements or parts of an expression share memory.
	sum := func() impl.Expr { return bin(impl.OpAdd, ref("x"), not(ref("x"))) }
	within, once := sum(), sum()
	shared := block(assign("x", once), emit(once))
	programs := append(runningPrograms(t), prog("x", slices.Repeat(block(emit(sum())), 8)...), prog("x", emit(bin(impl.OpAdd, not(within), not(within)))), prog("x", when(once, shared, shared[1:]), while(once, shared...)))
	for _, p := range programs {
		vars, array := behind(p.Vars)
		p.Vars = vars
		places := map[*impl.Expr]bool{}
		for _, s := range stmtsOf(p.Body) {
			placesIn(places, s.Expr)
		}
		g, other := impl.BuildGraph(p), impl.BuildGraph(p)
		for _, n := range slices.Concat(g.Nodes, other.Nodes) {
			if !placesIn(places, n.Expr) {
				t.Fatalf("the node %v of the graph of %v shares memory", n, p)
			}
		}
		want := graphByText(copyProgram(p))
		// A change of a result changes neither another result nor an argument.
		for k := range other.Nodes[:cap(other.Nodes)] {
			n := &other.Nodes[:cap(other.Nodes)][k]
			for _, e := range nodesOf(&n.Expr) {
				*e = impl.Expr{Kind: -7}
			}
			*n = impl.Node{Kind: -7}
		}
		for i := range other.Vars[:cap(other.Vars)] {
			other.Vars[:cap(other.Vars)][i] = "changed"
		}
		wantGraph(t, p, want)
		// Nor does a change of an argument change a result.
		for i := range array {
			array[i] = "changed"
		}
		stmts, exprs := partsOf(p.Body)
		for _, part := range exprs {
			*part = impl.Expr{Kind: -7}
		}
		for _, part := range stmts {
			*part = impl.Stmt{Kind: -7}
		}
		if !sameGraph(g, want) {
			t.Fatalf("the graph %v has become %v", want, g)
		}
	}
}

func TestProgramsOfGraphsAreNotModified(t *testing.T) {
	for _, plain := range append(differentPrograms(), runningPrograms(t)...) {
		vars, array := behind(plain.Vars)
		p := impl.Program{Vars: vars, Body: spaciousStmts(plain.Body)}
		before, beforeVars := stmtsWithCapacity(p.Body), slices.Clone(array)
		g := impl.BuildGraph(p)
		if !sameGraph(g, impl.BuildGraph(plain)) {
			t.Errorf("what lies behind the lists of %v changes its graph", plain)
		}
		g.Vars = append(g.Vars, "changed")
		for _, n := range g.Nodes {
			for _, e := range nodesOf(&n.Expr) {
				*e = impl.Expr{Kind: -7}
			}
		}
		if !reflect.DeepEqual(stmtsWithCapacity(p.Body), before) || !slices.Equal(array, beforeVars) {
			t.Errorf("BuildGraph or a change of its result modified %v", plain)
		}
	}
}

// spaciousNodes returns a copy of list in which all lists go on behind their ends.
func spaciousNodes(list []impl.Node) []impl.Node {
	all := make([]impl.Node, 0, len(list)+2)
	for _, n := range list {
		n.Expr = spacious(n.Expr)
		all = append(all, n)
	}
	return append(all, assignNode("behind", spacious(con(1)), 9), impl.Node{Kind: -9})[:len(list)]
}

// nodesWithCapacity returns a copy of list in which each list is as long as its capacity.
func nodesWithCapacity(list []impl.Node) []impl.Node {
	var all []impl.Node
	for _, n := range list[:cap(list)] {
		n.Expr = withCapacity(n.Expr)
		all = append(all, n)
	}
	return all
}

func TestGraphsAreNotModified(t *testing.T) {
	graphs := append(someGraphs(), impl.Graph{}, impl.Graph{Vars: []string{"x", "x"}, Nodes: []impl.Node{{Expr: not(con(1))}}}, graph([]string{"x"}, emitNode(not(ref("y")), 9), impl.Node{Kind: 7, Expr: fullTree(6)}))
	for _, plain := range graphs {
		vars, array := behind(plain.Vars)
		g := impl.Graph{Vars: vars, Nodes: spaciousNodes(plain.Nodes)}
		before, beforeVars := nodesWithCapacity(g.Nodes), slices.Clone(array)
		wantGraphValidity(t, g, isValidGraphByText(plain))
		for at := -1; at <= len(g.Nodes); at++ {
			wantTerminal(t, g, at, impl.IsTerminal(plain, at))
		}
		for k, n := range g.Nodes {
			wantNodeText(t, n, impl.FormatNode(plain.Nodes[k]))
		}
		if !reflect.DeepEqual(nodesWithCapacity(g.Nodes), before) || !slices.Equal(array, beforeVars) {
			t.Errorf("a function modified %v", plain)
		}
	}
}

func TestGraphsKeepNothing(t *testing.T) {
	p := prog("x", while(ref("x"), assign("x", con(1))), emit(ref("x")))
	for range 3 {
		g := impl.BuildGraph(p)
		wantGraph(t, p, graph([]string{"x"}, testNode(ref("x"), 1, 2), assignNode("x", con(1), 0), emitNode(ref("x"), 3)))
		wantGraphValidity(t, g, true)
		// The same memory with another content is another program, or another graph.
		p.Body[0].Body[0] = emit(con(2))
		wantGraph(t, p, graph([]string{"x"}, testNode(ref("x"), 1, 2), emitNode(con(2), 0), emitNode(ref("x"), 3)))
		p.Vars[0] = "y"
		wantNoGraph(t, p)
		p.Vars[0], p.Body[0].Body[0] = "x", assign("x", con(1))
		g.Nodes[0].Next = 4
		wantGraphValidity(t, g, false)
		wantNodeText(t, g.Nodes[0], "test x -> 4 2")
		g.Nodes[0].Next = 3
		wantGraphValidity(t, g, true)
		g.Nodes = g.Nodes[:4]
		wantGraphValidity(t, g, false)
		wantTerminal(t, g, 2, true)
	}
}
