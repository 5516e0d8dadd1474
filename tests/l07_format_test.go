package tests

import (
	"fmt"
	"math"
	"math/rand/v2"
	"reflect"
	"slices"
	"strings"
	"testing"

	"loop.example/g00514/impl"
)

// operatorLevels has the symbols and the levels of the operators 1 to 8.
var operatorLevels = []struct {
	op     int
	symbol string
	level  int
}{{1, "+", 4}, {2, "-", 4}, {3, "*", 5}, {4, "/", 5}, {5, "<", 3}, {6, "==", 3}, {7, "&", 2}, {8, "|", 1}}

func wantLevel(t *testing.T, e impl.Expr, want int) {
	t.Helper()
	if got := impl.LevelOf(e); got != want {
		t.Errorf("LevelOf an expression of the kind %d with N %d is %d; want %d", e.Kind, e.N, got, want)
	}
}

// wantFormatOf takes a function that returns source code, "" of what is not valid. It does not print that, as it may be endless.
func wantFormatOf[T any](t *testing.T, format func(T) string, value T, want string) {
	t.Helper()
	if got := format(value); got != want {
		text := "what is not valid"
		if want != "" {
			text = fmt.Sprint(value)
		}
		t.Errorf("the source code of %.400s is %.400q; want %q", text, got, want)
	}
}

func wantFormat(t *testing.T, e impl.Expr, want string) {
	t.Helper()
	wantFormatOf(t, impl.FormatExpr, e, want)
}

func wantNoFormat(t *testing.T, e impl.Expr) {
	t.Helper()
	wantFormatOf(t, impl.FormatExpr, e, "")
}

// wantNormalBy takes a function that normalizes source code, and "" as want if this has an error.
func wantNormalBy(t *testing.T, normalize func(string) (string, bool), s string, want string) {
	t.Helper()
	if got, ok := normalize(s); got != want || ok != (want != "") {
		t.Errorf("%.450q is normalized to %q, %v; want %q", s, got, ok, want)
	}
}

func wantNormal(t *testing.T, s string, want string) {
	t.Helper()
	wantNormalBy(t, impl.NormalizeExpr, s, want)
}

func wantNotNormal(t *testing.T, s string) {
	t.Helper()
	wantNormalBy(t, impl.NormalizeExpr, s, "")
}

// spacedOut returns the tokens of s with single spaces around binary operators, and no others.
func spacedOut(s string) string {
	var all strings.Builder
	list, _ := tokensByParts(s)
	for _, token := range list {
		text := writtenOut(token)
		if ruleOf(text) >= 0 {
			text = " " + text + " "
		}
		all.WriteString(text)
	}
	return all.String()
}

// withoutOnePair returns all strings that are s without one parenthesis and the one that closes it.
func withoutOnePair(s string) []string {
	var all []string
	var open []int
	for i := range len(s) {
		switch s[i] {
		case '(':
			open = append(open, i)
		case ')':
			first := open[len(open)-1]
			open = open[:len(open)-1]
			all = append(all, s[:first]+s[first+1:i]+s[i+1:])
		}
	}
	return all
}

// wantSource takes a valid expression and checks all that is said of its source code.
func wantSource(t *testing.T, e impl.Expr) {
	t.Helper()
	s := impl.FormatExpr(e)
	if short, _ := shortSource(e); s != short {
		t.Fatalf("FormatExpr(%v) = %q; want %q", e, s, short)
	}
	wantParsed(t, s, e, -1)
	if read, bad := readByTree(s); bad != -1 || !sameExpr(read, e) {
		t.Fatalf("FormatExpr(%v) = %q is the source code of %v", e, s, read)
	}
	if spaced := spacedOut(s); s != spaced {
		t.Fatalf("FormatExpr(%v) = %q; with the right spaces, it is %q", e, s, spaced)
	}
	for _, fewer := range withoutOnePair(s) {
		if read, bad := readByTree(fewer); bad == -1 && sameExpr(read, e) {
			t.Fatalf("FormatExpr(%v) = %q, but %q is enough", e, s, fewer)
		}
	}
	for _, source := range []string{s, fullSource(e), " \n" + s + " ", "(" + s + ")", strings.ReplaceAll(s, " ", ""), strings.ReplaceAll(s, " ", "\n ")} {
		wantNormal(t, source, s)
	}
}

func TestLevels(t *testing.T) {
	x, y := ref("x"), ref("y")
	for _, o := range operatorLevels {
		wantLevel(t, bin(o.op, x, y), o.level)
		wantLevel(t, bin(o.op, not(x), bin(9-o.op, x, y)), o.level)
		wantLevel(t, not(bin(o.op, x, y)), 6)
	}
	wantLevel(t, not(x), 6)
	wantLevel(t, nots(4, x), 6)
	wantLevel(t, x, 7)
	wantLevel(t, ref("abcdefgh"), 7)
	for n := range 4 {
		wantLevel(t, con(n), 7)
		wantLevel(t, not(con(n)), 6)
	}
}

func TestLevelsOfTheExample(t *testing.T) {
	e, _ := impl.ParseExpr("!(x == 1) & y - (x - 1) < 2")
	wantLevel(t, e, 2)
	wantLevel(t, e.Args[0], 6)
	wantLevel(t, e.Args[0].Args[0], 3)
	wantLevel(t, e.Args[1], 3)
	wantLevel(t, e.Args[1].Args[0], 4)
	wantLevel(t, e.Args[1].Args[0].Args[1], 4)
	wantLevel(t, e.Args[1].Args[1], 7)
}

// Kind and N alone decide, so what else is wrong with an expression does not matter.
func TestLevelsOfInvalidExprs(t *testing.T) {
	integers := []int{-1 << 32, -256, -9, -8, -4, -3, -1, 0, 1, 2, 3, 4, 5, 6, 7, 8, 9, 10, 16, 256, 257, 1 << 32, 1<<32 + 3, 1<<32 + 4, math.MinInt, math.MinInt + 3, math.MaxInt}
	x := ref("x")
	for _, kind := range integers {
		for _, n := range integers {
			want := 7
			switch {
			case kind == 4:
				want = 6
			case kind == 3 && 1 <= n && n <= 8:
				want = operatorLevels[n-1].level
			}
			for _, args := range [][]impl.Expr{nil, {}, {x}, {x, x}, {x, {}, x}, {nots(5, x), {Kind: -1}}} {
				wantLevel(t, impl.Expr{Kind: kind, N: n, Args: args}, want)
				wantLevel(t, impl.Expr{Kind: kind, N: n, Name: "x", Args: args}, want)
			}
		}
	}
	wantLevel(t, impl.Expr{}, 7)
	wantLevel(t, fullTree(9), 4)
	wantLevel(t, nots(100000, x), 6)
	wantLevel(t, bin(impl.OpOr, nots(100000, x), x), 1)
	endless := []impl.Expr{{Kind: impl.ExprOp, N: impl.OpLess}, x}
	endless[0].Args = endless
	wantLevel(t, endless[0], 3)
	wantLevel(t, impl.Expr{Kind: impl.ExprNot, Args: endless}, 6)
}

func TestFormatsOfAtoms(t *testing.T) {
	for n := range 4 {
		wantFormat(t, con(n), "0123"[n:n+1])
	}
	for _, name := range []string{"x", "y", "z", "x1", "x00", "abcdefgh", "z9999999", "aa", "iff", "vars1", "true"} {
		wantFormat(t, ref(name), name)
		wantFormat(t, not(ref(name)), "!"+name)
		wantFormat(t, bin(impl.OpAdd, ref(name), ref(name)), name+" + "+name)
	}
}

func TestFormatsOfExprs(t *testing.T) {
	x, y, z, one, two := ref("x"), ref("y"), ref("z"), con(1), con(2)
	for want, e := range map[string]impl.Expr{
		"!(x == 1) & y - (x - 1) < 2": bin(impl.OpAnd, not(bin(impl.OpSame, x, one)), bin(impl.OpLess, bin(impl.OpSubtract, y, bin(impl.OpSubtract, x, one)), two)),
		"x - 1 - 1":                   bin(impl.OpSubtract, bin(impl.OpSubtract, x, one), one),
		"x - (1 - 1)":                 bin(impl.OpSubtract, x, bin(impl.OpSubtract, one, one)),
		"x + (y + z)":                 bin(impl.OpAdd, x, bin(impl.OpAdd, y, z)),
		"x + y - z":                   bin(impl.OpSubtract, bin(impl.OpAdd, x, y), z),
		"x - (y + z)":                 bin(impl.OpSubtract, x, bin(impl.OpAdd, y, z)),
		"x / y * z":                   bin(impl.OpMultiply, bin(impl.OpDivide, x, y), z),
		"x / (y * z)":                 bin(impl.OpDivide, x, bin(impl.OpMultiply, y, z)),
		"x * (y / z)":                 bin(impl.OpMultiply, x, bin(impl.OpDivide, y, z)),
		"(x + 1) * 2":                 bin(impl.OpMultiply, bin(impl.OpAdd, x, one), two),
		"x * 2 + 1":                   bin(impl.OpAdd, bin(impl.OpMultiply, x, two), one),
		"1 + x * 2":                   bin(impl.OpAdd, one, bin(impl.OpMultiply, x, two)),
		"(x < y) < z":                 bin(impl.OpLess, bin(impl.OpLess, x, y), z),
		"x < (y < z)":                 bin(impl.OpLess, x, bin(impl.OpLess, y, z)),
		"(x == y) < z":                bin(impl.OpLess, bin(impl.OpSame, x, y), z),
		"(x < 1) == y":                bin(impl.OpSame, bin(impl.OpLess, x, one), y),
		"(x < 1) == (y < 2)":          bin(impl.OpSame, bin(impl.OpLess, x, one), bin(impl.OpLess, y, two)),
		"x + 1 < y + 2":               bin(impl.OpLess, bin(impl.OpAdd, x, one), bin(impl.OpAdd, y, two)),
		"(x & y) == (x | y)":          bin(impl.OpSame, bin(impl.OpAnd, x, y), bin(impl.OpOr, x, y)),
		"x < 1 & y < 2":               bin(impl.OpAnd, bin(impl.OpLess, x, one), bin(impl.OpLess, y, two)),
		"x & y & z":                   bin(impl.OpAnd, bin(impl.OpAnd, x, y), z),
		"x & (y & z)":                 bin(impl.OpAnd, x, bin(impl.OpAnd, y, z)),
		"x | y | z":                   bin(impl.OpOr, bin(impl.OpOr, x, y), z),
		"x | (y | z)":                 bin(impl.OpOr, x, bin(impl.OpOr, y, z)),
		"x | y & z":                   bin(impl.OpOr, x, bin(impl.OpAnd, y, z)),
		"(x | y) & z":                 bin(impl.OpAnd, bin(impl.OpOr, x, y), z),
		"x & (y | z)":                 bin(impl.OpAnd, x, bin(impl.OpOr, y, z)),
		"!x":                          not(x),
		"!!!!x":                       nots(4, x),
		"!(x + y)":                    not(bin(impl.OpAdd, x, y)),
		"!(x * y)":                    not(bin(impl.OpMultiply, x, y)),
		"!!(x | y)":                   nots(2, bin(impl.OpOr, x, y)),
		"!(!x & y)":                   not(bin(impl.OpAnd, not(x), y)),
		"!x * !y":                     bin(impl.OpMultiply, not(x), not(y)),
		"!x == !!y":                   bin(impl.OpSame, not(x), nots(2, y)),
		"x - !(y - z)":                bin(impl.OpSubtract, x, not(bin(impl.OpSubtract, y, z))),
		"1 - (1 - (1 - (1 - 1)))":     bin(impl.OpSubtract, one, bin(impl.OpSubtract, one, bin(impl.OpSubtract, one, bin(impl.OpSubtract, one, one)))),
		"1 - 1 - 1 - 1 - 1":           bin(impl.OpSubtract, bin(impl.OpSubtract, bin(impl.OpSubtract, bin(impl.OpSubtract, one, one), one), one), one),
		"x * (y | !z) / (2 / !x)":     bin(impl.OpDivide, bin(impl.OpMultiply, x, bin(impl.OpOr, y, not(z))), bin(impl.OpDivide, two, not(x))),
		"1 + 1 + (1 + 1)":             fullTree(3),
	} {
		wantFormat(t, e, want)
		wantSource(t, e)
	}
}

func TestOperandsOfEachLevel(t *testing.T) {
	x, y, z := ref("x"), ref("y"), ref("z")
	for _, outer := range operatorLevels {
		wantFormat(t, bin(outer.op, x, y), "x "+outer.symbol+" y")
		wantFormat(t, bin(outer.op, not(x), not(y)), "!x "+outer.symbol+" !y")
		wantFormat(t, not(bin(outer.op, x, y)), "!(x "+outer.symbol+" y)")
		wantFormat(t, bin(outer.op, not(bin(outer.op, x, y)), z), "!(x "+outer.symbol+" y) "+outer.symbol+" z")
		for _, inner := range operatorLevels {
			left, right := "x "+inner.symbol+" y", "y "+inner.symbol+" z"
			if inner.level < outer.level || inner.level == 3 && outer.level == 3 {
				left = "(" + left + ")"
			}
			if inner.level <= outer.level {
				right = "(" + right + ")"
			}
			wantFormat(t, bin(outer.op, bin(inner.op, x, y), z), left+" "+outer.symbol+" z")
			wantFormat(t, bin(outer.op, x, bin(inner.op, y, z)), "x "+outer.symbol+" "+right)
			wantFormat(t, bin(outer.op, bin(inner.op, x, y), bin(inner.op, y, z)), left+" "+outer.symbol+" "+right)
		}
	}
}

func TestOnlyValidExprsHaveFormats(t *testing.T) {
	x := ref("x")
	wantNoFormat(t, impl.Expr{})
	for _, e := range invalidExprs() {
		for _, whole := range []impl.Expr{
			e, not(e), bin(impl.OpAdd, e, x), bin(impl.OpAdd, x, e), bin(impl.OpAnd, con(0), not(e)), bin(impl.OpMultiply, bin(impl.OpLess, x, e), x), nots(3, bin(impl.OpLess, e, x)),
		} {
			wantNoFormat(t, whole)
		}
	}
	for _, e := range ordinaryExprs() {
		for _, change := range []func(*impl.Expr){
			func(node *impl.Expr) { node.Kind = 0 }, func(node *impl.Expr) { node.Kind = 5 },
			func(node *impl.Expr) { node.N = -1 }, func(node *impl.Expr) { node.N = 9 }, func(node *impl.Expr) { node.Name += "?" },
			func(node *impl.Expr) { node.Name = "while" }, func(node *impl.Expr) { node.Args = append(node.Args, x) },
		} {
			for _, changed := range changedNodes(e, change) {
				wantNoFormat(t, changed)
			}
		}
	}
}

func TestLimitsOfFormattedExprs(t *testing.T) {
	four, five := not(bin(1, con(1), con(1))), bin(1, bin(1, con(1), con(1)), con(1))
	for want, e := range map[string]impl.Expr{
		"1 + 1 + (1 + 1) + !(1 + 1)":   bin(1, fullTree(3), four),
		"!(1 + 1) + (1 + 1 + (1 + 1))": bin(1, four, fullTree(3)),
		"!(1 + 1 + (1 + 1) + (1 + 1))": not(bin(1, fullTree(3), bin(1, con(1), con(1)))),
		"!!!!1":                        nots(4, con(1)),
		"!!!1 + !!!1":                  bin(1, nots(3, con(1)), nots(3, con(1))),
		"1 + (1 + (1 + (1 + 1)))":      bin(1, con(1), bin(1, con(1), bin(1, con(1), bin(1, con(1), con(1))))),
		"1 + 1 + 1 + 1 + !1":           bin(1, bin(1, bin(1, bin(1, con(1), con(1)), con(1)), con(1)), not(con(1))),
		"1 + 1 + (1 + 1) + (1 + 1)":    bin(1, fullTree(3), bin(1, con(1), con(1))),
	} {
		wantFormat(t, e, want)
		wantSource(t, e)
	}
	for _, e := range []impl.Expr{
		bin(1, fullTree(3), five), bin(1, five, fullTree(3)), not(bin(1, fullTree(3), four)), fullTree(4), fullTree(5), fullTree(12), nots(5, con(1)), nots(11, con(1)), nots(100000, con(1)),
		bin(1, nots(4, con(1)), con(1)), bin(1, con(1), nots(4, con(1))), {Kind: impl.ExprOp, N: 1, Args: make([]impl.Expr, 100000)},
	} {
		wantNoFormat(t, e)
	}
}

func TestEndlessAndSharedExprsAreFormatted(t *testing.T) {
	pair := []impl.Expr{ref("x"), ref("y")}
	e := bin(impl.OpMultiply, impl.Expr{Kind: impl.ExprOp, N: impl.OpAdd, Args: pair}, impl.Expr{Kind: impl.ExprOp, N: impl.OpSubtract, Args: pair})
	wantFormat(t, e, "(x + y) * (x - y)")
	e = bin(impl.OpLess, impl.Expr{Kind: impl.ExprNot, Args: pair[1:]}, impl.Expr{Kind: impl.ExprNot, Args: pair[:1]})
	wantFormat(t, e, "!y < !x")
	e = ref("x")
	for range 100 {
		e = bin(impl.OpAdd, e, e)
	}
	wantNoFormat(t, e)
	for _, kind := range []int{impl.ExprConst, impl.ExprVar, impl.ExprOp, impl.ExprNot, 0, -7} {
		for _, count := range []int{1, 2} {
			args := []impl.Expr{{Kind: kind}, ref("x")}[:count]
			args[0].N = []int{0, 1}[count-1]
			args[0].Args = args
			wantNoFormat(t, args[0])
			wantNoFormat(t, not(args[0]))
			wantNoFormat(t, bin(impl.OpAdd, con(1), args[0]))
		}
	}
}

func TestExprsAreParsedFromTheirFormats(t *testing.T) {
	for _, e := range ordinaryExprs() {
		wantSource(t, e)
	}
	for _, e := range smallExprs([]impl.Expr{con(0), con(1), con(2), con(3), ref("x"), ref("abcdefgh")}, 2) {
		wantSource(t, e)
	}
	for _, e := range smallExprs([]impl.Expr{con(2), ref("x")}, 3) {
		wantSource(t, e)
	}
	random := rand.New(rand.NewPCG(7, 1))
	number, large := 0, 0
	for range 20000 {
		e := randomExpr(random, []string{"x", "y1", "abcdefgh"}, 3+random.IntN(3))
		if count, depth := sizeOf(e); count <= 12 {
			wantSource(t, e)
			number++
			if count > 7 && depth == 5 {
				large++
			}
		}
	}
	if number < 5000 || large < 1000 {
		t.Errorf("%d expressions were formatted, %d of them large", number, large)
	}
}

// However long its names and operators are, source code of a valid expression is within the limits of a text.
func TestLongestFormats(t *testing.T) {
	long := ref("abcdefgh")
	same := func(left, right impl.Expr) impl.Expr { return bin(impl.OpSame, left, right) }
	e := not(same(same(same(long, long), same(long, long)), same(long, long)))
	wantFormat(t, e, "!(((abcdefgh == abcdefgh) == (abcdefgh == abcdefgh)) == (abcdefgh == abcdefgh))")
	wantSource(t, e)
	e = same(same(same(same(long, long), long), long), not(long))
	wantFormat(t, e, "(((abcdefgh == abcdefgh) == abcdefgh) == abcdefgh) == !abcdefgh")
	wantSource(t, e)
	e = same(same(not(same(long, long)), same(long, long)), same(long, long))
	wantFormat(t, e, "(!(abcdefgh == abcdefgh) == (abcdefgh == abcdefgh)) == (abcdefgh == abcdefgh)")
	wantSource(t, e)
}

func TestDifferentExprsHaveDifferentFormats(t *testing.T) {
	seen := map[string]impl.Expr{}
	for _, e := range smallExprs([]impl.Expr{con(1), ref("x")}, 3) {
		s := impl.FormatExpr(e)
		if other, found := seen[s]; found && !sameExpr(e, other) || s == "" {
			t.Fatalf("%v and %v have the source code %q", e, other, s)
		}
		seen[s] = e
	}
}

func TestNormalizeExpr(t *testing.T) {
	for s, want := range map[string]string{
		"x": "x", "3": "3", " x ": "x", "\n0\n": "0", "((x))": "x", "!x": "!x", "! x": "!x", "!(x)": "!x", "!(!(x))": "!!x", "!!!!x": "!!!!x",
		"(x+1)*2": "(x + 1) * 2", "x-(y-1)": "x - (y - 1)", "((x-1)-1)": "x - 1 - 1", "(x-y)-z": "x - y - z", "(x*y)+z": "x * y + z", "x+(y*z)": "x + y * z", "x*(y/z)": "x * (y / z)",
		"!(x==1)&y": "!(x == 1) & y", "(x|y)&1": "(x | y) & 1", "(x&y)|1": "x & y | 1", "x|(y&1)": "x | y & 1", "(x<1)==y": "(x < 1) == y", "x<(1==y)": "x < (1 == y)",
		"(x<1)&(y==2)": "x < 1 & y == 2", "(x+1)<(y-2)": "x + 1 < y - 2", "(!x)*(!y)": "!x * !y", "(!x)<y": "!x < y", "!((x)+y)": "!(x + y)",
		"!( x ==\n1 )&y-(x-1)<2": "!(x == 1) & y - (x - 1) < 2", "x   +\n\n  y": "x + y", "((((((1))))))": "1",
	} {
		wantNormal(t, s, want)
		wantNormal(t, want, want)
		wantNormal(t, "("+s+")", want)
	}
	wantNormal(t, "x"+strings.Repeat(" ", 399), "x")
	wantNormal(t, strings.Repeat("(", 74)+"x"+strings.Repeat(")", 74), "x")
}

func TestSourcesThatAreNotNormalized(t *testing.T) {
	for _, s := range []string{
		"", " ", "\n", "4", "12", "00", "X", "x =", "x = 1", "?", "\x00", "\xff", "abcdefghi", "a", "b", "if", "diff", "a + 1", "x x", "x 1", "1 + ", "+ 1", "- 1", "(", ")", "()", "(x", "x)", "!", "!)",
		"1 < 2 < 3", "1 == 2 == 3", "x ! y", "x;", "x := 1", "vars x ;", "x }", "!!!!!x", "1+1+1+1+1+1", "1+(1+(1+(1+(1+1))))", "(1+1+(1+1))+(1+1+(1+1))",
		strings.Repeat(" ", 401), "x" + strings.Repeat(" ", 400), strings.Repeat("(", 75) + "x" + strings.Repeat(")", 75), strings.Repeat("x", 100000), strings.Repeat("!", 150),
	} {
		wantNotNormal(t, s)
	}
}

func TestNormalizeExprAgreesWithTheSecondReading(t *testing.T) {
	wantSame := func(s string) {
		want := ""
		e, bad := readByTree(s)
		if bad == -1 {
			want, _ = shortSource(e)
		}
		if got, ok := impl.NormalizeExpr(s); got != want || ok != (bad == -1) {
			t.Fatalf("NormalizeExpr(%q) = %q, %v; want %q", s, got, ok, want)
		}
	}
	for _, s := range stringsOver("x1(!<- )", 5) {
		wantSame(s)
	}
	random := rand.New(rand.NewPCG(7, 2))
	for range 20000 {
		texts := randomTexts(random, random.IntN(6))
		if at := random.IntN(len(texts)); random.IntN(4) == 0 {
			texts = slices.Concat(texts[:at], texts[at+1:])
		}
		wantSame(strings.Join(texts, []string{" ", "\n", "  "}[random.IntN(3)]))
	}
}

func TestNilAndEmptyArgsHaveTheSameFormat(t *testing.T) {
	empty := []impl.Expr{}
	one, x := impl.Expr{Kind: impl.ExprConst, N: 1, Args: empty}, impl.Expr{Kind: impl.ExprVar, Name: "x", Args: empty}
	wantFormat(t, one, "1")
	wantFormat(t, x, "x")
	wantFormat(t, not(bin(impl.OpSubtract, x, bin(impl.OpAdd, one, x))), "!(x - (1 + x))")
}

func TestFormattedExprsAreNotModified(t *testing.T) {
	for _, plain := range append(ordinaryExprs(), append(invalidExprs(), fullTree(3), fullTree(6), nots(9, ref("y")))...) {
		e := spacious(plain)
		before := withCapacity(e)
		s := impl.FormatExpr(e)
		impl.LevelOf(e)
		wantFormat(t, plain, s)
		if !reflect.DeepEqual(withCapacity(e), before) {
			t.Errorf("a function modified %v", plain)
		}
		// A change of the argument changes no result.
		kept := strings.Clone(s)
		for _, element := range elementsOf(e) {
			*element = impl.Expr{Kind: impl.ExprVar, Name: "changed"}
		}
		if s != kept {
			t.Errorf("a change of the argument changed its format from %q to %q", kept, s)
		}
	}
}

func TestFormatsKeepNothing(t *testing.T) {
	e := bin(impl.OpSubtract, ref("x"), con(1))
	for range 3 {
		wantFormat(t, e, "x - 1")
		wantLevel(t, e, 4)
		// The same memory with another content is another expression.
		e.Args[1] = bin(impl.OpSubtract, ref("y"), con(2))
		wantFormat(t, e, "x - (y - 2)")
		e.Args[1] = con(4)
		wantNoFormat(t, e)
		e.N = impl.OpLess
		wantNoFormat(t, e)
		wantLevel(t, e, 3)
		e.Args[1] = con(1)
		wantFormat(t, e, "x < 1")
		e.N = impl.OpSubtract
		wantNotNormal(t, "x - ")
		wantNormal(t, "(x)-1", "x - 1")
		wantNotNormal(t, strings.Repeat(" ", 401))
		wantNotNormal(t, "")
		wantNormal(t, "(0)", "0")
	}
}
