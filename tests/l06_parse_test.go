package tests

import (
	"math/rand/v2"
	"regexp"
	"slices"
	"strings"
	"testing"

	"loop.example/g00514/impl"
)

// rulesOfOperators has the operators by the rules of their syntax, from the loosest to the tightest one.
var rulesOfOperators = [][]string{{"|"}, {"&"}, {"<", "=="}, {"+", "-"}, {"*", "/"}}

var operandSyntax = regexp.MustCompile(`^([0-3]|[a-z][a-z0-9]{0,7})\z`)

func opOf(symbol string) int {
	for _, o := range operatorTables {
		if o.symbol == symbol {
			return o.op
		}
	}
	return 0
}

func ruleOf(symbol string) int {
	return slices.IndexFunc(rulesOfOperators, func(symbols []string) bool { return slices.Contains(symbols, symbol) })
}

func sameExpr(e, other impl.Expr) bool {
	return e.Kind == other.Kind && e.N == other.N && e.Name == other.Name && slices.EqualFunc(e.Args, other.Args, sameExpr)
}

// sizeOf returns the number of nodes and the depth.
func sizeOf(e impl.Expr) (int, int) {
	count, below := 1, 0
	for _, arg := range e.Args {
		nodes, depth := sizeOf(arg)
		count, below = count+nodes, max(below, depth)
	}
	return count, below + 1
}

func wantExpr(t *testing.T, s string, want impl.Expr) {
	t.Helper()
	if e, bad := impl.ParseExpr(s); bad != -1 || !sameExpr(e, want) || !impl.IsValidExpr(e) {
		t.Errorf("ParseExpr(%q) = %v, %d; want %v", s, e, bad, want)
	}
}

func wantNoExpr(t *testing.T, s string, want int) {
	t.Helper()
	if e, bad := impl.ParseExpr(s); bad != want || !sameExpr(e, impl.Expr{}) {
		t.Errorf("ParseExpr(%.450q) = %v, %d; want the error at %d", s, e, bad, want)
	}
}

// wrongTokenOf returns the index of the first token that is not permitted, the number of tokens if another one must follow, and -1 for an expression.
// It goes from token to token and knows only what may come next, so it has no tree.
func wrongTokenOf(texts []string) int {
	wantsOperand := true
	compared := []bool{false} // in each parenthesis that is open, behind the last & or |
	for i, text := range texts {
		last := len(compared) - 1
		rule := ruleOf(text)
		switch {
		case wantsOperand && text == "!":
		case wantsOperand && text == "(":
			compared = append(compared, false)
		case wantsOperand && operandSyntax.MatchString(text) && !slices.Contains(reserved, text):
			wantsOperand = false
		case !wantsOperand && text == ")" && last > 0:
			compared = compared[:last]
		case !wantsOperand && rule >= 0 && !(rule == 2 && compared[last]):
			wantsOperand = true
			compared[last] = rule == 2 || rule > 2 && compared[last]
		default:
			return i
		}
	}
	if wantsOperand || len(compared) > 1 {
		return len(texts)
	}
	return -1
}

// treeOf takes the tokens of an expression, and divides them at the last operator of the loosest rule outside of parentheses.
func treeOf(texts []string) impl.Expr {
	at, rule := -1, len(rulesOfOperators)
	open := 0
	for i, text := range texts {
		switch text {
		case "(":
			open++
		case ")":
			open--
		}
		if r := ruleOf(text); open == 0 && r >= 0 && r <= rule {
			at, rule = i, r
		}
	}
	switch {
	case at > 0:
		return bin(opOf(texts[at]), treeOf(texts[:at]), treeOf(texts[at+1:]))
	case texts[0] == "!":
		return not(treeOf(texts[1:]))
	case texts[0] == "(":
		return treeOf(texts[1 : len(texts)-1])
	case texts[0] < "4":
		return con(strings.Index("0123", texts[0]))
	}
	return ref(texts[0])
}

// readByTree reads source code by the functions above and tokensByParts.
func readByTree(s string) (impl.Expr, int) {
	list, bad := tokensByParts(s)
	if bad >= 0 {
		return impl.Expr{}, bad
	}
	var texts []string
	for _, token := range list {
		texts = append(texts, writtenOut(token))
	}
	return readTokens(texts, func(i int) int {
		if i == len(list) {
			return len(s)
		}
		return list[i].At
	})
}

// readTokens takes the offsets of tokens, and of the end.
func readTokens(texts []string, offset func(int) int) (impl.Expr, int) {
	if wrong := wrongTokenOf(texts); wrong >= 0 {
		return impl.Expr{}, offset(wrong)
	}
	e := treeOf(texts)
	if count, depth := sizeOf(e); count > 12 || depth > 5 {
		return impl.Expr{}, 0
	}
	return e, -1
}

// wantParsed also checks that an offset is within the string or at its end.
func wantParsed(t *testing.T, s string, want impl.Expr, wantBad int) {
	t.Helper()
	e, bad := impl.ParseExpr(s)
	if bad != wantBad || !sameExpr(e, want) {
		t.Fatalf("ParseExpr(%.450q) = %v, %d; want %v, %d", s, e, bad, want, wantBad)
	}
	if bad < -1 || bad > len(s) || bad >= 0 && !sameExpr(e, impl.Expr{}) || bad == -1 && !impl.IsValidExpr(e) {
		t.Fatalf("ParseExpr(%.450q) = %v, %d", s, e, bad)
	}
}

func wantParsedByTree(t *testing.T, s string) {
	t.Helper()
	want, wantBad := readByTree(s)
	wantParsed(t, s, want, wantBad)
}

// fullSource has parentheses around all operations and negations.
func fullSource(e impl.Expr) string {
	switch e.Kind {
	case impl.ExprConst:
		return "0123"[e.N : e.N+1]
	case impl.ExprVar:
		return e.Name
	case impl.ExprNot:
		return "(!" + fullSource(e.Args[0]) + ")"
	}
	return "(" + fullSource(e.Args[0]) + operatorTables[e.N-1].symbol + fullSource(e.Args[1]) + ")"
}

// shortSource has only parentheses that are needed, and the rule of the expression: 5 for a negation and 6 for an atom.
func shortSource(e impl.Expr) (string, int) {
	switch e.Kind {
	case impl.ExprConst, impl.ExprVar:
		return fullSource(e), 6
	case impl.ExprNot:
		return "!" + operandSource(e.Args[0], 5), 5
	}
	symbol := operatorTables[e.N-1].symbol
	rule := ruleOf(symbol)
	left := operandSource(e.Args[0], rule+[...]int{0, 0, 1, 0, 0}[rule])
	return left + " " + symbol + " " + operandSource(e.Args[1], rule+1), rule
}

func operandSource(e impl.Expr, least int) string {
	s, rule := shortSource(e)
	if rule < least {
		return "(" + s + ")"
	}
	return s
}

func TestAtoms(t *testing.T) {
	for n := range 4 {
		s := "0123"[n : n+1]
		wantExpr(t, s, con(n))
		wantExpr(t, " \n"+s+"\n ", con(n))
		wantExpr(t, "("+s+")", con(n))
	}
	for _, name := range []string{"x", "y", "z", "c", "xy", "x1", "x00", "abcdefgh", "z9999999", "aa", "ab", "b1", "iff", "vars1", "true", "skip"} {
		wantExpr(t, name, ref(name))
		wantExpr(t, "\n"+name+" ", ref(name))
		wantExpr(t, "( "+name+")", ref(name))
	}
}

func TestOperationsOfSource(t *testing.T) {
	x, y, z := ref("x"), ref("y"), ref("z")
	for s, want := range map[string]impl.Expr{
		"x + 1 < 2 & !y":                bin(impl.OpAnd, bin(impl.OpLess, bin(impl.OpAdd, x, con(1)), con(2)), not(y)),
		"!(x == 1) & y - (x - 1) < 2":   bin(impl.OpAnd, not(bin(impl.OpSame, x, con(1))), bin(impl.OpLess, bin(impl.OpSubtract, y, bin(impl.OpSubtract, x, con(1))), con(2))),
		"x - y - z":                     bin(impl.OpSubtract, bin(impl.OpSubtract, x, y), z),
		"x - (y - z)":                   bin(impl.OpSubtract, x, bin(impl.OpSubtract, y, z)),
		"x / y * z":                     bin(impl.OpMultiply, bin(impl.OpDivide, x, y), z),
		"x/(y*z)":                       bin(impl.OpDivide, x, bin(impl.OpMultiply, y, z)),
		"x + y * z":                     bin(impl.OpAdd, x, bin(impl.OpMultiply, y, z)),
		"x * y + z":                     bin(impl.OpAdd, bin(impl.OpMultiply, x, y), z),
		"(x + y) * z":                   bin(impl.OpMultiply, bin(impl.OpAdd, x, y), z),
		"x|y&z":                         bin(impl.OpOr, x, bin(impl.OpAnd, y, z)),
		"x&y|z":                         bin(impl.OpOr, bin(impl.OpAnd, x, y), z),
		"x|y|z":                         bin(impl.OpOr, bin(impl.OpOr, x, y), z),
		"x&y&z":                         bin(impl.OpAnd, bin(impl.OpAnd, x, y), z),
		"x&(y&z)":                       bin(impl.OpAnd, x, bin(impl.OpAnd, y, z)),
		"x==y&y<z|z":                    bin(impl.OpOr, bin(impl.OpAnd, bin(impl.OpSame, x, y), bin(impl.OpLess, y, z)), z),
		"x|x<1|x==2":                    bin(impl.OpOr, bin(impl.OpOr, x, bin(impl.OpLess, x, con(1))), bin(impl.OpSame, x, con(2))),
		"(x<y)<z":                       bin(impl.OpLess, bin(impl.OpLess, x, y), z),
		"x==(y<z)":                      bin(impl.OpSame, x, bin(impl.OpLess, y, z)),
		"1<(2)":                         bin(impl.OpLess, con(1), con(2)),
		"(x)==(((y)))":                  bin(impl.OpSame, x, y),
		"!x":                            not(x),
		"!!x":                           nots(2, x),
		"! !\n!x":                       nots(3, x),
		"!x*y":                          bin(impl.OpMultiply, not(x), y),
		"x*!y":                          bin(impl.OpMultiply, x, not(y)),
		"!x<y":                          bin(impl.OpLess, not(x), y),
		"!x==!!y":                       bin(impl.OpSame, not(x), nots(2, y)),
		"!(x+y)":                        not(bin(impl.OpAdd, x, y)),
		"!(!(x))":                       nots(2, x),
		"x-!(0)":                        bin(impl.OpSubtract, x, not(con(0))),
		"1-1-1-1":                       bin(impl.OpSubtract, bin(impl.OpSubtract, bin(impl.OpSubtract, con(1), con(1)), con(1)), con(1)),
		"3/2/1":                         bin(impl.OpDivide, bin(impl.OpDivide, con(3), con(2)), con(1)),
		"x\n+\ny":                       bin(impl.OpAdd, x, y),
		"  x+  y ":                      bin(impl.OpAdd, x, y),
		"x+y-z+1":                       bin(impl.OpAdd, bin(impl.OpSubtract, bin(impl.OpAdd, x, y), z), con(1)),
		"((x)+((y)))":                   bin(impl.OpAdd, x, y),
		"1 < 2 & 2 < 3":                 bin(impl.OpAnd, bin(impl.OpLess, con(1), con(2)), bin(impl.OpLess, con(2), con(3))),
		"1 == 2 | 2 == 3":               bin(impl.OpOr, bin(impl.OpSame, con(1), con(2)), bin(impl.OpSame, con(2), con(3))),
		"x + y == y + x":                bin(impl.OpSame, bin(impl.OpAdd, x, y), bin(impl.OpAdd, y, x)),
		"x - 1 < y * 2 & z":             bin(impl.OpAnd, bin(impl.OpLess, bin(impl.OpSubtract, x, con(1)), bin(impl.OpMultiply, y, con(2))), z),
		"(x | y) & z":                   bin(impl.OpAnd, bin(impl.OpOr, x, y), z),
		"(x & y) + 1":                   bin(impl.OpAdd, bin(impl.OpAnd, x, y), con(1)),
		"x & y < z + 1 * 2":             bin(impl.OpAnd, x, bin(impl.OpLess, y, bin(impl.OpAdd, z, bin(impl.OpMultiply, con(1), con(2))))),
		"x * y + z < 1 & !2":            bin(impl.OpAnd, bin(impl.OpLess, bin(impl.OpAdd, bin(impl.OpMultiply, x, y), z), con(1)), not(con(2))),
		"!x | y & z < 1 + 2":            bin(impl.OpOr, not(x), bin(impl.OpAnd, y, bin(impl.OpLess, z, bin(impl.OpAdd, con(1), con(2))))),
		"x * (y | !z) / (2 / !x)":       bin(impl.OpDivide, bin(impl.OpMultiply, x, bin(impl.OpOr, y, not(z))), bin(impl.OpDivide, con(2), not(x))),
		"(1 < 2) == (2 < 3) & (1 == 1)": bin(impl.OpAnd, bin(impl.OpSame, bin(impl.OpLess, con(1), con(2)), bin(impl.OpLess, con(2), con(3))), bin(impl.OpSame, con(1), con(1))),
	} {
		wantExpr(t, s, want)
		wantExpr(t, "("+s+")", want)
		wantExpr(t, " "+s+"\n", want)
	}
}

func TestOrderOfOperators(t *testing.T) {
	x, y, z := ref("x"), ref("y"), ref("z")
	for _, first := range operatorTables {
		wantExpr(t, "x"+first.symbol+"y", bin(first.op, x, y))
		wantExpr(t, "!x"+first.symbol+"!y", bin(first.op, not(x), not(y)))
		wantExpr(t, "!(x"+first.symbol+"y)", not(bin(first.op, x, y)))
		for _, second := range operatorTables {
			s := "x " + first.symbol + " y " + second.symbol + " z"
			left, right := bin(second.op, bin(first.op, x, y), z), bin(first.op, x, bin(second.op, y, z))
			wantExpr(t, "(x "+first.symbol+" y) "+second.symbol+" z", left)
			wantExpr(t, "x "+first.symbol+" (y "+second.symbol+" z)", right)
			switch {
			case ruleOf(first.symbol) == 2 && ruleOf(second.symbol) == 2:
				wantNoExpr(t, s, len("x  y ")+len(first.symbol))
			case ruleOf(first.symbol) < ruleOf(second.symbol):
				wantExpr(t, s, right)
			default:
				wantExpr(t, s, left)
			}
		}
	}
}

func TestComparisonsThatFollowComparisons(t *testing.T) {
	for s, at := range map[string]int{
		"1 < 2 < 3": 6, "1 == 2 == 3": 7, "1 < 2 == 3": 6, "1 == 2 < 3": 7, "1<2<3": 3, "1==2==3": 4,
		"1 < 2 <": 6, "1 < 2 < <": 6, "1 < < 2": 4, "1 < 2 + 3 < x": 10, "1 < 2 * 3 == x": 10, "1 + 2 < !x - 3 == 1": 15,
		"x & 1 < 2 < 3": 10, "x | 1 < 2 < 3": 10, "1 < 2 < 3 & x": 6, "1 < 2 & 2 < 3 < x": 14, "1 < 2 | 2 < 3 == x": 14,
		"(1 < 2 < 3)": 7, "(1 < 2) < 3 < x": 12, "1 < (2 < 3) < x": 12, "1 < (2 < 3 < x)": 11, "(1 < 2) == (2 < 3) == x": 19, "!(1 < 2 < 3)": 8,
		"1 < 2 < 3)": 6, "1 < 2 < if": 6, "1 < 2) < 3": 5,
	} {
		wantNoExpr(t, s, at)
	}
	one := con(1)
	wantExpr(t, "(1 < 1) < 1", bin(impl.OpLess, bin(impl.OpLess, one, one), one))
	wantExpr(t, "1 < (1 == 1)", bin(impl.OpLess, one, bin(impl.OpSame, one, one)))
	wantExpr(t, "1 < 1 & 1 < 1", bin(impl.OpAnd, bin(impl.OpLess, one, one), bin(impl.OpLess, one, one)))
	wantExpr(t, "(1 < 1) + 1 < 1", bin(impl.OpLess, bin(impl.OpAdd, bin(impl.OpLess, one, one), one), one))
	wantExpr(t, "1 < 1 + (1 < 1)", bin(impl.OpLess, one, bin(impl.OpAdd, one, bin(impl.OpLess, one, one))))
}

func TestTokensThatAreNotPermitted(t *testing.T) {
	for s, at := range map[string]int{
		")": 0, "+": 0, "-": 0, "*": 0, "/": 0, "<": 0, "==": 0, "&": 0, "|": 0, ";": 0, "{": 0, "}": 0, ":=": 0, "if": 0, "while": 0, "vars": 0, "emit": 0,
		"+ 1": 0, "- x": 0, "x x": 2, "x 1": 2, "1 x": 2, "1x": 1, "1 1": 2, "x !y": 2, "x !": 2, "x(1)": 1, "x (": 2, "1(": 1, "(x)(y)": 3, "(x) y": 4, "(x)!": 3,
		"x + + y": 4, "x + - y": 4, "x - -1": 4, "x * / y": 4, "x & & y": 4, "x && y": 3, "x || y": 3, "x | & y": 4, "x + )": 4, "x + * ": 4, "x ! == y": 2,
		"()": 1, "( )": 2, "(": 1, "(()": 2, "(x": 2, "(x +": 4, "(x + )": 5, "(x))": 3, "x)": 1, "x )": 2, "((x)": 4, "((x)))": 5, "(x y)": 3, "(x;)": 2, "(x}": 2, "({x})": 1,
		"!": 1, "!!": 2, "! ": 2, "!)": 1, "!+": 1, "! * x": 2, "!x!": 2, "!x !y": 3, "!(": 2, "!(x": 3, "x & !": 5, "x & !)": 5, "!;": 1,
		"x;": 1, "x ;": 2, "x := 1": 2, "x:=1": 1, "x + 1;": 5, "x { }": 2, "x }": 2, "emit x": 0, "x := x + 1 ;": 2, "vars x ;": 0, "if x { }": 0, "x else": 2,
		"x == == y": 5, "x = y": 2, "x == = y": 5, "x < = y": 4, "x <= y": 3, "(x + 1": 6, "(x + 1 ": 7, "x + (y - (z": 11, "x + (y - (z)": 12, "x + (y - z))": 11, "a + 1": 0,
	} {
		wantNoExpr(t, s, at)
		wantParsedByTree(t, s)
	}
}

func TestReservedWordsInExprs(t *testing.T) {
	for _, word := range reserved {
		wantNoExpr(t, word, 0)
		wantNoExpr(t, " "+word+" + 1", 1)
		wantNoExpr(t, "("+word+")", 1)
		wantNoExpr(t, "!"+word, 1)
		wantNoExpr(t, "!("+word+"+1)", 2)
		wantNoExpr(t, "x "+word, 2)
		wantNoExpr(t, "x "+word+" y", 2)
		wantNoExpr(t, "1 "+word+" 2 "+word, 2)
		wantNoExpr(t, "(x "+word+")", 3)
		wantNoExpr(t, word+" "+word, 0)
		for _, o := range operatorTables {
			wantNoExpr(t, "x "+o.symbol+" "+word, 3+len(o.symbol))
			wantNoExpr(t, "x "+o.symbol+"\n\n"+word+" "+o.symbol+" 1", 4+len(o.symbol))
			wantNoExpr(t, word+o.symbol+"x", 0)
		}
		wantExpr(t, word+"x", ref(word+"x"))
		wantExpr(t, "x"+word, ref("x"+word))
		wantExpr(t, word+"1 + z"+word, bin(impl.OpAdd, ref(word+"1"), ref("z"+word)))
	}
}

func TestSourceThatEndsTooEarly(t *testing.T) {
	wantNoExpr(t, "", 0)
	for length := range 401 {
		wantNoExpr(t, strings.Repeat(" ", length), length)
		wantNoExpr(t, strings.Repeat("\n ", length)[:length], length)
	}
	for _, start := range []string{"!", "(", "((", "!(", "(!", "x +", "x -", "x *", "x /", "x <", "x ==", "x &", "x |", "(x", "((x)", "(x +", "!(x", "x + (", "x < (y < (z", "(x + 1) * (y", "(1 < 2) <", "1 < 2 &"} {
		for length := range 20 {
			s := start + strings.Repeat(" \n", length)[:length]
			wantNoExpr(t, s, len(start)+length)
			wantNoExpr(t, "\n  "+s, 3+len(start)+length)
		}
	}
	for _, whole := range []string{"x+1<2&!y", "!(x<1)&y-(x-1)<2", "((x+1)*(y-(z)))/3", "!!(1<2)|!((x))&0"} {
		for length := range len(whole) + 1 {
			if _, bad := impl.ParseExpr(whole[:length]); bad != -1 && bad != length {
				t.Errorf("ParseExpr(%q) reports an error at %d", whole[:length], bad)
			}
			wantParsedByTree(t, whole[:length])
		}
	}
}

func TestTokensBehindAnExpr(t *testing.T) {
	for _, e := range []string{"x", "1", "(x)", "!x", "x + 1", "x < 1", "1 == (2)", "x & y", "x | 1 < 2", "!(x)", "x * y - 1"} {
		for _, token := range append(slices.Clone(allSymbols), append([]string{"y", "3", "abcdefgh"}, reserved...)...) {
			for _, rest := range []string{"", " ", " x", " )", " ;", " if", " x x"} {
				s := e + " " + token + rest
				wantParsedByTree(t, s)
				isOperator := ruleOf(token) >= 0 && !(ruleOf(token) == 2 && (e == "x < 1" || e == "1 == (2)" || e == "x | 1 < 2"))
				if !isOperator {
					wantNoExpr(t, s, len(e)+1)
				}
			}
		}
	}
}

func TestErrorsOfTokensCountFirst(t *testing.T) {
	for s, at := range map[string]int{
		") 4": 2, "x x =": 4, "if 12": 3, "1 < 2 < 3 abcdefghi": 10, "x + + X": 6, "( ) \t": 4, "; \xff": 2, "+ + + :": 6,
		"4 )": 0, "x 10 )": 2, "!!!!!!x =": 8, "=": 0, "(4": 1, "x + 4": 4, "x + 00": 4, "1+1+1+1+1+1+1 = 4": 14,
	} {
		wantNoExpr(t, s, at)
	}
}

func TestLengthsOfExprs(t *testing.T) {
	for length := 397; length <= 403; length++ {
		spaces := strings.Repeat(" ", length)
		if length <= 400 {
			wantExpr(t, "x"+spaces[1:], ref("x"))
			wantExpr(t, spaces[1:]+"x", ref("x"))
			wantExpr(t, "x +"+spaces[4:]+"1", bin(impl.OpAdd, ref("x"), con(1)))
			wantNoExpr(t, ")"+spaces[1:], 0)
			wantNoExpr(t, "!!!!!x"+spaces[6:], 0)
			wantNoExpr(t, "x"+spaces[2:]+")", length-1)
			wantNoExpr(t, spaces[2:]+"if", length-2)
			wantNoExpr(t, spaces[1:]+"!", length)
			continue
		}
		for _, s := range []string{"x" + spaces[1:], spaces[1:] + "x", ")" + spaces[1:], "!!!!!x" + spaces[6:], "x" + spaces[2:] + ")", spaces[2:] + "if", spaces[1:] + "!", "=" + spaces[1:]} {
			wantNoExpr(t, s, 400)
		}
	}
	wantNoExpr(t, strings.Repeat("x", 100000), 400)
	wantNoExpr(t, strings.Repeat("(", 100000), 400)
}

func TestNumbersOfTokensOfExprs(t *testing.T) {
	for s, at := range map[string]int{
		strings.Repeat("(", 150):          150,
		strings.Repeat("(", 150) + "  ":   152,
		strings.Repeat("(", 151):          150,
		strings.Repeat("!", 150):          150,
		strings.Repeat("! ", 149) + "x":   0,
		strings.Repeat("! ", 150) + "x":   300,
		strings.Repeat(")", 150):          0,
		strings.Repeat(")", 151):          150,
		strings.Repeat("x ", 150):         2,
		strings.Repeat("x ", 151):         300,
		strings.Repeat("x+", 74) + "x":    0,
		strings.Repeat("x+", 75):          150,
		strings.Repeat("x+", 75) + "x":    150,
		strings.Repeat("1 & ", 74) + "if": 296,
		strings.Repeat("1 & ", 75) + "if": 300,
	} {
		wantNoExpr(t, s, at)
	}
}

func TestDeepParentheses(t *testing.T) {
	wantExpr(t, "((x))", ref("x"))
	for deep := 1; deep < 75; deep++ {
		left, right := strings.Repeat("(", deep), strings.Repeat(")", deep)
		wantExpr(t, left+"x"+right, ref("x"))
		wantExpr(t, strings.Repeat("( ", deep)+"\n3"+strings.Repeat(" )", deep), con(3))
		wantNoExpr(t, left, deep)
		wantNoExpr(t, left+right, deep)
		wantNoExpr(t, left+"x", deep+1)
		wantNoExpr(t, left+"x"+right[1:], 2*deep)
		wantNoExpr(t, left+"x"+right+")", 2*deep+1)
		wantNoExpr(t, left+"a"+right, deep)
	}
	for deep := range 73 {
		left, right := strings.Repeat("(", deep), strings.Repeat(")", deep)
		wantExpr(t, left+"x+1"+right, bin(impl.OpAdd, ref("x"), con(1)))
		wantExpr(t, "!"+left+"x"+right, not(ref("x")))
		wantExpr(t, left+"!x"+right, not(ref("x")))
		wantExpr(t, left+"x"+right+"<1", bin(impl.OpLess, ref("x"), con(1)))
		wantExpr(t, "1-"+left+"x"+right, bin(impl.OpSubtract, con(1), ref("x")))
		wantNoExpr(t, left+"!!!!!x"+right, 0)
	}
	wantNoExpr(t, strings.Repeat("(", 75)+"x"+strings.Repeat(")", 75), 150)
}

func TestLimitsOfParsedExprs(t *testing.T) {
	four, five := not(bin(1, con(1), con(1))), bin(1, bin(1, con(1), con(1)), con(1))
	for _, e := range []impl.Expr{
		bin(1, fullTree(3), four), bin(1, four, fullTree(3)), not(bin(1, fullTree(3), bin(1, con(1), con(1)))), nots(3, con(1)), nots(4, con(1)),
		bin(1, nots(3, con(1)), nots(3, con(1))), bin(1, con(1), bin(1, con(1), bin(1, con(1), bin(1, con(1), con(1))))),
		bin(1, bin(1, bin(1, bin(1, con(1), con(1)), con(1)), con(1)), not(con(1))),
	} {
		wantSourcesOf(t, e)
	}
	for _, e := range []impl.Expr{
		bin(1, fullTree(3), five), bin(1, five, fullTree(3)), not(bin(1, fullTree(3), four)), fullTree(4), fullTree(5), nots(5, con(1)), nots(11, con(1)), nots(12, con(1)), nots(40, con(1)),
		bin(1, nots(4, con(1)), con(1)), bin(1, con(1), nots(4, con(1))), bin(1, con(1), bin(1, con(1), bin(1, con(1), bin(1, con(1), not(con(1)))))),
		bin(1, bin(1, bin(1, bin(1, bin(1, con(1), con(1)), con(1)), con(1)), con(1)), con(1)),
	} {
		short, _ := shortSource(e)
		for _, s := range []string{fullSource(e), short, " \n " + short, "((" + short + "))", short + " "} {
			wantNoExpr(t, s, 0)
			wantParsedByTree(t, s)
			// What is wrong behind it is found nevertheless.
			for _, rest := range []string{" )", " x", " if", " ;", " + )", " < a", " & (", " & (1 < 2 < 3)", " =", " - abcdefghi"} {
				wantParsedByTree(t, s+rest)
				if _, bad := impl.ParseExpr(s + rest); bad < len(s) {
					t.Errorf("ParseExpr(%q) reports an error at %d", s+rest, bad)
				}
			}
		}
	}
}

// wantSourcesOf takes a valid expression, and reads what it may be written as.
func wantSourcesOf(t *testing.T, e impl.Expr) {
	t.Helper()
	full := fullSource(e)
	short, _ := shortSource(e)
	list, _ := impl.Tokenize(short)
	for _, s := range []string{full, short, impl.FormatTokens(list), strings.ReplaceAll(short, " ", ""), strings.ReplaceAll(full, "(", "\n(")} {
		if len(s) <= impl.MaxText {
			wantParsed(t, s, e, -1)
		}
	}
}

func TestSourcesOfExprs(t *testing.T) {
	for _, e := range ordinaryExprs() {
		wantSourcesOf(t, e)
	}
	for _, e := range smallExprs([]impl.Expr{con(0), con(1), con(2), con(3), ref("x"), ref("abcdefgh")}, 2) {
		wantSourcesOf(t, e)
	}
	for _, e := range smallExprs([]impl.Expr{con(2), ref("x")}, 3) {
		wantSourcesOf(t, e)
	}
	random := rand.New(rand.NewPCG(6, 1))
	number := 0
	for range 20000 {
		e := randomExpr(random, []string{"x", "y1", "abcdefgh"}, 4+random.IntN(2))
		if count, _ := sizeOf(e); count <= 12 {
			wantSourcesOf(t, e)
			number++
		}
	}
	if number < 5000 {
		t.Errorf("%d expressions were read", number)
	}
}

func TestAllShortListsOfTokens(t *testing.T) {
	wantAll := func(tokens []string, length int) {
		for _, texts := range listsOver(tokens, length) {
			s := strings.Join(texts, " ")
			want, wantBad := readTokens(texts, func(i int) int {
				if i == len(texts) {
					return len(s)
				}
				return len(strings.Join(texts[:i+1], " ")) - len(texts[i])
			})
			wantParsed(t, s, want, wantBad)
		}
	}
	wantAll([]string{"x", "(", ")", "<", "+", "!", "|"}, 6)
	wantAll([]string{"x", "(", ")", "==", "&", "*"}, 6)
	wantAll([]string{"x", "<"}, 10)
	wantAll([]string{"1", "!", "-"}, 8)
	wantAll(append([]string{"x", "2", "if"}, allSymbols...), 3)
}

func TestAllShortSources(t *testing.T) {
	for _, s := range stringsOver("x1(!<+ ", 5) {
		wantParsedByTree(t, s)
	}
	for _, s := range stringsOver("ab2)(:=&\n", 4) {
		wantParsedByTree(t, s)
		wantParsedByTree(t, "(x"+s)
	}
	for b := range 256 {
		for _, s := range []string{"", "x", "1 ", "(", "x+", "!", "1<2"} {
			wantParsedByTree(t, s+string([]byte{byte(b)}))
			wantParsedByTree(t, s+string([]byte{byte(b)})+" x)")
		}
	}
}

// randomTexts returns the tokens of an expression of any size, also with parentheses that are not needed.
func randomTexts(random *rand.Rand, depth int) []string {
	switch choice := random.IntN(10); {
	case depth == 0 || choice == 0:
		atoms := []string{"0", "1", "2", "3", "x", "y", "x1", "abcdefgh"}
		return atoms[random.IntN(8):][:1]
	case choice < 3:
		return append([]string{"!"}, randomTexts(random, depth-1)...)
	case choice < 5:
		return slices.Concat([]string{"("}, randomTexts(random, depth-1), []string{")"})
	}
	symbol := operatorTables[random.IntN(8)].symbol
	return slices.Concat(randomTexts(random, depth-1), []string{symbol}, randomTexts(random, depth-1))
}

// spacedAtRandom returns source code that begins with a separator or is empty, so no token is at 0.
func spacedAtRandom(random *rand.Rand, texts []string) string {
	var s strings.Builder
	for _, text := range texts {
		s.WriteString([]string{" ", " ", "\n", "  "}[random.IntN(4)] + text)
	}
	return s.String() + strings.Repeat(" ", random.IntN(3))
}

// outcomes has the numbers of sources of spacedAtRandom by the offsets that a parser reports.
type outcomes struct{ accepted, notValid, early, wrong int }

func (o *outcomes) count(s string, bad int) {
	switch bad {
	case -1:
		o.accepted++
	case 0:
		o.notValid++
	case len(s):
		o.early++
	default:
		o.wrong++
	}
}

func (o outcomes) wantEach(t *testing.T, least int) {
	t.Helper()
	if min(o.accepted, o.notValid, o.early, o.wrong) < least {
		t.Errorf("%d sources were accepted, %d are not valid, %d end too early, %d have another error", o.accepted, o.notValid, o.early, o.wrong)
	}
}

func TestRandomSources(t *testing.T) {
	random := rand.New(rand.NewPCG(6, 2))
	others := append(slices.Clone(allSymbols), "x", "1", "if", "a", "=", "4", "12", "abcdefghi", "X")
	var found outcomes
	for range 60000 {
		texts := randomTexts(random, random.IntN(7))
		at := random.IntN(len(texts))
		switch random.IntN(6) {
		case 0:
			texts = texts[:at]
		case 1:
			texts = slices.Concat(texts[:at], texts[at+1:])
		case 2:
			texts = slices.Insert(slices.Clone(texts), at, others[random.IntN(len(others))])
		}
		s := spacedAtRandom(random, texts)
		wantParsedByTree(t, s)
		_, bad := impl.ParseExpr(s)
		found.count(s, bad)
	}
	found.wantEach(t, 3000)
}

// elementsOf returns pointers to all elements of the lists of e, also to those behind their ends.
func elementsOf(e impl.Expr) []*impl.Expr {
	var all []*impl.Expr
	whole := e.Args[:cap(e.Args)]
	for i := range whole {
		all = append(all, &whole[i])
		all = append(all, elementsOf(whole[i])...)
	}
	return all
}

func TestParsedExprsShareNothing(t *testing.T) {
	for _, s := range []string{"x", "!x", "x + 1", "x - x - x", "x * (x + x)", "!(x == 1) & y - (x - 1) < 2", "!!x | !!x", "((x | x)) & (x | x)"} {
		first, _ := impl.ParseExpr(s)
		second, _ := impl.ParseExpr(s)
		want := treeOf(strings.Fields(strings.NewReplacer("!", "! ", "(", "( ", ")", " )").Replace(s)))
		seen := map[*impl.Expr]bool{}
		for _, element := range append(elementsOf(first), elementsOf(second)...) {
			if seen[element] {
				t.Errorf("lists of results of ParseExpr(%q) share memory", s)
			}
			seen[element] = true
		}
		for _, element := range elementsOf(first) {
			*element = impl.Expr{Kind: -7, Name: "changed"}
		}
		if !sameExpr(second, want) {
			t.Errorf("a change of one result of ParseExpr(%q) changed another one to %v", s, second)
		}
		wantExpr(t, s, want)
	}
	// The same bytes with another content are another string.
	bytes := []byte("x + 1")
	first, _ := impl.ParseExpr(string(bytes))
	copy(bytes, "2 < y")
	second, _ := impl.ParseExpr(string(bytes))
	if !sameExpr(first, bin(impl.OpAdd, ref("x"), con(1))) || !sameExpr(second, bin(impl.OpLess, con(2), ref("y"))) {
		t.Errorf("the expressions are %v and %v", first, second)
	}
}

func TestParserKeepsNothing(t *testing.T) {
	for range 3 {
		wantNoExpr(t, "1 < 2 < 3", 6)
		wantExpr(t, "1 < 2", bin(impl.OpLess, con(1), con(2)))
		wantNoExpr(t, "((x)", 4)
		wantExpr(t, "x", ref("x"))
		wantNoExpr(t, "x)", 1)
		wantNoExpr(t, "!!!!!x", 0)
		wantNoExpr(t, "", 0)
		wantExpr(t, "!x", not(ref("x")))
		wantNoExpr(t, strings.Repeat(" ", 401), 400)
		wantNoExpr(t, "x + emit", 4)
		wantExpr(t, "x + emits", bin(impl.OpAdd, ref("x"), ref("emits")))
	}
}
