package tests

import (
	"fmt"
	"math"
	"math/rand/v2"
	"reflect"
	"slices"
	"strings"
	"testing"

	"loop.example/g00514/impl"
)

// textOf is the sentence of the document on the text of a statement. It relies on FormatExpr only.
func textOf(s impl.Stmt) string {
	e := impl.FormatExpr(s.Expr)
	switch s.Kind {
	case 1:
		return s.Name + " := " + e + " ;"
	case 4:
		return "emit " + e + " ;"
	case 3:
		return "while " + e + " {" + textOfBlock(s.Body) + " }"
	case 2:
		if len(s.Else) == 0 {
			return "if " + e + " {" + textOfBlock(s.Body) + " }"
		}
		return "if " + e + " {" + textOfBlock(s.Body) + " } else {" + textOfBlock(s.Else) + " }"
	}
	return "?"
}

func textOfBlock(list []impl.Stmt) string {
	var all string
	for _, s := range list {
		all += " " + textOf(s)
	}
	return all
}

func wantTexts(t *testing.T, list []impl.Stmt, want ...string) {
	t.Helper()
	if got := impl.FormatStmts(list); !slices.Equal(got, want) {
		t.Errorf("FormatStmts(%.400s) = %.400q; want %.400q", fmt.Sprint(list), got, want)
	}
}

// wantText takes one statement, and also looks for its text in other ones.
func wantText(t *testing.T, s impl.Stmt, want string) {
	t.Helper()
	one := emit(con(1))
	wantTexts(t, block(s), want)
	wantTexts(t, block(s, one), want, "emit 1 ;")
	wantTexts(t, block(one, s, s), "emit 1 ;", want, want)
	wantTexts(t, block(while(con(1), s)), "while 1 { "+want+" }")
	wantTexts(t, block(when(con(1), block(one, s), nil)), "if 1 { emit 1 ; "+want+" }")
	wantTexts(t, block(when(con(1), nil, block(s, one))), "if 1 { } else { "+want+" emit 1 ; }")
	wantTexts(t, block(when(con(1), block(s), block(s)), s), "if 1 { "+want+" } else { "+want+" }", want)
	wantTexts(t, block(while(con(1), while(con(2), while(con(3), one, s, one)))), "while 1 { while 2 { while 3 { emit 1 ; "+want+" emit 1 ; } } }")
	// Neither the kind nor the expression of the statement around it matters.
	wantTexts(t, block(while(con(4), s)), "while  { "+want+" }")
	wantTexts(t, block(impl.Stmt{Kind: 9, Body: block(s), Else: block(s)}), "?")
}

func wantProgramText(t *testing.T, p impl.Program, want string) {
	t.Helper()
	wantFormatOf(t, impl.FormatProgram, p, want)
}

func wantNoProgramText(t *testing.T, p impl.Program) {
	t.Helper()
	wantFormatOf(t, impl.FormatProgram, p, "")
}

func wantNormalProgram(t *testing.T, s string, want string) {
	t.Helper()
	wantNormalBy(t, impl.NormalizeProgram, s, want)
}

func wantNotNormalProgram(t *testing.T, s string) {
	t.Helper()
	wantNormalBy(t, impl.NormalizeProgram, s, "")
}

// wantSourceOfProgram takes a valid program and checks all that is said of its source code. It reports whether this can be read.
func wantSourceOfProgram(t *testing.T, p impl.Program) bool {
	t.Helper()
	s := impl.FormatProgram(p)
	if want := sourceOf(p); s != want {
		t.Fatalf("FormatProgram(%v) = %q; want %q", p, s, want)
	}
	texts := impl.FormatStmts(p.Body)
	if parts := slices.Concat([]string{"vars"}, p.Vars, []string{";"}, texts); len(texts) != len(p.Body) || s != strings.Join(parts, " ") {
		t.Fatalf("FormatProgram(%v) = %q, but FormatStmts returns %q", p, s, texts)
	}
	if strings.Join(strings.Fields(s), " ") != s {
		t.Fatalf("FormatProgram(%v) = %q has other spaces than single ones", p, s)
	}
	if _, bad := tokensByParts(s); bad >= 0 {
		wantNoProgram(t, s, bad)
		wantNotNormalProgram(t, s)
		return false
	}
	wantReadProgram(t, s, p, -1)
	for _, source := range append(respaced(s), s) {
		if len(source) <= impl.MaxText {
			wantNormalProgram(t, source, s)
		}
	}
	return true
}

func TestTextsOfStmts(t *testing.T) {
	x, y, one := ref("x"), ref("y"), con(1)
	inc := assign("x", bin(impl.OpAdd, x, one))
	for want, s := range map[string]impl.Stmt{
		"x := 1 ;":                          assign("x", one),
		"x := x ;":                          assign("x", x),
		"y := x + 1 ;":                      assign("y", bin(impl.OpAdd, x, one)),
		"x := !x ;":                         assign("x", not(x)),
		"z9999999 := y ;":                   assign("z9999999", y),
		"x := (x == y) == 1 ;":              assign("x", bin(impl.OpSame, bin(impl.OpSame, x, y), one)),
		"emit 0 ;":                          emit(con(0)),
		"emit x ;":                          emit(x),
		"emit !(x + y) ;":                   emit(not(bin(impl.OpAdd, x, y))),
		"emit x - (y - 1) ;":                emit(bin(impl.OpSubtract, x, bin(impl.OpSubtract, y, one))),
		"while x { }":                       while(x),
		"while x < 3 { }":                   while(bin(impl.OpLess, x, con(3))),
		"while x { emit y ; }":              while(x, emit(y)),
		"while !x { }":                      while(not(x)),
		"while (x | y) & 1 { }":             while(bin(impl.OpAnd, bin(impl.OpOr, x, y), one)),
		"while x { while y { } }":           while(x, while(y)),
		"while x < 3 { x := x + 1 ; }":      while(bin(impl.OpLess, x, con(3)), inc),
		"while x { x := x + 1 ; emit x ; }": while(x, inc, emit(x)),
		"while x { while y { emit 1 ; } emit x ; }":       while(x, while(y, emit(one)), emit(x)),
		"while x { while y { while x { } } while y { } }": while(x, while(y, while(x)), while(y)),
		"if x { }":                                when(x, nil, nil),
		"if x + 1 { }":                            when(bin(impl.OpAdd, x, one), nil, nil),
		"if x { emit 1 ; }":                       when(x, block(emit(one)), nil),
		"if x { emit 1 ; emit y ; }":              when(x, block(emit(one), emit(y)), nil),
		"if x { } else { emit 1 ; }":              when(x, nil, block(emit(one))),
		"if x { } else { emit 1 ; emit y ; }":     when(x, nil, block(emit(one), emit(y))),
		"if x { emit 1 ; } else { x := x + 1 ; }": when(x, block(emit(one)), block(inc)),
		"if x { if y { } }":                       when(x, block(when(y, nil, nil)), nil),
		"if x { } else { if y { } }":              when(x, nil, block(when(y, nil, nil))),
		"if x { if y { } else { emit 1 ; } }":     when(x, block(when(y, nil, block(emit(one)))), nil),
		"if x { if y { } } else { emit 1 ; }":     when(x, block(when(y, nil, nil)), block(emit(one))),
		"if x { if y { emit 1 ; } } else { if y { emit x ; } else { emit 2 ; } emit y ; }": when(x, block(when(y, block(emit(one)), nil)), block(when(y, block(emit(x)), block(emit(con(2)))), emit(y))),
		"while x { if y { } emit 1 ; }":                      while(x, when(y, nil, nil), emit(one)),
		"if x { while y { } } else { while x { emit 1 ; } }": when(x, block(while(y)), block(while(x, emit(one)))),
	} {
		wantText(t, s, want)
		if s.Name != "z9999999" {
			wantSourceOfProgram(t, prog("x y", s))
		}
	}
	wantTexts(t, nil)
	wantTexts(t, block())
	wantTexts(t, emits(3), "emit 1 ;", "emit 1 ;", "emit 1 ;")
	wantTexts(t, block(inc, while(x), emit(y)), "x := x + 1 ;", "while x { }", "emit y ;")
	wantTexts(t, block(emit(y), while(x), inc), "emit y ;", "while x { }", "x := x + 1 ;")
}

func TestEmptyElse(t *testing.T) {
	x, list := ref("x"), emits(2)
	for _, empty := range [][]impl.Stmt{nil, {}, make([]impl.Stmt, 0, 4), list[:0], list[2:]} {
		wantText(t, when(x, nil, empty), "if x { }")
		wantText(t, when(x, empty, empty), "if x { }")
		wantText(t, when(x, emits(1), empty), "if x { emit 1 ; }")
		wantText(t, when(x, empty, emits(1)), "if x { } else { emit 1 ; }")
		wantText(t, while(x, empty...), "while x { }")
		wantProgramText(t, prog("x", when(x, empty, empty), emit(x)), "vars x ; if x { } emit x ;")
		wantProgramText(t, prog("x", when(x, block(when(x, empty, empty)), block(when(x, empty, empty)))), "vars x ; if x { if x { } } else { if x { } }")
		wantProgramText(t, impl.Program{Body: empty}, "vars ;")
		wantProgramText(t, impl.Program{Vars: []string{}, Body: empty}, "vars ;")
		wantTexts(t, empty)
	}
	wantNormalProgram(t, "vars x ; if x { } else { }", "vars x ; if x { }")
	wantNormalProgram(t, "vars x ; if x { emit x ; } else { } emit 1 ;", "vars x ; if x { emit x ; } emit 1 ;")
	wantNormalProgram(t, "vars x ; if x { } else { emit x ; }", "vars x ; if x { } else { emit x ; }")
	wantNormalProgram(t, "vars x ; if x { } else { if x { } else { } }", "vars x ; if x { } else { if x { } }")
	wantNormalProgram(t, "vars x ; if x { if x { } else { } } else { }", "vars x ; if x { if x { } }")
	wantNormalProgram(t, "vars x ; while x { if x { } else { } }", "vars x ; while x { if x { } }")
	wantNormalProgram(t, "vars x;if x{}else{}if x{}", "vars x ; if x { } if x { }")
}

func TestTextsOfStmtsThatAreNotValid(t *testing.T) {
	x, one := ref("x"), con(1)
	bad := impl.Expr{}
	for want, s := range map[string]impl.Stmt{
		"x :=  ;":                       assign("x", bad),
		"emit  ;":                       emit(bad),
		"while  { }":                    while(bad),
		"while  { emit 1 ; }":           while(bad, emit(one)),
		"while x { emit  ; }":           while(x, emit(bad)),
		"while  { while  { } emit  ; }": while(bad, while(bad), emit(bad)),
		"if  { }":                       when(bad, nil, nil),
		"if  { } else { emit 1 ; }":     when(bad, nil, emits(1)),
		"if x { x :=  ; } else { ? }":   when(x, block(assign("x", bad)), block(impl.Stmt{})),
		"if x { ? ? } else { ? }":       when(x, block(impl.Stmt{}, impl.Stmt{Kind: 5}), block(impl.Stmt{Kind: -1})),
		"if  { } else { if  { } }":      when(bad, nil, block(when(bad, nil, nil))),
		"while x { ? emit 1 ; ? }":      while(x, impl.Stmt{}, emit(one), impl.Stmt{}),
		" := 1 ;":                       assign("", one),
		" :=  ;":                        assign("", bad),
		// Neither the name nor the variables of the expression need be those of a program.
		"nothing := elsewhe1 ;": assign("nothing", ref("elsewhe1")),
		"emit a1 ;":             emit(ref("a1")),
		"if := 1 ;":             assign("if", one),
		"X := 1 ;":              assign("X", one),
		"emit := 1 ;":           assign("emit", one),
		"toolongname := 1 ;":    assign("toolongname", one),
	} {
		wantText(t, s, want)
	}
	for _, e := range invalidExprs() {
		wantTexts(t, withExpr(e), "x :=  ;", "emit  ;", "while  { }", "while  { emit 1 ; }", "if  { }", "if  { emit 1 ; }", "if  { } else { emit 1 ; }")
	}
	for _, e := range []impl.Expr{fullTree(4), nots(5, x), nots(100000, x), bin(1, nots(4, one), one)} {
		wantTexts(t, block(assign("y", e), emit(e), while(e, emit(e))), "y :=  ;", "emit  ;", "while  { emit  ; }")
	}
	for _, kind := range append(manyIntegers(), noOperators()...) {
		if 1 <= kind && kind <= 4 {
			continue
		}
		for _, s := range []impl.Stmt{{Kind: kind}, {Kind: kind, Name: "x", Expr: one}, {Kind: kind, Expr: x, Body: emits(2)}, {Kind: kind, Body: emits(1), Else: emits(3)}} {
			wantTexts(t, block(s, emit(x), s), "?", "emit x ;", "?")
			wantTexts(t, block(while(x, s)), "while x { ? }")
		}
	}
	wantTexts(t, make([]impl.Stmt, 3), "?", "?", "?")
	wantText(t, impl.Stmt{Kind: math.MinInt}, "?")
}

// The bytes of a name are written as they are, whatever they are.
func TestTextsOfOtherNames(t *testing.T) {
	names := append(slices.Clone(reserved), "  ", " x ", "x  y", "\n", "x\n\ny", "\t", "\x00", "\xff", "\xff\xfe", "\xc3", "é", "\xed\xa0\x80", "\ufffd", "日本", "?", "{ }", "x ;", ":=", " } else {  ", "%s", "\\", "\"", "EXPR", "NAME")
	for b := range 256 {
		names = append(names, string([]byte{byte(b)}), "x"+string([]byte{byte(b), byte(b)})+"y")
	}
	for _, name := range names {
		wantText(t, assign(name, con(1)), name+" := 1 ;")
		wantTexts(t, block(assign(name, impl.Expr{})), name+" :=  ;")
	}
	long := strings.Repeat("x y", 100000)
	if got := impl.FormatStmts(block(assign(long, con(1)))); len(got) != 1 || got[0] != long+" := 1 ;" {
		t.Error("FormatStmts does not write a long name")
	}
}

// Fields that a kind does not use are not written.
func TestTextsWithoutUnusedFields(t *testing.T) {
	x, list := ref("x"), block(emit(ref("y")), impl.Stmt{Kind: 9})
	for _, name := range []string{"", "x", "no name"} {
		for _, body := range [][]impl.Stmt{nil, {}, list} {
			wantTexts(t, block(impl.Stmt{Kind: impl.StEmit, Name: name, Expr: x, Body: body, Else: body}), "emit x ;")
			wantTexts(t, block(impl.Stmt{Kind: impl.StAssign, Name: name, Expr: x, Body: body, Else: body}), name+" := x ;")
			wantTexts(t, block(impl.Stmt{Kind: impl.StWhile, Name: name, Expr: x, Else: body}), "while x { }")
			wantTexts(t, block(impl.Stmt{Kind: impl.StWhile, Name: name, Expr: x, Body: emits(1), Else: body}), "while x { emit 1 ; }")
			wantTexts(t, block(impl.Stmt{Kind: impl.StIf, Name: name, Expr: x, Body: emits(1)}), "if x { emit 1 ; }")
			wantTexts(t, block(impl.Stmt{Kind: impl.StIf, Name: name, Expr: x, Else: emits(1)}), "if x { } else { emit 1 ; }")
			wantTexts(t, block(impl.Stmt{Kind: -7, Name: name, Expr: x, Body: body, Else: body}), "?")
		}
	}
	wantTexts(t, block(while(x, impl.Stmt{Kind: impl.StWhile, Name: "x", Expr: x, Else: list}, emit(x))), "while x { while x { } emit x ; }")
	// Nor is what lies behind the end of a list.
	long := block(emit(con(1)), emit(con(2)), emit(con(3)))
	wantTexts(t, long[:1], "emit 1 ;")
	wantTexts(t, block(while(x, long[:2]...)), "while x { emit 1 ; emit 2 ; }")
	wantTexts(t, block(when(x, long[1:2], long[:1])), "if x { emit 2 ; } else { emit 1 ; }")
	wantProgramText(t, impl.Program{Vars: []string{"x", "if", "y"}[:1], Body: long[:2]}, "vars x ; emit 1 ; emit 2 ;")
}

func TestTextsOfPrograms(t *testing.T) {
	x, y := ref("x"), ref("y")
	inc := assign("x", bin(impl.OpAdd, x, con(1)))
	for want, p := range map[string]impl.Program{
		"vars ;":             {},
		"vars x ;":           prog("x"),
		"vars y ;":           prog("y"),
		"vars x y ;":         prog("x y"),
		"vars y x ;":         prog("y x"),
		"vars z9999999 c ;":  prog("z9999999 c"),
		"vars ; emit 1 ;":    prog("", emit(con(1))),
		"vars ; while 1 { }": prog("", while(con(1))),
		"vars x ; x := 1 ;":  prog("x", assign("x", con(1))),
		"vars x ; while x < 3 { x := x + 1 ; } emit x ;":                                    prog("x", while(bin(impl.OpLess, x, con(3)), inc), emit(x)),
		"vars x ; while x < 3 { x := x + 1 ; } if x { emit 1 ; } else { x := 0 ; }":         prog("x", while(bin(impl.OpLess, x, con(3)), inc), when(x, emits(1), block(assign("x", con(0))))),
		"vars x y ; if y { x := x + 1 ; } emit x ;":                                         prog("x y", when(y, block(inc), nil), emit(x)),
		"vars x y ; if y { } x := x + 1 ; emit x ;":                                         prog("x y", when(y, nil, nil), inc, emit(x)),
		"vars y x ; while x { if y { emit x ; } else { while y { } } } if x { } emit !x ;":  prog("y x", while(x, when(y, block(emit(x)), block(while(y)))), when(x, nil, nil), emit(not(x))),
		"vars ; emit 1 ; emit 1 ; emit 1 ; emit 1 ; emit 1 ; emit 1 ; emit 1 ; emit 1 ;":    prog("", emits(8)...),
		"vars ; while 1 { while 1 { while 1 { } } }":                                        prog("", while(con(1), while(con(1), while(con(1))))),
		"vars ; while 1 { if 1 { } else { emit 1 ; emit 1 ; emit 1 ; } emit 1 ; } emit 1 ;": prog("", while(con(1), when(con(1), nil, emits(3)), emit(con(1))), emit(con(1))),
	} {
		wantProgramText(t, p, want)
		if !wantSourceOfProgram(t, p) {
			t.Errorf("%q is not read", want)
		}
	}
}

func TestOnlyValidProgramsHaveTexts(t *testing.T) {
	for _, p := range differentPrograms() {
		if !isValidByText(p) {
			wantNoProgramText(t, p)
		}
	}
	one := con(1)
	for _, p := range []impl.Program{
		prog("x x"), prog("x y z"), prog("if"), prog("x a"), prog("X"), prog("toolongname"), {Vars: []string{""}}, {Vars: []string{"x y"}}, {Vars: []string{"x", "\xff"}}, {Vars: []string{"x "}},
		prog("", emits(9)...), prog("", while(one, emits(8)...)), prog("", while(one, while(one, while(one, emit(one))))), prog("", when(one, nil, block(while(one, when(one, nil, emits(1)))))),
		prog("x", assign("y", one)), prog("", assign("x", one)), prog("", assign("", one)), prog("x", emit(ref("y"))), prog("", emit(ref("x"))), prog("x", while(not(ref("y")))), prog("x", when(ref("x"), nil, block(emit(ref("y"))))),
		prog("x", impl.Stmt{}), prog("x", impl.Stmt{Kind: 5, Expr: one}), prog("x", impl.Stmt{Kind: impl.StEmit, Name: "x", Expr: one}), prog("x", impl.Stmt{Kind: impl.StEmit, Expr: one, Body: emits(1)}),
		prog("x", impl.Stmt{Kind: impl.StAssign, Name: "x", Expr: one, Else: emits(1)}), prog("x", impl.Stmt{Kind: impl.StWhile, Expr: one, Else: emits(1)}), prog("x", impl.Stmt{Kind: impl.StIf, Name: "x", Expr: one}),
		prog("x", emit(impl.Expr{})), prog("x", assign("x", impl.Expr{})), prog("x", while(nots(5, ref("x")))), prog("x", emit(fullTree(4))),
	} {
		wantNoProgramText(t, p)
	}
	for _, e := range invalidExprs() {
		for _, s := range withExpr(e) {
			for _, p := range inEveryPlace(s) {
				wantNoProgramText(t, p)
			}
		}
	}
}

func TestRandomTexts(t *testing.T) {
	random := rand.New(rand.NewPCG(10, 1))
	valid, notValid, tooLong := 0, 0, 0
	for range 12000 {
		p := prog([]string{"", "x", "y", "x y", "y x", "abcdefgh x1", "x x"}[random.IntN(7)])
		p.Body = randomStmts(random, p.Vars, 1+random.IntN(8), 1+random.IntN(4))
		for range random.IntN(4) {
			if list := stmtsOf(p.Body); len(list) > 0 {
				someFaults(random)(list[random.IntN(len(list))])
			}
			p.Body = copyStmts(p.Body)
		}
		var want []string
		for _, s := range p.Body {
			want = append(want, textOf(s))
		}
		wantTexts(t, p.Body, want...)
		switch {
		case !isValidByText(p):
			wantNoProgramText(t, p)
			notValid++
		case wantSourceOfProgram(t, p):
			valid++
		default:
			tooLong++
		}
	}
	if min(valid, notValid) < 2000 {
		t.Errorf("%d programs are valid, %d are too long, %d are not valid", valid, tooLong, notValid)
	}
}

func TestProgramsAreParsedFromTheirTexts(t *testing.T) {
	for _, p := range ordinaryPrograms() {
		if !wantSourceOfProgram(t, p) {
			t.Errorf("%q is too long", sourceOf(p))
		}
	}
	for number := range 6 {
		for _, list := range shapes(number) {
			if p := prog("x", list...); depthByText(list) <= 3 {
				wantSourceOfProgram(t, p)
			} else {
				wantNoProgramText(t, p)
			}
		}
	}
	for _, e := range append(smallExprs([]impl.Expr{con(2), ref("x")}, 2), ordinaryExprs()...) {
		for _, s := range withExpr(e) {
			for _, p := range inEveryPlace(s) {
				if isValidByText(p) && !wantSourceOfProgram(t, p) {
					t.Errorf("%q is too long", sourceOf(p))
				}
			}
		}
	}
	for _, word := range reserved {
		name := word + "1"
		wantSourceOfProgram(t, prog(name+" x", assign(name, ref(name)), while(ref(name), emit(ref("x"))), when(ref(name), nil, block(assign("x", ref(name))))))
	}
}

func TestDifferentProgramsHaveDifferentTexts(t *testing.T) {
	seen := map[string]impl.Program{}
	add := func(p impl.Program) {
		s := impl.FormatProgram(p)
		if other, found := seen[s]; found && !sameProgram(p, other) || s == "" {
			t.Fatalf("%v and %v have the source code %q", p, other, s)
		}
		seen[s] = p
	}
	for _, p := range ordinaryPrograms() {
		add(p)
	}
	for number := range 6 {
		for _, list := range shapes(number) {
			if depthByText(list) <= 3 {
				add(prog("x", list...))
				add(prog("x y", list...))
			}
		}
	}
}

// longPrograms returns random programs with source code of up to about 700 bytes.
func longPrograms(number int) []impl.Program {
	random := rand.New(rand.NewPCG(10, 2))
	var all []impl.Program
	for range number {
		p := prog([]string{"x y", "abcdefgh ijklmnop", "x abcdefgh", "abc xyz"}[random.IntN(4)])
		least := 1 + random.IntN(10)
		for range 8 {
			e := randomExpr(random, p.Vars, 5)
			for count, depth := sizeOf(e); count < least || count > 12 || depth > 5; count, depth = sizeOf(e) {
				e = randomExpr(random, p.Vars, 5)
			}
			p.Body = append(p.Body, []impl.Stmt{emit(e), assign(p.Vars[random.IntN(2)], e), while(e), when(e, nil, nil)}[random.IntN(4)])
		}
		all = append(all, p)
	}
	return all
}

// A text that is too long is returned nevertheless.
func TestTextsThatAreTooLong(t *testing.T) {
	lengths := map[int]int{}
	tooLong := 0
	for _, p := range longPrograms(2500) {
		if !wantSourceOfProgram(t, p) {
			tooLong++
		}
		lengths[len(sourceOf(p))]++
	}
	for length := 390; length <= 410; length++ {
		if lengths[length] == 0 {
			t.Errorf("no source code has %d bytes", length)
		}
	}
	if tooLong < 500 {
		t.Errorf("only %d programs are too long", tooLong)
	}
	long := ref("abcdefgh")
	same := func(left, right impl.Expr) impl.Expr { return bin(impl.OpSame, left, right) }
	e := not(same(same(same(long, long), same(long, long)), same(long, long)))
	text := "abcdefgh := !(((abcdefgh == abcdefgh) == (abcdefgh == abcdefgh)) == (abcdefgh == abcdefgh)) ;"
	p := prog("abcdefgh", slices.Repeat(block(assign("abcdefgh", e)), 8)...)
	wantProgramText(t, p, "vars abcdefgh ;"+strings.Repeat(" "+text, 8))
	wantNoProgram(t, impl.FormatProgram(p), 400)
	p.Body = p.Body[:4]
	wantProgramText(t, p, "vars abcdefgh ;"+strings.Repeat(" "+text, 4))
	if !wantSourceOfProgram(t, p) {
		t.Error("a program of four long statements is not read")
	}
}

func TestTextsOfTooManyTokens(t *testing.T) {
	one := con(1)
	minus := func(left, right impl.Expr) impl.Expr { return bin(impl.OpSubtract, left, right) }
	e := minus(one, minus(one, minus(one, minus(one, one))))
	with := minus(not(one), e.Args[1])
	for number := range 9 {
		body := append(slices.Repeat(block(assign("x", with)), number), slices.Repeat(block(assign("x", e)), 8-number)...)
		p := prog("x", body...)
		want := "vars x ;" + strings.Repeat(" x := !1 - (1 - (1 - (1 - 1))) ;", number) + strings.Repeat(" x := 1 - (1 - (1 - (1 - 1))) ;", 8-number)
		wantProgramText(t, p, want)
		if read := wantSourceOfProgram(t, p); read != (147+number <= impl.MaxTokens) {
			t.Errorf("a program of %d tokens is read: %v", 147+number, read)
		}
	}
}

func TestNormalizeProgram(t *testing.T) {
	for s, want := range map[string]string{
		"vars;": "vars ;", " vars ; ": "vars ;", "\nvars\n;\n": "vars ;", "vars x;": "vars x ;", "vars  x\n\ny;": "vars x y ;",
		"vars x;while x<3{x:=x+1;}if x{emit 1;}else{x:=0;}": "vars x ; while x < 3 { x := x + 1 ; } if x { emit 1 ; } else { x := 0 ; }",
		"vars x ; while x < 3 { x := x + 1 ; } emit x ;":    "vars x ; while x < 3 { x := x + 1 ; } emit x ;",
		"vars x;x:=((x));":                                    "vars x ; x := x ;",
		"vars x;emit(x);":                                     "vars x ; emit x ;",
		"vars x;emit(x)-(1);":                                 "vars x ; emit x - 1 ;",
		"vars x;emit x-(1-x);":                                "vars x ; emit x - (1 - x) ;",
		"vars x;emit (x-1)-x;":                                "vars x ; emit x - 1 - x ;",
		"vars x;emit !(!x);":                                  "vars x ; emit !!x ;",
		"vars x;emit ! x ;":                                   "vars x ; emit !x ;",
		"vars x;while(x){}":                                   "vars x ; while x { }",
		"vars x;while(x==1)&1{emit(1);}":                      "vars x ; while x == 1 & 1 { emit 1 ; }",
		"vars x;if(x){}else{emit(1);}":                        "vars x ; if x { } else { emit 1 ; }",
		"vars x;if x{}\nelse\n{\n}\nemit x\n;":                "vars x ; if x { } emit x ;",
		"vars x y;if x{if y{}}else{if y{}else{y:=x;}}":        "vars x y ; if x { if y { } } else { if y { } else { y := x ; } }",
		"vars x\n;\nwhile x {\n  x := x - 1;\n  emit x;\n}\n": "vars x ; while x { x := x - 1 ; emit x ; }",
	} {
		wantNormalProgram(t, s, want)
		wantNormalProgram(t, want, want)
		wantNormalProgram(t, "\n"+s+" \n", want)
	}
}

func TestLengthsOfNormalizedPrograms(t *testing.T) {
	for length := 395; length <= 405; length++ {
		spaces := strings.Repeat(" \n", length)
		for _, s := range []string{"vars x ; x := 1 ;" + spaces[:length-17], spaces[:length-17] + "vars x ; x := 1 ;", "vars x ; x" + spaces[:length-16] + ":= 1 ;"} {
			if length <= 400 {
				wantNormalProgram(t, s, "vars x ; x := 1 ;")
			} else {
				wantNotNormalProgram(t, s)
			}
		}
	}
	// The source code is short enough, and its canonical form is not.
	line := "abcdefgh:=abcdefgh==abcdefgh==1;"
	wantNotNormalProgram(t, "vars abcdefgh;"+line)
	line = "abcdefgh:=abcdefgh+abcdefgh+abcdefgh*abcdefgh;"
	s := "vars abcdefgh;" + strings.Repeat(line, 8)
	want := "vars abcdefgh ;" + strings.Repeat(" abcdefgh := abcdefgh + abcdefgh + abcdefgh * abcdefgh ;", 8)
	if len(s) > 400 || len(want) <= 400 {
		t.Fatalf("the lengths are %d and %d", len(s), len(want))
	}
	wantNormalProgram(t, s, want)
	wantNormalProgram(t, s+strings.Repeat(" ", 400-len(s)), want)
	wantNotNormalProgram(t, s+strings.Repeat(" ", 401-len(s)))
	wantNotNormalProgram(t, want)
	wantNormalProgram(t, "vars;emit "+strings.Repeat("(", 72)+"1"+strings.Repeat(")", 72)+";", "vars ; emit 1 ;")
	wantNotNormalProgram(t, "vars;emit "+strings.Repeat("(", 73)+"1"+strings.Repeat(")", 73)+";")
}

func TestSourcesOfProgramsThatAreNotNormalized(t *testing.T) {
	for _, s := range []string{
		"", " ", "vars", "vars x", "x", ";", "?", "emit 1 ;", "vars x ; emit", "vars x ; x", "vars x ; x := 1", "vars x ; while x", "vars x ; while x {", "vars x ; if x { } else", "vars x ; if x { } else {",
		"vars x ; }", "vars x ; else { }", "vars x ; if x { } else { } else { }", "vars x ; ;", "vars x ; emit ;", "vars x ; x := ;", "vars x ; while { }", "vars x ; if { }", "vars x ; ? ;",
		"vars x ; emit 1 < 1 < 1 ;", "vars x ; emit 4 ;", "vars x ; X := 1 ;", "vars x ; x = 1 ;", "vars\tx ;", "vars x ; emit x ;\x00", "vars x ; emit x ;\xff", "vars é ;", "vars x ; emit\u00a0x ;", "vars x ;\r\n", "vars\u2028x ;",
		"vars x x ;", "vars x y z ;", "vars if ;", "vars a ;", "vars x ; y := 1 ;", "vars x ; emit y ;", "vars ; x := x ;", "vars x ; while y { }", "vars x ; if x { } else { y := 1 ; }",
		"vars ; " + strings.Repeat("emit 1 ; ", 9), "vars ; while 1 { while 1 { while 1 { emit 1 ; } } }", "vars ; emit !!!!!1 ;", "vars x ; emit x ; // x", strings.Repeat(" ", 401), "vars ;" + strings.Repeat(" ", 395), strings.Repeat("vars ;", 100000),
	} {
		wantNotNormalProgram(t, s)
	}
	for _, p := range ordinaryPrograms() {
		whole := sourceOf(p)
		for length := range len(whole) {
			want, bad := readByForms(whole[:length])
			if bad == -1 {
				wantNormalProgram(t, whole[:length], sourceOf(want))
			} else {
				wantNotNormalProgram(t, whole[:length])
			}
		}
		wantNotNormalProgram(t, whole+" }")
		wantNotNormalProgram(t, whole[1:])
		wantNotNormalProgram(t, whole+whole)
	}
}

func TestNormalizeProgramAgreesWithTheSecondReading(t *testing.T) {
	random := rand.New(rand.NewPCG(10, 3))
	others := append(append(slices.Clone(allSymbols), reserved...), "x", "y", "1", "=", "4", "X", "é", "\xff")
	normal, wrong := 0, 0
	for range 12000 {
		vars := []string{"", "x", "x y", "x y", "x1 y", "x abcdefgh", "x x"}[random.IntN(7)]
		texts := slices.Concat([]string{"vars"}, strings.Fields(vars), []string{";"}, randomBlock(random, 1+random.IntN(4), 1+random.IntN(4)))
		if random.IntN(4) == 0 {
			texts = slices.Insert(texts, random.IntN(len(texts)+1), others[random.IntN(len(others))])
		}
		s := spacedAtRandom(random, texts)
		p, bad := readByForms(s)
		if bad == -1 {
			wantNormalProgram(t, s, sourceOf(p))
			normal++
		} else {
			wantNotNormalProgram(t, s)
			wrong++
		}
	}
	if min(normal, wrong) < 2000 {
		t.Errorf("%d sources are normalized, %d are not", normal, wrong)
	}
}

func TestTextsOfLargeStmts(t *testing.T) {
	deep, inElse := block(assign("x", con(1))), block(assign("x", con(1)))
	for range 100000 {
		deep, inElse = block(while(con(1), deep...)), block(when(con(1), nil, inElse))
	}
	for _, c := range []struct {
		list          []impl.Stmt
		before, after string
	}{{deep, "while 1 { ", " }"}, {inElse, "if 1 { } else { ", " }"}} {
		want := strings.Repeat(c.before, 100000) + "x := 1 ;" + strings.Repeat(c.after, 100000)
		if got := impl.FormatStmts(c.list); len(got) != 1 || got[0] != want {
			t.Error("a deep statement has another text")
		}
		wantNoProgramText(t, prog("x", c.list...))
	}
	wide := slices.Repeat(block(emit(ref("x")), while(con(1), emits(2)...)), 50000)
	if got := impl.FormatStmts(wide); !slices.Equal(got, slices.Repeat([]string{"emit x ;", "while 1 { emit 1 ; emit 1 ; }"}, 50000)) {
		t.Error("a wide list has other texts")
	}
	if got := impl.FormatStmts(block(while(con(1), wide...))); len(got) != 1 || got[0] != "while 1 {"+strings.Repeat(" emit x ; while 1 { emit 1 ; emit 1 ; }", 50000)+" }" {
		t.Error("a wide statement has another text")
	}
	wantNoProgramText(t, prog("x", wide...))
}

func TestTextsOfSharedBlocks(t *testing.T) {
	shared := block(assign("x", con(1)), emit(ref("x")))
	list := block(when(ref("x"), shared, shared[1:]), while(con(0), shared[1:]...), while(con(0), shared[:1]...))
	wantTexts(t, list, "if x { x := 1 ; emit x ; } else { emit x ; }", "while 0 { emit x ; }", "while 0 { x := 1 ; }")
	wantSourceOfProgram(t, prog("x", list...))
	list = block(emit(con(2)))
	for range 15 {
		list = block(when(con(1), list, list))
	}
	if got := impl.FormatStmts(list); len(got) != 1 || got[0] != textOf(list[0]) {
		t.Error("a statement with shared blocks has another text")
	}
	// No text can hold all of these statements, and their number is no int in the end.
	for number := range 100 {
		list = block(when(con(1), list, list), emit(con(3)))
		if number < 25 {
			continue
		}
		if got := impl.FormatStmts(list); !slices.Equal(got, []string{"?", "emit 3 ;"}) {
			t.Errorf("FormatStmts returns %d texts", len(got))
		}
		wantNoProgramText(t, prog("", list...))
	}
	// Nobody writes the blocks of these.
	list = block(impl.Stmt{Kind: impl.StAssign, Name: "x", Expr: con(1), Body: list, Else: list}, impl.Stmt{Kind: impl.StWhile, Expr: con(1), Else: list}, impl.Stmt{Kind: impl.StEmit, Expr: con(1), Body: list}, impl.Stmt{Body: list})
	if got := impl.FormatStmts(list); !slices.Equal(got, []string{"x := 1 ;", "while 1 { }", "emit 1 ;", "?"}) {
		t.Errorf("FormatStmts returns %.400q", got)
	}
}

func TestTextsOfStmtsThatContainThemselves(t *testing.T) {
	for kind := -1; kind <= 5; kind++ {
		for in := 1; in <= 3; in++ {
			list := endlessList(kind, "x", in != 2, in != 1)
			last := "?"
			switch {
			case kind == impl.StAssign:
				last = "x := 1 ;"
			case kind == impl.StEmit:
				last = "emit 1 ;"
			case kind == impl.StWhile && in == 2:
				last = "while 1 { }"
			}
			if got := impl.FormatStmts(list); !slices.Equal(got, []string{"x := 1 ;", last}) {
				t.Errorf("FormatStmts of an endless list returns %.400q", got)
			}
			if got := impl.FormatStmts(list[1:]); !slices.Equal(got, []string{last}) {
				t.Errorf("FormatStmts of an endless list returns %.400q", got)
			}
			wantNoProgramText(t, prog("x", list...))
			wantNoProgramText(t, prog("x", while(con(1), list...)))
		}
	}
	endless := con(1)
	endless.Kind, endless.Args = impl.ExprNot, []impl.Expr{{Kind: impl.ExprNot}}
	endless.Args[0].Args = endless.Args
	if got := impl.FormatStmts(block(emit(endless), while(endless))); !slices.Equal(got, []string{"emit  ;", "while  { }"}) {
		t.Errorf("FormatStmts of endless expressions returns %.400q", got)
	}
	for _, s := range withExpr(endless) {
		wantNoProgramText(t, prog("x", s))
	}
}

func TestFormattedProgramsAreNotModified(t *testing.T) {
	for _, plain := range append(differentPrograms(), prog("x y", while(con(4), emits(20)...), emit(fullTree(6)), when(con(1), emits(2), block(impl.Stmt{Kind: 9, Body: emits(1)})))) {
		vars, array := behind(plain.Vars)
		p := impl.Program{Vars: vars, Body: spaciousStmts(plain.Body)}
		before, beforeVars := stmtsWithCapacity(p.Body), slices.Clone(array)
		s, texts := impl.FormatProgram(p), impl.FormatStmts(p.Body)
		wantProgramText(t, plain, s)
		wantTexts(t, plain.Body, texts...)
		kept, keptTexts := strings.Clone(s), slices.Clone(texts)
		// A change of a result changes neither the argument nor another result.
		other := impl.FormatStmts(p.Body)
		for i := range other[:cap(other)] {
			other[:cap(other)][i] = "changed"
		}
		wantTexts(t, p.Body, keptTexts...)
		if !reflect.DeepEqual(stmtsWithCapacity(p.Body), before) || !slices.Equal(array, beforeVars) {
			t.Errorf("a function or a change of its result modified %v", plain)
		}
		// A change of the argument changes no result.
		stmts, exprs := partsOf(p.Body)
		for _, part := range exprs {
			*part = impl.Expr{Kind: -7, Name: "changed"}
		}
		for _, part := range stmts {
			*part = impl.Stmt{Kind: -7, Name: "changed"}
		}
		for i := range array {
			array[i] = "changed"
		}
		if s != kept || !slices.Equal(texts, keptTexts) {
			t.Errorf("a change of the argument changed its texts from %q to %q", keptTexts, texts)
		}
	}
}

func TestFormatsOfProgramsKeepNothing(t *testing.T) {
	p := prog("x", while(ref("x"), assign("x", con(1))))
	for range 3 {
		wantProgramText(t, p, "vars x ; while x { x := 1 ; }")
		wantTexts(t, p.Body, "while x { x := 1 ; }")
		// The same memory with another content is another program.
		p.Body[0].Body[0] = emit(con(2))
		wantProgramText(t, p, "vars x ; while x { emit 2 ; }")
		p.Body[0].Body[0] = emit(con(4))
		wantNoProgramText(t, p)
		wantTexts(t, p.Body, "while x { emit  ; }")
		p.Body[0].Kind = 5
		wantTexts(t, p.Body, "?")
		wantNotNormalProgram(t, "vars x ; while x {")
		wantNormalProgram(t, "vars x;emit(x);", "vars x ; emit x ;")
		wantNotNormalProgram(t, "vars x ; y := 1 ;")
		wantNotNormalProgram(t, "")
		wantNormalProgram(t, "vars;", "vars ;")
		p.Body[0].Kind = impl.StWhile
		p.Body[0].Body[0] = assign("x", con(1))
	}
}
