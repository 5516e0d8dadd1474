package tests

import (
	"math/rand/v2"
	"regexp"
	"slices"
	"sort"
	"strings"
	"testing"

	"loop.example/g00514/impl"
)

func sameStmt(s, other impl.Stmt) bool {
	return s.Kind == other.Kind && s.Name == other.Name && sameExpr(s.Expr, other.Expr) && sameStmts(s.Body, other.Body) && sameStmts(s.Else, other.Else)
}

func sameStmts(list, other []impl.Stmt) bool { return slices.EqualFunc(list, other, sameStmt) }

func sameProgram(p, other impl.Program) bool {
	return slices.Equal(p.Vars, other.Vars) && sameStmts(p.Body, other.Body)
}

// wantReadProgram takes the results of ParseProgram, and checks what holds for all of them.
func wantReadProgram(t *testing.T, s string, want impl.Program, wantBad int) {
	t.Helper()
	p, bad := impl.ParseProgram(s)
	if bad != wantBad || !sameProgram(p, want) {
		t.Fatalf("ParseProgram(%.450q) = %v, %d; want %v, %d", s, p, bad, want, wantBad)
	}
	if bad < -1 || bad > len(s) || bad >= 0 && !sameProgram(p, impl.Program{}) || bad == -1 && !impl.IsValidProgram(p) {
		t.Fatalf("ParseProgram(%.450q) = %v, %d", s, p, bad)
	}
}

func wantNoProgram(t *testing.T, s string, want int) {
	t.Helper()
	wantReadProgram(t, s, impl.Program{}, want)
}

// wantWrong takes a source code in which an @ precedes the token that is not permitted, or stands at an end that is too early.
func wantWrong(t *testing.T, marked string) {
	t.Helper()
	before, behind, found := strings.Cut(marked, "@")
	if !found {
		t.Fatalf("no place of %q is marked", marked)
	}
	wantNoProgram(t, before+behind, len(before))
	wantNoProgram(t, "\n "+before+behind, 2+len(before))
	wantNoProgram(t, strings.ReplaceAll(before, " ", "\n ")+behind, len(before)+strings.Count(before, " "))
	wantProgramByForms(t, before+behind)
}

// respaced returns the source code with other separators, and with as few as possible.
func respaced(s string) []string {
	list, _ := tokensByParts(s)
	var texts []string
	for _, token := range list {
		texts = append(texts, writtenOut(token))
	}
	spaced := strings.Join(texts, " ")
	dense := regexp.MustCompile(`\B | \B`).ReplaceAllString(spaced, "")
	return []string{spaced, dense, strings.Join(texts, "\n"), "\n" + dense + " ", strings.ReplaceAll(dense, ";", " ;\n"), strings.ReplaceAll(dense, "{", "\n {  ")}
}

// wantSourcesOfProgram takes the source code of a valid program.
func wantSourcesOfProgram(t *testing.T, s string, want impl.Program) {
	t.Helper()
	for _, source := range append(respaced(s), s) {
		if len(source) <= impl.MaxText {
			wantReadProgram(t, source, want, -1)
		}
	}
}

// wantNotValid takes a source code that has the right syntax.
func wantNotValid(t *testing.T, s string) {
	t.Helper()
	for _, source := range append(respaced(s), s) {
		if len(source) <= impl.MaxText {
			wantNoProgram(t, source, 0)
		}
	}
	wantProgramByForms(t, s)
	// What is wrong behind it is found nevertheless.
	for _, rest := range []string{"@}", "@)", "@post", "@vars x ;", "@a := 1 ;", "@1 ;", "x@", "x @;", "emit@", "emit 1 < 2 @< 3 ;", "while x {@", "if 1 { } @)"} {
		if len(s)+len(rest) < 350 {
			wantWrong(t, s+" "+rest)
		}
	}
}

// formOf returns one byte for each token. Tokens with the same one may replace each other, as far as the syntax is concerned.
func formOf(texts []string) string {
	var form strings.Builder
	for _, text := range texts {
		switch {
		case slices.Contains([]string{"vars", "if", "while", "emit"}, text):
			form.WriteByte(text[0])
		case text == "else":
			form.WriteByte('l')
		case slices.Contains(reserved, text):
			form.WriteByte('r')
		case nameSyntax.MatchString(text):
			form.WriteByte('n')
		case strings.Contains("0123", text):
			form.WriteByte('0')
		default:
			form.WriteString(strings.NewReplacer("==", "<", ":=", ":", "-", "+", "*", "+", "/", "+", "|", "&").Replace(text))
		}
	}
	return form.String()
}

// Forms of expressions without parentheses, and of what contains them; S is the form of a statement.
const (
	operandForm = `!*[n0]`
	sumForm     = operandForm + `(?:\+` + operandForm + `)*`
	compareForm = sumForm + `(?:<` + sumForm + `)?`
	exprForm    = compareForm + `(?:&` + compareForm + `)*`
	blockForm   = `\{S*\}`
)

var (
	parenthesesForm = regexp.MustCompile(`\(` + exprForm + `\)`)
	stmtForm        = regexp.MustCompile(`n:` + exprForm + `;|e` + exprForm + `;|w` + exprForm + blockForm + `|i` + exprForm + blockForm + `l` + blockForm)
	ifForm          = regexp.MustCompile(`i` + exprForm + blockForm + `([^l]|$)`)
	programForm     = regexp.MustCompile(`^vn*;S*$`)
)

// isProgram replaces parts by shorter ones with the same meaning until none is left.
func isProgram(form string) bool {
	for {
		next := parenthesesForm.ReplaceAllString(form, "0")
		next = stmtForm.ReplaceAllString(next, "S")
		next = ifForm.ReplaceAllString(next, "S$1")
		if next == form {
			return programForm.MatchString(form)
		}
		form = next
	}
}

var knownBeginnings = map[string]bool{}

// isBeginning reports whether a program begins so: it is then one after at most an operand, the open parentheses, the end of a statement and the open braces.
func isBeginning(form string) bool {
	is, known := knownBeginnings[form]
	if known {
		return is
	}
	parentheses := strings.Repeat(")", max(0, strings.Count(form, "(")-strings.Count(form, ")")))
	braces := strings.Repeat("}", max(0, strings.Count(form, "{")-strings.Count(form, "}")))
	for _, operand := range []string{"", "n", ":n", "v"} {
		for _, end := range []string{";", "{}", ""} {
			is = is || isProgram(form+operand+parentheses+end+braces)
		}
	}
	knownBeginnings[form] = is
	return is
}

// wrongPlaceOf returns the index of the first token that is not permitted, the number of tokens if another one must follow, and -1 for a program.
func wrongPlaceOf(texts []string) int {
	form := formOf(texts)
	wrong := sort.Search(len(form), func(i int) bool { return !isBeginning(form[:i+1]) })
	if wrong == len(form) && isProgram(form) {
		return -1
	}
	return wrong
}

// programOf takes the tokens of a program, and divides them at the ends of statements and blocks.
func programOf(texts []string) impl.Program {
	end := slices.Index(texts, ";")
	return impl.Program{Vars: texts[1:end], Body: stmtsOfTexts(texts[end+1:])}
}

func stmtsOfTexts(texts []string) []impl.Stmt {
	if len(texts) == 0 {
		return nil
	}
	var s impl.Stmt
	end, open := slices.Index(texts, ";"), slices.Index(texts, "{")
	switch texts[0] {
	case "emit":
		s = emit(treeOf(texts[1:end]))
		texts = texts[end+1:]
	case "while":
		s = while(treeOf(texts[1:open]))
		s.Body, texts = blockOfTexts(texts[open:])
	case "if":
		s = when(treeOf(texts[1:open]), nil, nil)
		s.Body, texts = blockOfTexts(texts[open:])
		if len(texts) > 0 && texts[0] == "else" {
			s.Else, texts = blockOfTexts(texts[1:])
		}
	default:
		s = assign(texts[0], treeOf(texts[2:end]))
		texts = texts[end+1:]
	}
	return append(block(s), stmtsOfTexts(texts)...)
}

// blockOfTexts also returns the tokens behind the block.
func blockOfTexts(texts []string) ([]impl.Stmt, []string) {
	open := 0
	for i, text := range texts {
		switch text {
		case "{":
			open++
		case "}":
			open--
		}
		if open == 0 {
			return stmtsOfTexts(texts[1:i]), texts[i+1:]
		}
	}
	return nil, nil
}

// readByForms reads source code by the functions above, tokensByParts and isValidByText.
func readByForms(s string) (impl.Program, int) {
	list, bad := tokensByParts(s)
	if bad >= 0 {
		return impl.Program{}, bad
	}
	var texts []string
	var offsets []int
	for _, token := range list {
		texts, offsets = append(texts, writtenOut(token)), append(offsets, token.At)
	}
	if wrong := wrongPlaceOf(texts); wrong >= 0 {
		return impl.Program{}, append(offsets, len(s))[wrong]
	}
	p := programOf(texts)
	if !isValidByText(p) {
		return impl.Program{}, 0
	}
	return p, -1
}

func wantProgramByForms(t *testing.T, s string) {
	t.Helper()
	want, wantBad := readByForms(s)
	wantReadProgram(t, s, want, wantBad)
}

// sourceOf takes a program of the four kinds of statements.
func sourceOf(p impl.Program) string {
	return strings.Join(append([]string{"vars"}, p.Vars...), " ") + " ;" + sourceOfStmts(p.Body)
}

// sourceOfStmts has a space in front of each statement.
func sourceOfStmts(list []impl.Stmt) string {
	var all strings.Builder
	for _, s := range list {
		e, _ := shortSource(s.Expr)
		switch s.Kind {
		case impl.StAssign:
			all.WriteString(" " + s.Name + " := " + e + " ;")
		case impl.StEmit:
			all.WriteString(" emit " + e + " ;")
		case impl.StWhile:
			all.WriteString(" while " + e + " {" + sourceOfStmts(s.Body) + " }")
		case impl.StIf:
			all.WriteString(" if " + e + " {" + sourceOfStmts(s.Body) + " }")
			if len(s.Else) > 0 {
				all.WriteString(" else {" + sourceOfStmts(s.Else) + " }")
			}
		}
	}
	return all.String()
}

func TestProgramsWithoutStmts(t *testing.T) {
	for vars, names := range map[string]string{"": "", "x": "x", "y": "y", "x y": "x y", "y x": "y x", "z9999999 c": "z9999999 c", "\n x \n\n y\n": "x y", "vars1 iff": "vars1 iff", "aa bb": "aa bb"} {
		wantSourcesOfProgram(t, "vars "+vars+" ;", prog(names))
		wantReadProgram(t, "vars "+vars+";", prog(names), -1)
	}
	wantReadProgram(t, "vars;", impl.Program{}, -1)
	wantReadProgram(t, " vars ; ", impl.Program{}, -1)
}

func TestStmtsOfSource(t *testing.T) {
	x, y, one := ref("x"), ref("y"), con(1)
	inc := assign("x", bin(impl.OpAdd, x, one))
	for s, body := range map[string][]impl.Stmt{
		"x := 1;":                            block(assign("x", one)),
		"y:=x;":                              block(assign("y", x)),
		"x := x + 1;":                        block(inc),
		"x := (x == y) == 1;":                block(assign("x", bin(impl.OpSame, bin(impl.OpSame, x, y), one))),
		"emit x;":                            block(emit(x)),
		"emit 3;":                            block(emit(con(3))),
		"emit(1);":                           block(emit(one)),
		"emit !x & y < 1;":                   block(emit(bin(impl.OpAnd, not(x), bin(impl.OpLess, y, one)))),
		"emit x; emit y;":                    block(emit(x), emit(y)),
		"emit y; emit x;":                    block(emit(y), emit(x)),
		"x := 1; y := 2;":                    block(assign("x", one), assign("y", con(2))),
		"while x { }":                        block(while(x)),
		"while(x){}":                         block(while(x)),
		"while x { emit y; }":                block(while(x, emit(y))),
		"while x<1 {x:=x+1;}":                block(while(bin(impl.OpLess, x, one), inc)),
		"if x { }":                           block(when(x, nil, nil)),
		"if x { } else { }":                  block(when(x, nil, nil)),
		"if(x){}else{}emit 1;":               block(when(x, nil, nil), emit(one)),
		"if x { emit 1; }":                   block(when(x, block(emit(one)), nil)),
		"if x { emit 1; } else { }":          block(when(x, block(emit(one)), nil)),
		"if x { } else { emit 1; }":          block(when(x, nil, block(emit(one)))),
		"if x { emit 1; } else { emit y; }":  block(when(x, block(emit(one)), block(emit(y)))),
		"if x { emit 1; } emit y;":           block(when(x, block(emit(one)), nil), emit(y)),
		"if x { } if y { } else { emit 1; }": block(when(x, nil, nil), when(y, nil, block(emit(one)))),
		"if x { } else { if y { } } emit 1;": block(when(x, nil, block(when(y, nil, nil))), emit(one)),
		"if x { if y { } else { emit 1; } }": block(when(x, block(when(y, nil, block(emit(one)))), nil)),
		"if x { if y { } } else { emit 1; }": block(when(x, block(when(y, nil, nil)), block(emit(one)))),
		"if x { if y { } else { } } else { emit 1; }":                            block(when(x, block(when(y, nil, nil)), block(emit(one)))),
		"while x { if y { } else { emit 1; } }":                                  block(while(x, when(y, nil, block(emit(one))))),
		"while x { } while y { }":                                                block(while(x), while(y)),
		"while x { while y { } emit 1; }":                                        block(while(x, while(y), emit(one))),
		"while x { while y { emit 1; } }":                                        block(while(x, while(y, emit(one)))),
		"while x { while y { emit 1; } } emit y;":                                block(while(x, while(y, emit(one))), emit(y)),
		"while x { x := x + 1; emit y; } emit x;":                                block(while(x, inc, emit(y)), emit(x)),
		"if !x { x := x + 1; } else { while y { x := x + 1; y := 1; } } emit x;": block(when(not(x), block(inc), block(while(y, inc, assign("y", one)))), emit(x)),
	} {
		wantSourcesOfProgram(t, "vars x y; "+s, prog("x y", body...))
		wantSourcesOfProgram(t, "vars y x; "+s, prog("y x", body...))
		wantProgramByForms(t, "vars x y; "+s)
	}
}

func TestTokensThatAreNotPermittedInPrograms(t *testing.T) {
	for _, marked := range []string{
		"@x", "@;", "@1", "@x := 1 ;", "@emit 1 ;", "@if 1 { }", "@while 1 { }", "@{ }", "@} vars x ;", "@( vars x ; )", "@else", "@; vars x ;",
		"vars @1 ;", "vars @( x ) ;", "vars x @+ y ;", "vars @:= ;", "vars @{ x } ;", "vars @vars x ;", "vars x @1 ;", "vars x y @{ }", "vars x @:= 1 ;",
		"vars x y @} ;", "vars x y z @! ;", "vars x @vars y ;", "vars @emit 1 ;", "vars x @emit x ;",
		"vars x ; @;", "vars x ; @; x := 1 ;", "vars x ; @1 ;", "vars x ; @( x ) := 1 ;", "vars x ; @:= 1 ;", "vars x ; @{ }", "vars x ; @{ emit 1 ; }", "vars x ; @}",
		"vars x ; @)", "vars x ; @! x ;", "vars x ; @+ 1 ;", "vars x ; @vars y ;", "vars x ; emit 1 ; @vars y ;", "vars x ; @else { }",
		"vars x ; x @;", "vars x ; x @x := 1 ;", "vars x ; x @== 1 ;", "vars x ; x @+ 1 ;", "vars x ; x @( 1 ) ;", "vars x ; x @1 ;", "vars x ; x @{ }",
		"vars x ; x @} ", "vars x ; x @emit 1 ;", "vars x ; x @if ;", "vars x y ; x @y := 1 ;",
		"vars x ; x := @;", "vars x ; x := @:= 1 ;", "vars x ; x := x @:= 1 ;", "vars x ; x := 1 @1 ;", "vars x ; x := 1 @x := 1 ;", "vars x ; x := 1 @}",
		"vars x ; x := 1 @{ }", "vars x ; x := 1 @emit 1 ;", "vars x ; x := 1 @) ;", "vars x ; x := ( 1 @;", "vars x ; x := 1 + @;", "vars x ; x := 1 ; @;",
		"vars x ; x := 1 < 1 @< 1 ;", "vars x ; x := @- 1 ;", "vars x ; x := @else ;", "vars x ; x := ! @;", "vars x ; x := @{ 1 } ;", "vars x ; x := ( @) ;",
		"vars x ; x := 1 @!1 ;",
		"vars x ; emit @;", "vars x ; emit @:= 1 ;", "vars x ; emit x @:= 1 ;", "vars x ; emit @emit 1 ;", "vars x ; emit x @emit x ;", "vars x ; emit x @y ;",
		"vars x ; emit 1 @}", "vars x ; emit 1 @{ }", "vars x ; emit 1 @) ;", "vars x ; emit ( 1 @;", "vars x ; emit 1 ; @;", "vars x ; emit 1 == 1 @== 1 ;",
		"vars x ; emit 1 + @;", "vars x ; emit @if 1 { }", "vars x ; emit @{ 1 } ;", "vars x ; emit @* 1 ;",
		"vars x ; while @{ }", "vars x ; while @;", "vars x ; while x @;", "vars x ; while x @}", "vars x ; while x @x := 1 ;", "vars x ; while x @emit 1 ;",
		"vars x ; while x @:= 1 ;", "vars x ; while ( x @{ }", "vars x ; while ( x ) @) { }", "vars x ; while x < 1 @< 1 { }", "vars x ; while x + @{ }",
		"vars x ; while x { @;", "vars x ; while x { @{ } }", "vars x ; while x { } @}", "vars x ; while x { } @;", "vars x ; while x { } @else { }",
		"vars x ; while x { emit 1 ; } @else { }", "vars x ; while x { @else { } }", "vars x ; while x { emit 1 @}", "vars x ; while x { x @}",
		"vars x ; while x { x := @}", "vars x ; while x { emit @}", "vars x ; while x { } @{ }", "vars x ; while x { @) }", "vars x ; while x { @vars y ; }",
		"vars x ; while x { @1 }", "vars x ; while @while x { }", "vars x ; while @if x { }",
		"vars x ; if @{ }", "vars x ; if @;", "vars x ; if x @;", "vars x ; if x @x := 1 ;", "vars x ; if x @else { }", "vars x ; if x @emit 1 ;", "vars x ; if x @}",
		"vars x ; if ( x @{ }", "vars x ; if x < 1 @== 1 { }", "vars x ; if @else { }", "vars x ; if x { @else { } }", "vars x ; if x { @; }",
		"vars x ; if x { @{ } }", "vars x ; if x { } @}", "vars x ; if x { } @;", "vars x ; if x { } @{ }", "vars x ; if x { emit 1 ; @else { } }",
		"vars x ; if x { emit 1 ; } emit 1 ; @else { }",
		"vars x ; if x { } else @;", "vars x ; if x { } else @x := 1 ;", "vars x ; if x { } else @if x { }", "vars x ; if x { } else @else { }",
		"vars x ; if x { } else @}", "vars x ; if x { } else @while x { }", "vars x ; if x { } else @emit 1 ;", "vars x ; if x { } else @x { }",
		"vars x ; if x { } else @( x ) { }", "vars x ; if x { } else { } @else { }", "vars x ; if x { } else { @else { } }", "vars x ; if x { } else { } @}",
		"vars x ; if x { } else { } @;", "vars x ; if x { } else { @; }", "vars x ; if x { } else { emit 1 @}", "vars x ; if x { } else { } @{ }",
		"vars x ; if x { } else { if x { } } @else { }", "vars x ; if x { } emit 1 ; @else { }",
		"vars x ; while x { if x { } else { } @else { } }", "vars x ; while x { if x { } } @else { }", "vars x ; if x { while x { } @else { } }",
		"vars x ; if x { while x { } } else { } @}", "vars x ; while x { while x { while x { emit x @} } }", "vars x ; while x { while x { } } @}",
	} {
		wantWrong(t, marked)
	}
}

func TestReservedWordsInPrograms(t *testing.T) {
	for _, word := range reserved {
		for _, marked := range []string{
			"vars @" + word + " ;", "vars x @" + word + " ;", "vars @" + word, "vars @" + word + " x ;", "vars x y @" + word + " x ;",
			"vars x ; x @" + word + " ;", "vars x ; x := @" + word + " ;", "vars x ; x := x @" + word + " ;", "vars x ; x := x + @" + word + " ;", "vars x ; emit @" + word + " ;", "vars x ; emit x @" + word + " ;", "vars x ; emit ( @" + word + " ) ;", "vars x ; emit ! @" + word + " ;",
			"vars x ; while @" + word + " { }", "vars x ; while x @" + word + " { }", "vars x ; if @" + word + " { }", "vars x ; if x @" + word + " { }", "vars x ; if x { } else @" + word + " { }",
		} {
			wantWrong(t, marked)
		}
		if word != "vars" {
			wantWrong(t, "@"+word)
			wantWrong(t, "@"+word+" x ;")
		}
		at, rest := "@"+word+" ", ":= 1 ;"
		if slices.Contains([]string{"emit", "while", "if"}, word) {
			at = word + " @"
		}
		for _, before := range []string{"vars ; ", "vars x ; ", "vars x ; x := 1 ; ", "vars x ; emit x ; ", "vars x ; while x { } ", "vars x ; while x { ", "vars x ; while x { x := 1 ; ", "vars x ; if x { ", "vars x ; if x { emit 1 ; ", "vars x ; if x { } else { ", "vars x ; if x { } else { x := 1 ; ", "vars x ; if x { } else { } ", "vars x ; while x { if x { } else { } "} {
			wantWrong(t, before+at+rest)
			wantWrong(t, before+at+rest+" }")
		}
		if word != "else" {
			wantWrong(t, "vars x ; if x { } "+at+rest)
		}
		// What only begins or ends so is a name.
		for _, name := range []string{word + "x", "x" + word, word + "1"} {
			wantSourcesOfProgram(t, "vars "+name+" ; "+name+" := "+name+" ; while "+name+" { "+name+" := 1 ; }", prog(name, assign(name, ref(name)), while(ref(name), assign(name, con(1)))))
			wantNotValid(t, "vars x ; "+name+" := 1 ;")
			wantWrong(t, "vars x ; "+name+" @;")
		}
	}
}

func TestNamesThatAreNotVariables(t *testing.T) {
	for _, s := range []string{
		"vars x ; y := 1 ;", "vars ; x := 1 ;", "vars x y ; z := 1 ;", "vars xy ; x := 1 ;", "vars x ; xy := 1 ;", "vars x1 ; x := 1 ;", "vars x ; x := 1 ; y := 1 ;",
		"vars x ; y := 1 ; x := 1 ;",
		"vars x ; x := y ;", "vars ; emit x ;", "vars x ; emit y ;", "vars x ; emit x + ! y ;", "vars x ; emit 1 * ( x - y ) ;", "vars x ; emit x ; emit y ;",
		"vars x ; while y { }", "vars x ; if y { }", "vars x ; if y { } else { }", "vars x ; while x { y := 1 ; }", "vars x ; if x { y := 1 ; }",
		"vars x ; if x { } else { y := 1 ; }", "vars x ; if x { } else { while x { emit y ; } }", "vars y ; while y { y := x ; }",
		"vars x ; abcdefgh := abcdefgh ;", "vars abcdefgh ; abcdefgi := 1 ;", "vars x ; emits := 1 ;", "vars x ; ifx := 1 ;", "vars x ; vars1 := 1 ;",
	} {
		wantNotValid(t, s)
	}
	// Whether a name is a variable does not matter as long as the syntax is wrong.
	for _, marked := range []string{"vars x ; y @;", "vars x ; y := @;", "vars x ; y := 1@", "vars x ; y@", "vars x ; emit y@", "vars ; emit x @y ;", "vars ; x @y := 1 ;", "vars x ; emitx @;", "vars x ; emit1 @;", "vars x ; whilex @{ }", "vars x ; if1 @{ }", "vars x ; while y { z := 1@", "vars ; emitx @+ 1 ;"} {
		wantWrong(t, marked)
	}
	wantNoProgram(t, "varsx;", 0)
	wantNoProgram(t, " varsx;", 1)
	wantNoProgram(t, "vars1 ; emit 1 ;", 0)
	wantReadProgram(t, "vars emits;emits:=1;", prog("emits", assign("emits", con(1))), -1)
}

func TestProgramsThatAreNotValid(t *testing.T) {
	deep := func(number int, s string) string {
		return strings.Repeat("while 1 { ", number) + s + strings.Repeat(" }", number)
	}
	for _, s := range []string{
		"vars x x ;", "vars x y z ;", "vars x y x ;", "vars x y y ;", "vars x x x ;", "vars abcdefgh abcdefgh ;", "vars x x ; emit x ;", "vars x y z ; emit z ;",
		"vars " + strings.Repeat("x", 8) + strings.Repeat(" x1", 40) + " ;",
		"vars ; " + strings.Repeat("emit 1 ; ", 9), "vars x ; " + strings.Repeat("x := 1 ; ", 9), "vars x ; " + strings.Repeat("if x { } ", 9),
		"vars ; " + strings.Repeat("emit 1 ; ", 20), "vars ; if 1 { " + strings.Repeat("emit 1 ; ", 8) + "}",
		"vars ; while 1 { " + strings.Repeat("emit 1 ; ", 8) + "}", "vars ; if 1 { } else { " + strings.Repeat("emit 1 ; ", 8) + "}",
		"vars ; if 1 { emit 1 ; emit 1 ; emit 1 ; emit 1 ; } else { emit 1 ; emit 1 ; emit 1 ; emit 1 ; }",
		"vars ; " + strings.Repeat("if 1 { emit 1 ; } else { emit 1 ; } ", 3),
		"vars ; " + deep(3, "emit 1 ;"), "vars ; " + deep(3, "while 1 { }"), "vars ; " + deep(4, ""), "vars ; " + deep(7, "emit 1 ;"),
		"vars ; if 1 { " + deep(2, "emit 1 ;") + " }", "vars ; if 1 { } else { " + deep(2, "emit 1 ;") + " }",
		"vars ; emit 1 ; " + deep(2, "if 1 { } else { emit 1 ; }"),
		"vars ; emit !!!!!1 ;", "vars x ; x := !!!!!x ;", "vars x ; while !!!!!x { }", "vars x ; if !!!!!x { }", "vars x ; if x { } else { emit !!!!!x ; }",
		"vars x ; while x { x := 1+1+1+1+1+1 ; }", "vars x ; emit x*(x*(x*(x*!x))) ;", "vars ; emit !((1+1)*(1+1)<1+!1) ;",
	} {
		wantNotValid(t, s)
	}
	for _, s := range []string{
		"vars x y ;", "vars ; " + strings.Repeat("emit 1 ; ", 8), "vars x ; " + strings.Repeat("if x { } ", 8),
		"vars ; if 1 { " + strings.Repeat("emit 1 ; ", 7) + "}", "vars ; if 1 { } else { " + strings.Repeat("emit 1 ; ", 7) + "}",
		"vars ; if 1 { emit 1 ; emit 1 ; emit 1 ; } else { emit 1 ; emit 1 ; emit 1 ; emit 1 ; }",
		"vars ; " + deep(2, "emit 1 ;"), "vars ; " + deep(3, ""), "vars ; " + deep(2, "if 1 { } else { }"), "vars ; if 1 { } else { " + deep(1, "emit 1 ;") + " }",
		"vars ; " + deep(2, "emit 1 ; emit 2 ; emit 3 ; emit 1 ; emit 2 ; emit 3 ;"),
		"vars ; emit !!!!1 ;", "vars x ; x := !!!!x ;", "vars x ; while !!!!x { }", "vars x ; if !!!!x { }", "vars x ; while x { x := 1+1+1+1+1 ; }",
		"vars x ; emit x*(x*(x*(x*x))) ;", "vars ; emit !((1+1)*(1+1)<1+1) ;",
	} {
		want, bad := readByForms(s)
		if bad != -1 {
			t.Fatalf("%q is not valid", s)
		}
		wantSourcesOfProgram(t, s, want)
	}
}

func TestProgramsThatEndTooEarly(t *testing.T) {
	for length := range 401 {
		wantNoProgram(t, strings.Repeat(" ", length), length)
		wantNoProgram(t, strings.Repeat("\n ", length)[:length], length)
	}
	for _, start := range []string{
		"vars", "vars x", "vars x y", "vars x y z", "vars x x", "vars x ; x", "vars x ; x :=", "vars x ; x := 1", "vars x ; x := x +", "vars x ; x := ( x", "vars x ; x := !", "vars x ; y := 1",
		"vars x ; emit", "vars x ; emit 1", "vars x ; emit ( 1", "vars x ; emit ( 1 )", "vars x ; emit 1 <", "vars x ; emit 1 ; emit", "vars ; emit !!!!!1",
		"vars x ; while", "vars x ; while x", "vars x ; while ( x", "vars x ; while x {", "vars x ; while x { emit 1 ;", "vars x ; while x { x", "vars x ; while x { while x { }", "vars x ; while x { while x {",
		"vars x ; if", "vars x ; if x", "vars x ; if x {", "vars x ; if x { emit 1 ;", "vars x ; if x { } else", "vars x ; if x { } else {", "vars x ; if x { } else { emit 1 ;", "vars x ; if x { if x { } else { }", "vars x ; if x { } else { if x { }",
	} {
		for length := range 8 {
			wantNoProgram(t, start+strings.Repeat(" \n", length)[:length], len(start)+length)
		}
		wantWrong(t, start+"@")
	}
	for _, p := range ordinaryPrograms() {
		whole := sourceOf(p)
		for length := range len(whole) + 1 {
			if _, bad := impl.ParseProgram(whole[:length]); bad != -1 && bad != 0 && bad != length && !strings.HasSuffix(whole[:length], ":") {
				t.Errorf("ParseProgram(%q) reports an error at %d", whole[:length], bad)
			}
			wantProgramByForms(t, whole[:length])
		}
	}
}

func TestErrorsOfTokensInProgramsCountFirst(t *testing.T) {
	for s, at := range map[string]int{
		"; 4": 2, "vars x ; ; =": 11, "x := 12": 5, "vars a ; abcdefghi := 1 ;": 9, "vars ; emit 1 < 1 < 1 ; X": 24, "} \t": 2, "vars x ; y := 1 ; \xff": 18, "vars x x ; :": 11, "vars x ; emit : = 1 ;": 14,
		"4 vars": 0, "vars 4": 5, "vars x ; x = 1 ;": 11, "vars x ; x := 4 ;": 14, "vars X ;": 5, "vars x, y ;": 6, "vars ; emit !!!!!!1 ; 00": 22, "vars x ; x :== 1 ;": 13, "vars x ; emit x <= 1 ;": 17, "vars x ; // 4": 12,
	} {
		wantNoProgram(t, s, at)
		wantProgramByForms(t, s)
	}
}

func TestLengthsOfPrograms(t *testing.T) {
	p := prog("x", assign("x", con(1)))
	for length := 395; length <= 405; length++ {
		spaces := strings.Repeat(" ", length)
		sources := []string{"vars x ; x := 1 ;" + spaces[17:], spaces[17:] + "vars x ; x := 1 ;", "vars x ;" + spaces[16:] + "x := 1 ;", "vars x ; x :=" + strings.Repeat("\n", length-16) + "1 ;"}
		if length > 400 {
			for _, s := range append(sources, "vars x ; y := 1 ;"+spaces[17:], "vars x ; emit 1"+spaces[15:], "vars x ; emit 1"+spaces[16:]+"}", "}"+spaces[1:]) {
				wantNoProgram(t, s, 400)
			}
			continue
		}
		for _, s := range sources {
			wantReadProgram(t, s, p, -1)
		}
		wantNoProgram(t, "vars x ; y := 1 ;"+spaces[17:], 0)
		wantNoProgram(t, "vars x ; emit 1"+spaces[15:], length)
		wantNoProgram(t, "vars x ; emit 1"+spaces[16:]+"}", length-1)
		wantNoProgram(t, "vars x ;"+spaces[9:]+"}", length-1)
	}
	wantNoProgram(t, strings.Repeat("vars ;", 100000), 400)
	wantNoProgram(t, "vars ;"+strings.Repeat("if 1 {", 100000), 400)
}

func TestNumbersOfTokensOfPrograms(t *testing.T) {
	for s, at := range map[string]int{
		"vars" + strings.Repeat(" x", 148) + ";":                              0,
		"vars" + strings.Repeat(" x", 149) + ";":                              302,
		"vars" + strings.Repeat(" x", 149):                                    302,
		"vars" + strings.Repeat(" x", 150):                                    303,
		"vars;" + strings.Repeat("if 1{", 49):                                 250,
		"vars;" + strings.Repeat("while 1{", 49):                              397,
		"vars;" + strings.Repeat("if x{", 49) + "}":                           251,
		"vars;" + strings.Repeat("if x{", 49) + "}}":                          251,
		"vars;" + strings.Repeat("if x{", 37) + strings.Repeat("}", 37):       0,
		"vars;" + strings.Repeat("if x{", 36) + strings.Repeat("}", 37):       221,
		"vars;" + strings.Repeat("if x{}else{", 24) + strings.Repeat("}", 4):  273,
		"vars;" + strings.Repeat("if x{}else{", 20) + strings.Repeat("}", 20): 0,
		"vars;" + strings.Repeat("if x{", 49) + ";":                           250,
		"vars;emit" + strings.Repeat("(", 147):                                156,
		"vars;emit" + strings.Repeat("(", 148):                                156,
		"vars;emit" + strings.Repeat("!", 145) + "1;":                         0,
		"vars;" + strings.Repeat("emit 1;", 49):                               0,
		"vars;" + strings.Repeat("emit 1;", 49) + "}":                         348,
		"vars;" + strings.Repeat("emit 1;", 49) + "emit":                      352,
		"vars;" + strings.Repeat("emit 1;", 49) + "emit 1":                    353,
		"vars x;" + strings.Repeat("x:=1;", 36) + "x:=":                       190,
		"vars x;" + strings.Repeat("x:=1;", 36) + "x:=1":                      191,
		"vars x;" + strings.Repeat("x:=1;", 36) + "}":                         187,
	} {
		wantNoProgram(t, s, at)
	}
	// As many tokens as possible.
	deep := func(e string, pairs int) string {
		return strings.Repeat("(", pairs) + e + strings.Repeat(")", pairs)
	}
	one := con(1)
	wantReadProgram(t, "vars;emit "+deep("1", 72)+";", prog("", emit(one)), -1)
	wantReadProgram(t, "vars;emit !"+deep("1", 72)+";", prog("", emit(not(one))), -1)
	wantNoProgram(t, "vars;emit !!"+deep("1", 72)+";", 157)
	wantReadProgram(t, "vars x;x:="+deep("1", 71)+";", prog("x", assign("x", one)), -1)
	wantReadProgram(t, "vars;while "+deep("1", 35)+"{if "+deep("1", 33)+"{}}", prog("", while(one, when(one, nil, nil))), -1)
	wantReadProgram(t, "vars;if "+deep("1", 34)+"{}else{emit "+deep("1", 33)+";}", prog("", when(one, nil, block(emit(one)))), -1)
}

func TestSourcesOfPrograms(t *testing.T) {
	for _, p := range ordinaryPrograms() {
		wantSourcesOfProgram(t, sourceOf(p), p)
		wantProgramByForms(t, sourceOf(p))
	}
	for number := range 6 {
		for _, list := range shapes(number) {
			p := prog("x", list...)
			if depthByText(list) <= 3 {
				wantReadProgram(t, sourceOf(p), p, -1)
			} else {
				wantNoProgram(t, sourceOf(p), 0)
			}
		}
	}
	for _, e := range ordinaryExprs() {
		names := impl.VarsOfExpr(e)
		if len(names) > 2 {
			continue
		}
		for _, p := range inEveryPlace(emit(e)) {
			p.Vars = names
			if isValidByText(p) {
				wantSourcesOfProgram(t, sourceOf(p), p)
			}
		}
	}
	random := rand.New(rand.NewPCG(9, 1))
	number := 0
	for range 4000 {
		p := prog([]string{"", "x", "y", "x y", "y x", "abcdefgh x1"}[random.IntN(6)])
		p.Body = randomStmts(random, p.Vars, 1+random.IntN(8), 1+random.IntN(3))
		s := sourceOf(p)
		if list, bad := impl.Tokenize(s); bad >= 0 {
			wantNoProgram(t, s, bad)
		} else {
			wantSourcesOfProgram(t, s, p)
			number += len(list)
		}
	}
	if number < 50000 {
		t.Errorf("%d tokens were read", number)
	}
}

// oneOfEachForm has a token of each form, from which all beginnings of programs can be built.
var oneOfEachForm = []string{"vars", "if", "else", "while", "emit", "post", "x", "1", "(", ")", "{", "}", ";", "+", "<", "&", "!", ":="}

func TestAllBeginningsOfPrograms(t *testing.T) {
	// Nothing behind a token that is not permitted matters.
	var goOn func(texts, tokens []string, number int)
	goOn = func(texts, tokens []string, number int) {
		wantProgramByForms(t, strings.Join(texts, " "))
		if number == 0 || !isBeginning(formOf(texts)) {
			return
		}
		for _, text := range tokens {
			goOn(append(texts[:len(texts):len(texts)], text), tokens, number-1)
		}
	}
	goOn(nil, oneOfEachForm, 7)
	for _, start := range []string{"vars x ;", "vars x ; x := 1 ; x", "vars x ; while 1 {", "vars x ; if x", "vars x ; if 1 { } else", "vars x ; if 1 { if x { }", "vars x ; emit ( x"} {
		goOn(strings.Fields(start), oneOfEachForm, 5)
	}
	goOn(strings.Fields("vars x ;"), []string{"if", "x", "{", "}", "else", "+"}, 9)
	goOn(strings.Fields("vars x ;"), []string{"while", "x", "{", "}", ";", "else"}, 9)
	goOn(strings.Fields("vars x ;"), []string{"x", ":=", ";", "<", "emit"}, 8)
	goOn(strings.Fields("vars x ; while"), []string{"x", "(", ")", "{", "}"}, 8)
}

func TestAllShortSourcesOfPrograms(t *testing.T) {
	for _, s := range stringsOver("x1;{}:= ", 4) {
		for _, start := range []string{"vars", "vars x;", "vars x;x", "vars x;x:=x", "vars x;if x{}"} {
			wantProgramByForms(t, start+s)
		}
	}
	for b := range 256 {
		for _, s := range []string{"", "vars", "vars ", "vars x", "vars x;", "vars x;x", "vars x;x:", "vars x;x:=", "vars x;x:=1", "vars x;emit", "vars x;emit ", "vars x;if x", "vars x;while x{", "vars x;if x{}", "vars x;if x{}else", "vars x;if x{}else{}"} {
			wantProgramByForms(t, s+string([]byte{byte(b)}))
			wantProgramByForms(t, s+string([]byte{byte(b)})+";}")
		}
	}
}

func TestProgramsWithOneOtherToken(t *testing.T) {
	tokens := append(slices.Clone(oneOfEachForm), "y", "z", "0")
	for _, p := range ordinaryPrograms() {
		texts := strings.Fields(strings.NewReplacer("(", "( ", ")", " )", "!", "! ").Replace(sourceOf(p)))
		for at := range len(texts) + 1 {
			if at < len(texts) {
				wantProgramByForms(t, strings.Join(slices.Delete(slices.Clone(texts), at, at+1), " "))
				wantProgramByForms(t, strings.Join(slices.Insert(slices.Clone(texts), at, texts[at]), " "))
			}
			for _, text := range tokens {
				wantProgramByForms(t, strings.Join(slices.Insert(slices.Clone(texts), at, text), " "))
				if at < len(texts) {
					wantProgramByForms(t, strings.Join(slices.Replace(slices.Clone(texts), at, at+1, text), "\n"))
				}
			}
		}
	}
}

// randomBlock returns the tokens of at most the given number of statements and levels, which need not be valid.
func randomBlock(random *rand.Rand, number, depth int) []string {
	var texts []string
	for range random.IntN(number + 1) {
		e := randomTexts(random, random.IntN(4))
		switch kind := random.IntN(4); {
		case depth > 1 && kind == 0:
			texts = slices.Concat(texts, []string{"while"}, e, []string{"{"}, randomBlock(random, number-1, depth-1), []string{"}"})
		case depth > 1 && kind == 1:
			texts = slices.Concat(texts, []string{"if"}, e, []string{"{"}, randomBlock(random, number-1, depth-1), []string{"}"})
			if random.IntN(2) == 0 {
				texts = slices.Concat(texts, []string{"else", "{"}, randomBlock(random, number-1, depth-1), []string{"}"})
			}
		case kind == 2:
			texts = slices.Concat(texts, []string{"emit"}, e, []string{";"})
		default:
			texts = slices.Concat(texts, []string{[]string{"x", "y", "x1"}[random.IntN(3)], ":="}, e, []string{";"})
		}
	}
	return texts
}

func TestRandomSourcesOfPrograms(t *testing.T) {
	random := rand.New(rand.NewPCG(9, 2))
	others := append(append(slices.Clone(allSymbols), reserved...), "x", "y", "1", "=", "4", "abcdefghi", "X")
	var found outcomes
	for range 20000 {
		vars := []string{"", "x", "x y", "x y", "x1 y", "x abcdefgh", "x x", "y x x1"}[random.IntN(8)]
		texts := slices.Concat([]string{"vars"}, strings.Fields(vars), []string{";"}, randomBlock(random, 1+random.IntN(4), 1+random.IntN(4)))
		at := random.IntN(len(texts))
		switch random.IntN(8) {
		case 0:
			texts = texts[:at]
		case 1:
			texts = slices.Delete(texts, at, at+1)
		case 2:
			texts = slices.Insert(texts, at, others[random.IntN(len(others))])
		case 3:
			other := random.IntN(len(texts))
			texts[at], texts[other] = texts[other], texts[at]
		}
		s := spacedAtRandom(random, texts)
		wantProgramByForms(t, s)
		_, bad := impl.ParseProgram(s)
		found.count(s, bad)
	}
	found.wantEach(t, 1000)
}

// partsOf returns pointers to all elements of the lists of a program, also to those behind their ends.
func partsOf(list []impl.Stmt) ([]*impl.Stmt, []*impl.Expr) {
	var stmts []*impl.Stmt
	var exprs []*impl.Expr
	whole := list[:cap(list)]
	for i := range whole {
		inBody, ofBody := partsOf(whole[i].Body)
		inElse, ofElse := partsOf(whole[i].Else)
		stmts = append(slices.Concat(stmts, inBody, inElse), &whole[i])
		exprs = slices.Concat(exprs, elementsOf(whole[i].Expr), ofBody, ofElse)
	}
	return stmts, exprs
}

func TestParsedProgramsShareNothing(t *testing.T) {
	for _, p := range ordinaryPrograms() {
		s := sourceOf(p)
		first, _ := impl.ParseProgram(s)
		second, _ := impl.ParseProgram(s)
		seen := map[any]bool{}
		for _, result := range []impl.Program{first, second} {
			stmts, exprs := partsOf(result.Body)
			for _, part := range stmts {
				if seen[part] {
					t.Errorf("lists of statements of results of ParseProgram(%q) share memory", s)
				}
				seen[part] = true
			}
			for _, part := range exprs {
				if seen[part] {
					t.Errorf("lists of expressions of results of ParseProgram(%q) share memory", s)
				}
				seen[part] = true
			}
		}
		stmts, exprs := partsOf(first.Body)
		for _, part := range exprs {
			*part = impl.Expr{Kind: -7, Name: "changed"}
		}
		for _, part := range stmts {
			*part = impl.Stmt{Kind: -7, Name: "changed"}
		}
		for i := range first.Vars[:cap(first.Vars)] {
			first.Vars[:cap(first.Vars)][i] = "changed"
		}
		if !sameProgram(second, p) {
			t.Errorf("a change of one result of ParseProgram(%q) changed another one to %v", s, second)
		}
		wantReadProgram(t, s, p, -1)
	}
	// The same bytes with another content are another string.
	bytes := []byte("vars x; emit x;")
	first, _ := impl.ParseProgram(string(bytes))
	copy(bytes, "vars y; y := 1;")
	second, _ := impl.ParseProgram(string(bytes))
	if !sameProgram(first, prog("x", emit(ref("x")))) || !sameProgram(second, prog("y", assign("y", con(1)))) {
		t.Errorf("the programs are %v and %v", first, second)
	}
}

func TestProgramParserKeepsNothing(t *testing.T) {
	for range 3 {
		wantNoProgram(t, "vars x; while x { x := 1", 24)
		wantReadProgram(t, "vars x; while x { x := 1; }", prog("x", while(ref("x"), assign("x", con(1)))), -1)
		wantNoProgram(t, "vars x; if x { } }", 17)
		wantReadProgram(t, "vars;", impl.Program{}, -1)
		wantNoProgram(t, "vars x; else", 8)
		wantNoProgram(t, "vars x; y := 1;", 0)
		wantReadProgram(t, "vars y; y := 1;", prog("y", assign("y", con(1))), -1)
		wantNoProgram(t, "", 0)
		wantNoProgram(t, strings.Repeat(" ", 401), 400)
		wantExpr(t, "x", ref("x"))
		wantNoProgram(t, "x", 0)
	}
}
