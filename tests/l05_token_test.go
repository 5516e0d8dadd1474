package tests

import (
	"fmt"
	"math"
	"math/rand/v2"
	"regexp"
	"slices"
	"strings"
	"testing"

	"loop.example/g00514/impl"
)

var allSymbols = []string{"(", ")", "{", "}", ";", "+", "-", "*", "/", "<", "&", "|", "!", "==", ":="}

func nameAt(at int, text string) impl.Token {
	return impl.Token{Kind: impl.TokenName, At: at, Text: text}
}

func numberAt(at int, n int) impl.Token {
	return impl.Token{Kind: impl.TokenNumber, At: at, N: n}
}

func symbolAt(at int, text string) impl.Token {
	return impl.Token{Kind: impl.TokenSymbol, At: at, Text: text}
}

// wantTokens takes the tokens of a string without an error.
func wantTokens(t *testing.T, s string, want ...impl.Token) {
	t.Helper()
	if list, bad := impl.Tokenize(s); bad != -1 || !slices.Equal(list, want) {
		t.Errorf("Tokenize(%q) = %v, %d; want %v", s, list, bad, want)
	}
}

// wantErrorAt takes the offset of an error.
func wantErrorAt(t *testing.T, s string, want int) {
	t.Helper()
	if list, bad := impl.Tokenize(s); bad != want || len(list) != 0 {
		t.Errorf("Tokenize(%.450q) = %v, %d; want the error at %d", s, list, bad, want)
	}
}

// Parts of strings as they extend as far as possible; what matches none of them starts no token.
var (
	separatorsPart = regexp.MustCompile(`^[ \n]+`)
	namePart       = regexp.MustCompile(`^[a-z][a-z0-9]*`)
	digitsPart     = regexp.MustCompile(`^[0-9]+`)
	symbolPart     = regexp.MustCompile(`^(==|:=|[(){};+*/<&|!-])`)
)

// tokensByParts reads a string by the patterns above, and counts the tokens only at the end.
func tokensByParts(s string) ([]impl.Token, int) {
	if len(s) > 400 {
		return nil, 400
	}
	var list []impl.Token
	bad := -1
	for at := 0; at < len(s) && bad < 0; {
		rest := s[at:]
		length := 1
		if part := separatorsPart.FindString(rest); part != "" {
			length = len(part)
		} else if part := namePart.FindString(rest); part != "" && len(part) <= 8 {
			list = append(list, nameAt(at, part))
			length = len(part)
		} else if part := digitsPart.FindString(rest); len(part) == 1 && part < "4" {
			list = append(list, numberAt(at, strings.Index("0123", part)))
		} else if part := symbolPart.FindString(rest); part != "" {
			list = append(list, symbolAt(at, part))
			length = len(part)
		} else {
			bad = at
		}
		at += length
	}
	if len(list) > 150 {
		return nil, list[150].At
	}
	if bad >= 0 {
		return nil, bad
	}
	return list, -1
}

// wantTokensByParts compares with tokensByParts, and reads the formatted list again.
func wantTokensByParts(t *testing.T, s string) {
	t.Helper()
	list, bad := impl.Tokenize(s)
	want, wantBad := tokensByParts(s)
	if bad != wantBad || !slices.Equal(list, want) {
		t.Fatalf("Tokenize(%.450q) = %v, %d; want %v, %d", s, list, bad, want, wantBad)
	}
	if bad < -1 || bad > len(s) || bad >= 0 && len(list) > 0 {
		t.Fatalf("Tokenize(%.450q) = %v, %d", s, list, bad)
	}
	if bad == -1 {
		wantSameTokens(t, list)
	}
}

// wantSameTokens takes tokens that Tokenize returned.
func wantSameTokens(t *testing.T, list []impl.Token) {
	t.Helper()
	text := impl.FormatTokens(list)
	again, bad := impl.Tokenize(text)
	if len(text) > impl.MaxText {
		if bad != impl.MaxText || len(again) != 0 {
			t.Fatalf("Tokenize of the %d bytes of FormatTokens(%v) = %v, %d", len(text), list, again, bad)
		}
		return
	}
	if bad != -1 || len(again) != len(list) {
		t.Fatalf("Tokenize(%q) = %v, %d; want the tokens %v", text, again, bad, list)
	}
	at := 0
	for i, token := range again {
		if token.At != at {
			t.Fatalf("token %d of %q is at %d; want %d", i, text, token.At, at)
		}
		at += len(writtenOut(token)) + 1
		token.At = list[i].At
		if token != list[i] {
			t.Fatalf("token %d of %q is %v; want %v", i, text, token, list[i])
		}
	}
}

// writtenOut is the source code of a token that Tokenize returned.
func writtenOut(token impl.Token) string {
	if token.Kind == impl.TokenNumber {
		return [...]string{"0", "1", "2", "3"}[token.N]
	}
	return token.Text
}

func TestConstantsOfTokens(t *testing.T) {
	if impl.MaxText != 400 || impl.MaxTokens != 150 {
		t.Errorf("the limits are %d and %d", impl.MaxText, impl.MaxTokens)
	}
	if kinds := []int{impl.TokenName, impl.TokenNumber, impl.TokenSymbol}; !slices.Equal(kinds, []int{1, 2, 3}) {
		t.Errorf("the kinds have the numbers %v", kinds)
	}
}

func TestTokens(t *testing.T) {
	wantTokens(t, "x1:=3==y;\n!", nameAt(0, "x1"), symbolAt(2, ":="), numberAt(4, 3), symbolAt(5, "=="), nameAt(7, "y"), symbolAt(8, ";"), symbolAt(10, "!"))
	wantTokens(t, "vars x ; while x < 3 { x := x + 1 ; } emit x ;",
		nameAt(0, "vars"), nameAt(5, "x"), symbolAt(7, ";"), nameAt(9, "while"), nameAt(15, "x"), symbolAt(17, "<"), numberAt(19, 3), symbolAt(21, "{"),
		nameAt(23, "x"), symbolAt(25, ":="), nameAt(28, "x"), symbolAt(30, "+"), numberAt(32, 1), symbolAt(34, ";"), symbolAt(36, "}"),
		nameAt(38, "emit"), nameAt(43, "x"), symbolAt(45, ";"))
	wantTokens(t, "!(x==1)&y-(x-1)<2",
		symbolAt(0, "!"), symbolAt(1, "("), nameAt(2, "x"), symbolAt(3, "=="), numberAt(5, 1), symbolAt(6, ")"), symbolAt(7, "&"), nameAt(8, "y"),
		symbolAt(9, "-"), symbolAt(10, "("), nameAt(11, "x"), symbolAt(12, "-"), numberAt(13, 1), symbolAt(14, ")"), symbolAt(15, "<"), numberAt(16, 2))
	wantTokens(t, "if x|y{}else{emit 0/x*2;}",
		nameAt(0, "if"), nameAt(3, "x"), symbolAt(4, "|"), nameAt(5, "y"), symbolAt(6, "{"), symbolAt(7, "}"), nameAt(8, "else"), symbolAt(12, "{"),
		nameAt(13, "emit"), numberAt(18, 0), symbolAt(19, "/"), nameAt(20, "x"), symbolAt(21, "*"), numberAt(22, 2), symbolAt(23, ";"), symbolAt(24, "}"))
}

func TestSeparators(t *testing.T) {
	for length := range 401 {
		wantTokens(t, strings.Repeat(" ", length))
		wantTokens(t, strings.Repeat("\n", length))
		wantTokens(t, strings.Repeat(" \n", length)[:length])
	}
	wantTokens(t, "x y", nameAt(0, "x"), nameAt(2, "y"))
	wantTokens(t, "x\ny", nameAt(0, "x"), nameAt(2, "y"))
	wantTokens(t, "xy", nameAt(0, "xy"))
	wantTokens(t, "\n\n x \n  y \n", nameAt(3, "x"), nameAt(8, "y"))
	wantTokens(t, "1 2\n3", numberAt(0, 1), numberAt(2, 2), numberAt(4, 3))
	wantTokens(t, "x 1", nameAt(0, "x"), numberAt(2, 1))
	wantErrorAt(t, "= =", 0)
	wantErrorAt(t, ": =", 0)
	wantErrorAt(t, ":\n=", 0)
	wantTokens(t, "== :=", symbolAt(0, "=="), symbolAt(3, ":="))
	wantTokens(t, strings.Repeat(" ", 399)+"x", nameAt(399, "x"))
	wantTokens(t, "x"+strings.Repeat("\n", 399), nameAt(0, "x"))
}

func TestNamesAsTokens(t *testing.T) {
	for length := 1; length <= 390; length++ {
		for _, s := range []string{strings.Repeat("x", length), strings.Repeat("x0", length)[:length], "z" + strings.Repeat("9", length-1)} {
			if length <= impl.MaxName {
				wantTokens(t, s, nameAt(0, s))
				wantTokens(t, " "+s+";"+s, nameAt(1, s), symbolAt(1+length, ";"), nameAt(2+length, s))
				continue
			}
			wantErrorAt(t, s, 0)
			wantErrorAt(t, "\nx :="+s, 5)
			wantErrorAt(t, s+" =", 0)
		}
	}
	for _, s := range append(slices.Clone(reserved), "skip", "x1", "x00", "a1b2c3d4", "abcdefgh", "z9999999") {
		wantTokens(t, s, nameAt(0, s))
		wantTokens(t, "("+s+")", symbolAt(0, "("), nameAt(1, s), symbolAt(1+len(s), ")"))
	}
	wantErrorAt(t, "abcdefghi", 0)
	wantErrorAt(t, "x abcdefgh1 y", 2)
	wantTokens(t, "1abcdefgh", numberAt(0, 1), nameAt(1, "abcdefgh"))
	wantErrorAt(t, "1abcdefghi", 1)
	wantErrorAt(t, "abcdefghI", 8)
	wantErrorAt(t, "abcdefgh_", 8)
	wantErrorAt(t, "X", 0)
	wantErrorAt(t, "Xy", 0)
	wantErrorAt(t, "xY", 1)
	wantErrorAt(t, "_x", 0)
	wantErrorAt(t, "x_", 1)
	wantErrorAt(t, "x _", 2)
	wantErrorAt(t, "vars X;", 5)
}

func TestNumbersAsTokens(t *testing.T) {
	for n := range 10 {
		digit := string([]byte{byte('0' + n)})
		if n >= impl.Modulus {
			for _, s := range []string{digit, digit + " ", digit + "x", digit + ";", digit + "0", digit + digit, digit + "="} {
				wantErrorAt(t, s, 0)
				wantErrorAt(t, "x:="+s, 3)
			}
		} else {
			wantTokens(t, digit, numberAt(0, n))
			wantTokens(t, digit+"x", numberAt(0, n), nameAt(1, "x"))
			wantTokens(t, digit+"x"+digit, numberAt(0, n), nameAt(1, "x"+digit))
			wantTokens(t, "<"+digit+"\n;"+digit, symbolAt(0, "<"), numberAt(1, n), symbolAt(3, ";"), numberAt(4, n))
			wantErrorAt(t, digit+"X", 1)
			wantErrorAt(t, digit+"_", 1)
			wantErrorAt(t, digit+".", 1)
		}
		wantTokens(t, "x"+digit, nameAt(0, "x"+digit))
		wantTokens(t, "x"+digit+digit, nameAt(0, "x"+digit+digit))
	}
	for n := range 1200 {
		for _, s := range []string{fmt.Sprintf("%02d", n), fmt.Sprintf("%03d", n), fmt.Sprintf("%07d", n)} {
			wantErrorAt(t, s, 0)
			wantErrorAt(t, "x < "+s+" ;", 4)
			wantErrorAt(t, s+"x", 0)
		}
	}
	wantErrorAt(t, strings.Repeat("0", 400), 0)
	wantErrorAt(t, strings.Repeat("1", 20), 0)
	wantErrorAt(t, "-12", 1)
	wantErrorAt(t, "1-12", 2)
	wantTokens(t, "-1", symbolAt(0, "-"), numberAt(1, 1))
	wantTokens(t, "0 0", numberAt(0, 0), numberAt(2, 0))
	wantErrorAt(t, "0 00", 2)
	wantErrorAt(t, "3 4", 2)
}

func TestSymbols(t *testing.T) {
	for _, s := range allSymbols {
		wantTokens(t, s, symbolAt(0, s))
		wantTokens(t, " "+s+"\n", symbolAt(1, s))
		wantTokens(t, "x"+s+"1", nameAt(0, "x"), symbolAt(1, s), numberAt(1+len(s), 1))
		wantTokens(t, "1"+s+"x", numberAt(0, 1), symbolAt(1, s), nameAt(1+len(s), "x"))
		wantErrorAt(t, s+"=", len(s))
		wantErrorAt(t, s+":", len(s))
		wantErrorAt(t, s+"= ", len(s))
		wantErrorAt(t, s+" =", len(s)+1)
		for _, other := range allSymbols {
			wantTokens(t, s+other, symbolAt(0, s), symbolAt(len(s), other))
			wantTokens(t, s+other+s, symbolAt(0, s), symbolAt(len(s), other), symbolAt(len(s+other), s))
		}
	}
	all := strings.Join(allSymbols, "")
	var want []impl.Token
	for i, s := range allSymbols {
		want = append(want, symbolAt(min(i, 14)+max(0, i-13), s))
	}
	wantTokens(t, all, want...)
}

func TestEqualsAndColons(t *testing.T) {
	for s, at := range map[string]int{
		"=": 0, ":": 0, "x=": 1, "x:": 1, "x =": 2, "x :": 2, "x = y": 2, "x : y": 2, "x=y": 1, "x:y": 1, "x = =": 2, "x : =": 2,
		"===": 2, "==:": 2, "=:": 0, "=:=": 0, "::": 0, "::=": 0, ":::=": 0, ":=:": 2, ":==": 2, "=====": 4, ":====": 4, "==:====": 6,
		"<=": 1, "x <= y": 3, "x >= y": 2, ">": 0, "!=": 1, "x != y": 3, "x =! y": 2, "x := = 1": 5, "&&=": 2,
	} {
		wantErrorAt(t, s, at)
	}
	wantTokens(t, "====", symbolAt(0, "=="), symbolAt(2, "=="))
	wantTokens(t, ":===", symbolAt(0, ":="), symbolAt(2, "=="))
	wantTokens(t, "==:=", symbolAt(0, "=="), symbolAt(2, ":="))
	wantTokens(t, ":=:=", symbolAt(0, ":="), symbolAt(2, ":="))
	wantTokens(t, "&&||", symbolAt(0, "&"), symbolAt(1, "&"), symbolAt(2, "|"), symbolAt(3, "|"))
}

func TestBytesThatStartNoToken(t *testing.T) {
	count := 0
	for b := range 256 {
		text := string([]byte{byte(b)})
		if b < 128 && strings.ContainsAny(text, "abcdefghijklmnopqrstuvwxyz0123456789(){};+-*/<&|! \n=:") {
			wantTokensByParts(t, text)
			continue
		}
		count++
		wantErrorAt(t, text, 0)
		wantErrorAt(t, " "+text, 1)
		wantErrorAt(t, "x"+text, 1)
		wantErrorAt(t, "1"+text+"1", 1)
		wantErrorAt(t, "=="+text, 2)
		wantErrorAt(t, text+"x", 0)
		wantErrorAt(t, ":"+text+"=", 0)
		wantErrorAt(t, text+text, 0)
		wantErrorAt(t, "emit x ;"+text+"abcdefghi", 8)
		wantErrorAt(t, strings.Repeat(" ", 399)+text, 399)
	}
	if count != 256-26-10-13-2-2 {
		t.Errorf("%d bytes start no token", count)
	}
	for _, s := range []string{"\t", "\r", "\r\n", "\v", "\x00", "\x80", "\xff", "\u00a0", "\u2028", "é", "х", "３", "＝", "=é"} {
		wantErrorAt(t, s, 0)
		wantErrorAt(t, "x\n"+s+" y", 2)
	}
}

func TestFirstErrorCounts(t *testing.T) {
	wrong := []string{"=", ":", "4", "12", "00", "abcdefghi", "X", "_", "\t", "\x00", "\xff"}
	for _, first := range wrong {
		for _, second := range wrong {
			wantErrorAt(t, "x "+first+" "+second, 2)
			wantErrorAt(t, "x "+first+" y "+second, 2)
			wantErrorAt(t, first+"\n"+second, 0)
		}
	}
}

func TestLengthsOfText(t *testing.T) {
	// No beginning of these has more than MaxTokens tokens or another error.
	for _, fill := range []string{" ", "\n", "abcdefgh ", "abcdefgh\n", "abcdefgh+", "(x1   ", "  1\n"} {
		for length := 390; length <= 400; length++ {
			s := strings.Repeat(fill, length)[:length]
			if list, bad := impl.Tokenize(s); bad != -1 || len(list) == 0 != (strings.TrimSpace(fill) == "") {
				t.Errorf("Tokenize(%q) has %d tokens and the offset %d", s, len(list), bad)
			}
			wantTokensByParts(t, s)
		}
		for _, length := range []int{401, 402, 403, 500, 1000, 4000, 100000} {
			wantErrorAt(t, strings.Repeat(fill, length)[:length], 400)
		}
	}
	for _, wrong := range []string{"=", "4", "12", "abcdefghi", "X", "\x00", "\xff"} {
		for _, length := range []int{399, 400, 401, 402} {
			spaces := strings.Repeat(" ", length-len(wrong))
			bad := []int{0, len(spaces), 5}
			if length > 400 {
				bad = []int{400, 400, 400}
			}
			wantErrorAt(t, wrong+spaces, bad[0])
			wantErrorAt(t, spaces+wrong, bad[1])
			wantErrorAt(t, spaces[:5]+wrong+spaces[5:], bad[2])
		}
	}
	// A text is not cut off at MaxText.
	for _, s := range []string{"=", "x", "0", ";"} {
		wantErrorAt(t, strings.Repeat(" ", 400)+s, 400)
		wantErrorAt(t, strings.Repeat(" ", 399)+s+s, 400)
	}
	wantTokens(t, strings.Repeat(" ", 398)+"==", symbolAt(398, "=="))
	wantTokens(t, strings.Repeat(" ", 392)+"abcdefgh", nameAt(392, "abcdefgh"))
	wantErrorAt(t, strings.Repeat(" ", 399)+"==", 400)
	wantErrorAt(t, strings.Repeat(";", 401), 400)
	wantErrorAt(t, strings.Repeat("x", 401), 400)
}

func TestNumbersOfTokens(t *testing.T) {
	for _, number := range []int{0, 1, 2, 148, 149, 150} {
		for _, text := range []string{";", "==", "x ", "0\n", "; ", "\n!"} {
			s := strings.Repeat(text, number)
			list, bad := impl.Tokenize(s)
			if len(list) != number || bad != -1 {
				t.Errorf("Tokenize(%q) has %d tokens and the offset %d", s, len(list), bad)
			}
			for i, token := range list {
				if token.At != i*len(text)+strings.Index(text, strings.TrimSpace(text)) {
					t.Errorf("token %d of %q is %v", i, s, token)
				}
			}
			wantTokensByParts(t, s+" \n ")
		}
	}
	full := strings.Repeat(";", 150)
	for _, more := range []string{"x", "3", "!", "==", ":=", "if", ";;", "; x = 4", "x\x00", "=", ":", "4", "12", "abcdefghi", "X", "\t", "\xff", ":x"} {
		wantErrorAt(t, full+more, 150)
		wantErrorAt(t, full+" \n"+more, 152)
		wantErrorAt(t, strings.Repeat("x ", 150)+more, 300)
		wantErrorAt(t, full+"   ;"+more, 153)
	}
	for _, number := range []int{151, 152, 200, 300, 399, 400} {
		wantErrorAt(t, strings.Repeat("(", number), 150)
	}
	wantErrorAt(t, strings.Repeat("==", 200), 300)
	// Another error before that token, however many tokens follow; and one directly before it, or at it.
	for _, wrong := range []string{"=", "4", "12", "abcdefghi", "X", "\t", "\xff"} {
		for _, before := range []int{0, 1, 75, 149, 150, 151, 152} {
			s := strings.Repeat("-", before) + " " + wrong + " " + strings.Repeat("-", 200)
			want := before + 1
			if before > 150 {
				want = 150
			}
			wantErrorAt(t, s, want)
		}
	}
	// Separators are not counted.
	wantTokens(t, strings.Repeat(" \n", 199)+"x", nameAt(398, "x"))
}

func TestTokensOfAllShortStrings(t *testing.T) {
	for _, s := range stringsOver("x1=: ", 6) {
		wantTokensByParts(t, s)
	}
	for _, s := range stringsOver("az049:=<!; \nX\x00\xff", 4) {
		wantTokensByParts(t, s)
	}
	var all []byte
	for b := range 256 {
		all = append(all, byte(b))
	}
	for _, s := range stringsOver(string(all), 2) {
		wantTokensByParts(t, s)
		wantTokensByParts(t, "y"+s)
	}
}

func TestTokensOfLongStrings(t *testing.T) {
	random := rand.New(rand.NewPCG(5, 1))
	parts := append(slices.Clone(allSymbols), "x", "abcdefgh", "x1", "while", "0", "1", "2", "3", " ", " ", " ", " ", "\n")
	wrong := []string{"=", ":", "4", "10", "abcdefghi", "X", "\t", "\xff"}
	accepted, rejected := 0, 0
	for range 20000 {
		var s strings.Builder
		number := random.IntN(260)
		for range number {
			s.WriteString(parts[random.IntN(len(parts))])
			if random.IntN(3) > 0 {
				s.WriteByte(' ')
			}
			if random.IntN(300) == 0 {
				s.WriteString(wrong[random.IntN(len(wrong))])
			}
		}
		wantTokensByParts(t, s.String())
		if _, bad := impl.Tokenize(s.String()); bad == -1 {
			accepted++
		} else {
			rejected++
		}
	}
	if accepted < 1000 || rejected < 1000 {
		t.Errorf("%d strings were accepted and %d were rejected", accepted, rejected)
	}
}

func TestFormatTokens(t *testing.T) {
	cases := []struct {
		list []impl.Token
		want string
	}{
		{nil, ""},
		{[]impl.Token{}, ""},
		{[]impl.Token{{}}, ""},
		{[]impl.Token{{}, {}}, " "},
		{[]impl.Token{{}, {}, {}}, "  "},
		{[]impl.Token{nameAt(0, "x")}, "x"},
		{[]impl.Token{numberAt(0, 3)}, "3"},
		{[]impl.Token{numberAt(0, 0)}, "0"},
		{[]impl.Token{symbolAt(0, ":=")}, ":="},
		{[]impl.Token{nameAt(0, "x1"), symbolAt(0, ":="), numberAt(0, 3), symbolAt(0, "=="), nameAt(0, "y"), symbolAt(0, ";"), symbolAt(0, "!")}, "x1 := 3 == y ; !"},
		{[]impl.Token{nameAt(9, "y"), nameAt(0, "x"), nameAt(-5, "x")}, "y x x"},
		{[]impl.Token{nameAt(0, ""), symbolAt(0, ""), numberAt(0, 1)}, "  1"},
		{[]impl.Token{nameAt(0, "not a name"), symbolAt(0, "\x00\xff\n"), nameAt(0, " ")}, "not a name \x00\xff\n  "},
		{[]impl.Token{nameAt(0, "x"), {}, nameAt(0, "y")}, "x  y"},
		{[]impl.Token{{}, nameAt(0, "x"), {}}, " x "},
		// Other fields are of no matter.
		{[]impl.Token{{Kind: impl.TokenName, N: 7, At: -9, Text: "x"}, {Kind: impl.TokenSymbol, N: -1, At: 400, Text: "!"}}, "x !"},
		{[]impl.Token{{Kind: impl.TokenNumber, N: 2, At: 31, Text: "x"}, {Kind: impl.TokenNumber, Text: "9"}}, "2 0"},
		{[]impl.Token{{Kind: impl.TokenName, N: 5}, {Kind: impl.TokenSymbol, N: 5}}, " "},
	}
	for _, c := range cases {
		if got := impl.FormatTokens(c.list); got != c.want {
			t.Errorf("FormatTokens(%v) = %q; want %q", c.list, got, c.want)
		}
	}
	for _, n := range manyIntegers() {
		if got := impl.FormatTokens([]impl.Token{{Kind: impl.TokenNumber, N: n, Text: "x"}, nameAt(0, "x")}); got != fmt.Sprint(n)+" x" {
			t.Errorf("FormatTokens of the number %d is %q", n, got)
		}
		if n >= 1 && n <= 3 {
			continue
		}
		other := impl.Token{Kind: n, N: n, At: n, Text: "x"}
		if got := impl.FormatTokens([]impl.Token{other}); got != "" {
			t.Errorf("FormatTokens of a token of kind %d is %q", n, got)
		}
		if got := impl.FormatTokens([]impl.Token{numberAt(0, 1), other, other, nameAt(0, "y")}); got != "1   y" {
			t.Errorf("FormatTokens with tokens of kind %d is %q", n, got)
		}
	}
	for _, kind := range []int{0, -1, 4, 5, math.MinInt, math.MaxInt, 1<<32 + 1, 1<<32 + 2, 1<<32 + 3, 257, 258, 259} {
		if got := impl.FormatTokens([]impl.Token{{Kind: kind, N: 1, Text: "x"}}); got != "" {
			t.Errorf("FormatTokens of a token of kind %d is %q", kind, got)
		}
	}
	if got := impl.FormatTokens(slices.Repeat([]impl.Token{symbolAt(0, "=="), numberAt(0, 1)}, 5000)); got != strings.Repeat(" == 1", 5000)[1:] {
		t.Errorf("FormatTokens of 10000 tokens has %d bytes", len(got))
	}
}

func TestTokensAreReadFromTheirFormattedList(t *testing.T) {
	// All neighbours, also ones that would be read as one token without a space.
	tokens := []impl.Token{nameAt(0, "x"), nameAt(0, "abcdefgh"), nameAt(0, "x1"), nameAt(0, "if")}
	for n := range 4 {
		tokens = append(tokens, numberAt(0, n))
	}
	for _, s := range allSymbols {
		tokens = append(tokens, symbolAt(0, s))
	}
	for _, first := range tokens {
		for _, second := range tokens {
			list := []impl.Token{first, second, first}
			list[1].At = len(writtenOut(first)) + 1
			list[2].At = list[1].At + len(writtenOut(second)) + 1
			wantTokens(t, impl.FormatTokens(list), list...)
		}
	}
	for _, c := range []struct {
		s    string
		size int
	}{
		{strings.Repeat("abcdefgh+", 36) + "abc", 399},
		{strings.Repeat("abcdefgh+", 36) + "abcd", 400},
		{strings.Repeat("abcdefgh+", 36) + "abcde", 401},
		{strings.Repeat("abcdefgh+", 36) + "abc+", 401},
		{strings.Repeat("abcdefgh+", 44), 483},
		{strings.Repeat("abcdefgh\n", 44) + "xyz1", 400},
		{strings.Repeat("x1+", 75), 374},
	} {
		list, bad := impl.Tokenize(c.s)
		if bad != -1 || len(impl.FormatTokens(list)) != c.size {
			t.Errorf("Tokenize(%q) has the offset %d, and its formatted tokens have %d bytes; want %d", c.s, bad, len(impl.FormatTokens(list)), c.size)
		}
		wantSameTokens(t, list)
	}
}

func TestFormattedTokensAreFormattedAgain(t *testing.T) {
	for _, s := range stringsOver("x1=:+ ", 5) {
		list, bad := impl.Tokenize(s)
		if bad != -1 {
			continue
		}
		text := impl.FormatTokens(list)
		again, _ := impl.Tokenize(text)
		if impl.FormatTokens(again) != text {
			t.Fatalf("the formatted tokens %q of %q are formatted as %q", text, s, impl.FormatTokens(again))
		}
	}
}

func TestIsWordToken(t *testing.T) {
	texts := []string{"", "x", "y", "xy", "X", "x ", " x", "x\x00", "0", "1", "if", "while", "==", "=", ":=", ":", "!", ";", "\xff", "abcdefghijkl"}
	kinds := []int{1, 2, 3, 0, -1, -2, -3, 4, 5, 257, 259, 1<<32 + 1, 1<<32 + 3, math.MinInt, math.MinInt + 1, math.MaxInt}
	for _, kind := range kinds {
		for _, text := range texts {
			for _, s := range texts {
				want := (kind == 1 || kind == 3) && text == s
				for _, token := range []impl.Token{{Kind: kind, Text: text}, {Kind: kind, N: 1, At: 7, Text: text}, {Kind: kind, N: -1, At: -1, Text: text}} {
					if impl.IsWordToken(token, s) != want {
						t.Errorf("IsWordToken(%v, %q) is %v", token, s, !want)
					}
				}
			}
		}
	}
	for n := range 4 {
		if s := fmt.Sprint(n); impl.IsWordToken(numberAt(0, n), s) || impl.IsWordToken(numberAt(0, n), "") {
			t.Errorf("the number %d is the word %q", n, s)
		}
	}
	list, _ := impl.Tokenize("if x == 3 { x := 0 ; }")
	for i, s := range []string{"if", "x", "==", "3", "{", "x", ":=", "0", ";", "}"} {
		if impl.IsWordToken(list[i], s) != (s != "3" && s != "0") || impl.IsWordToken(list[i], s+" ") || impl.IsWordToken(list[i], s[1:]) {
			t.Errorf("IsWordToken(%v, %q)", list[i], s)
		}
	}
}

func TestTokensAreNotModified(t *testing.T) {
	for _, s := range []string{"x", "x1 := 3 ; emit x1 ;", "== 0 := y", "1 !"} {
		list, _ := impl.Tokenize(s)
		other, _ := impl.Tokenize(s)
		array := append(slices.Clone(list), impl.Token{Kind: 1, N: 5, At: -1, Text: "behind"}, impl.Token{Kind: 9})
		before := slices.Clone(array)
		text := impl.FormatTokens(array[:len(list)])
		for i := range list {
			impl.IsWordToken(array[i], "x")
		}
		if !slices.Equal(array, before) {
			t.Errorf("a function modified %v to %v", before, array)
		}
		// What is done to one result or argument changes no other one.
		whole := list[:cap(list)]
		for i := range whole {
			whole[i] = impl.Token{Kind: -7, Text: "changed"}
		}
		again, bad := impl.Tokenize(s)
		if bad != -1 || !slices.Equal(again, before[:len(again)]) || !slices.Equal(other, again) {
			t.Errorf("a change of the tokens of %q changed others: %v and %v", s, other, again)
		}
		for i := range array {
			array[i] = impl.Token{Kind: impl.TokenName, Text: "changed"}
		}
		if want := strings.Join(strings.Fields(s), " "); text != want {
			t.Errorf("FormatTokens of the tokens of %q is %q", s, text)
		}
	}
	// The same bytes with another content are another string.
	bytes := []byte("x := 1")
	first, _ := impl.Tokenize(string(bytes))
	copy(bytes, "y == 2")
	second, _ := impl.Tokenize(string(bytes))
	if impl.FormatTokens(first) != "x := 1" || impl.FormatTokens(second) != "y == 2" {
		t.Errorf("the tokens are %v and %v", first, second)
	}
}

func TestTokensKeepNothing(t *testing.T) {
	for range 3 {
		wantErrorAt(t, "x = y", 2)
		wantTokens(t, "x y", nameAt(0, "x"), nameAt(2, "y"))
		wantErrorAt(t, strings.Repeat(";", 151), 150)
		wantTokens(t, "")
		wantErrorAt(t, strings.Repeat(" ", 401), 400)
		wantTokens(t, ";", symbolAt(0, ";"))
		if impl.FormatTokens([]impl.Token{symbolAt(0, ";")}) != ";" || impl.FormatTokens(nil) != "" {
			t.Error("FormatTokens remembers tokens")
		}
	}
}
