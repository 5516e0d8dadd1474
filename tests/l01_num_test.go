package tests

import (
	"math"
	"regexp"
	"slices"
	"strings"
	"testing"

	"loop.example/g00514/impl"
)

var (
	numberSyntax = regexp.MustCompile(`^(0|[1-9][0-9]{0,5})\z`)
	intSyntax    = regexp.MustCompile(`^(0|-?[1-9][0-9]{0,11})\z`)
)

// stringsOver returns all strings of at most the given length over an alphabet of bytes.
func stringsOver(alphabet string, length int) []string {
	all := []string{""}
	last := all
	for range length {
		var next []string
		for _, s := range last {
			for i := range len(alphabet) {
				next = append(next, s+alphabet[i:i+1])
			}
		}
		all = append(all, next...)
		last = next
	}
	return all
}

func wantNumber(t *testing.T, s string, want int, accepted bool) {
	t.Helper()
	if n, ok := impl.ParseNumber(s); n != want || ok != accepted {
		t.Errorf("ParseNumber(%.40q) = %d, %v; want %d, %v", s, n, ok, want, accepted)
	}
}

func wantInt(t *testing.T, s string, want int, accepted bool) {
	t.Helper()
	if n, ok := impl.ParseInt(s); n != want || ok != accepted {
		t.Errorf("ParseInt(%.40q) = %d, %v; want %d, %v", s, n, ok, want, accepted)
	}
}

func TestFormatInt(t *testing.T) {
	cases := []struct {
		n    int
		want string
	}{
		{0, "0"}, {1, "1"}, {-1, "-1"}, {-5, "-5"}, {9, "9"}, {10, "10"}, {-10, "-10"},
		{-70, "-70"}, {100, "100"}, {1203, "1203"}, {999999, "999999"}, {1000000, "1000000"},
		{999999999999, "999999999999"}, {-999999999999, "-999999999999"},
		{math.MaxInt32, "2147483647"}, {math.MinInt32, "-2147483648"},
		{math.MaxInt64, "9223372036854775807"},
		{math.MinInt64 + 1, "-9223372036854775807"},
		{math.MinInt64, "-9223372036854775808"},
	}
	for _, c := range cases {
		if got := impl.FormatInt(c.n); got != c.want {
			t.Errorf("FormatInt(%d) = %q; want %q", c.n, got, c.want)
		}
	}
}

func TestParseNumberReadsItsRange(t *testing.T) {
	for n := 0; n <= 999999; n++ {
		s := impl.FormatInt(n)
		if got, ok := impl.ParseNumber(s); got != n || !ok {
			t.Fatalf("ParseNumber(%q) = %d, %v", s, got, ok)
		}
	}
	wantNumber(t, "0", 0, true)
	wantNumber(t, "7", 7, true)
	wantNumber(t, "42", 42, true)
	wantNumber(t, "999999", 999999, true)
}

func TestParseIntReadsItsRange(t *testing.T) {
	for n := -100000; n <= 100000; n++ {
		wantInt(t, impl.FormatInt(n), n, true)
	}
	for power := 1; power <= 100000000000; power *= 10 {
		for _, n := range []int{power - 1, power, power + 1, 9 * power, 7*power + 5} {
			wantInt(t, impl.FormatInt(n), n, true)
			wantInt(t, impl.FormatInt(-n), -n, true)
		}
	}
	wantInt(t, "0", 0, true)
	wantInt(t, "-5", -5, true)
	wantInt(t, "1000000", 1000000, true)
	wantInt(t, "999999999999", 999999999999, true)
	wantInt(t, "-999999999999", -999999999999, true)
}

func TestParseNumberRejects(t *testing.T) {
	for _, s := range []string{
		"", "007", "00", "01", "000001", "0000001", "-0", "+0", "-1", "+1", "-", "+",
		"1000000", "999999999999", "9223372036854775807", "18446744073709551617",
		" 1", "1 ", "1\n", "1\x00", "1_0", "1,0", "1.0", "1e3", "0x1", "1-", "1-1", "--1",
		"a", "1a", "a1", "\xff", "1\xff", "٣", "５", "twelve",
	} {
		wantNumber(t, s, 0, false)
	}
}

func TestParseIntRejects(t *testing.T) {
	for _, s := range []string{
		"", "007", "00", "01", "-", "+", "-0", "+0", "-00", "-01", "-007", "+1", "+-1", "-+1", "--1", "1-", "1-1", "-1-",
		"0000000000005", "-0000000000005",
		"1000000000000", "-1000000000000", "-9999999999999",
		"9223372036854775807", "-9223372036854775808", "9223372036854775808",
		"18446744073709551616", "18446744073709551621", "-18446744073709551621",
		" 1", "1 ", "- 1", "-1\n", "1\x00", "1_0", "1,0", "1.0", "1e3", "0x1",
		"a", "-a", "1a", "a1", "\xff", "1\xff", "٣", "-５", "twelve",
	} {
		wantInt(t, s, 0, false)
	}
}

func TestParsersRejectLongStrings(t *testing.T) {
	for _, length := range []int{13, 14, 20, 64, 400, 1000000} {
		for _, digit := range []string{"0", "1", "9"} {
			long := strings.Repeat(digit, length)
			for _, s := range []string{long, "-" + long, strings.Repeat("-", length) + digit} {
				wantNumber(t, s, 0, false)
				wantInt(t, s, 0, false)
			}
		}
	}
}

func TestParsersAcceptExactlyTheirSyntax(t *testing.T) {
	short := stringsOver("-+019/: a", 5)
	for _, s := range short {
		_, ok := impl.ParseNumber(s)
		if ok != numberSyntax.MatchString(s) {
			t.Errorf("ParseNumber(%q) is %v", s, ok)
		}
		_, ok = impl.ParseInt(s)
		if ok != intSyntax.MatchString(s) {
			t.Errorf("ParseInt(%q) is %v", s, ok)
		}
	}
}

func TestParsersAcceptOnlyDigits(t *testing.T) {
	for _, valid := range []string{"1", "12", "123456", "-12", "-999999999999"} {
		for at := range len(valid) {
			for b := range 256 {
				s := valid[:at] + string([]byte{byte(b)}) + valid[at+1:]
				n, ok := impl.ParseNumber(s)
				if ok != numberSyntax.MatchString(s) || ok && impl.FormatInt(n) != s || !ok && n != 0 {
					t.Errorf("ParseNumber(%q) = %d, %v", s, n, ok)
				}
				n, ok = impl.ParseInt(s)
				if ok != intSyntax.MatchString(s) || ok && impl.FormatInt(n) != s || !ok && n != 0 {
					t.Errorf("ParseInt(%q) = %d, %v", s, n, ok)
				}
			}
		}
	}
}

func TestParsersKeepNothing(t *testing.T) {
	for range 3 {
		wantNumber(t, "12", 12, true)
		wantNumber(t, "x", 0, false)
		wantInt(t, "-12", -12, true)
		wantInt(t, "-0", 0, false)
	}
}

func TestSplitByte(t *testing.T) {
	cases := []struct {
		s    string
		by   byte
		want []string
	}{
		{"", ',', []string{""}},
		{"", 0, []string{""}},
		{"abc", ',', []string{"abc"}},
		{"a,b,c", ',', []string{"a", "b", "c"}},
		{",", ',', []string{"", ""}},
		{",a", ',', []string{"", "a"}},
		{"a,", ',', []string{"a", ""}},
		{"a,,b", ',', []string{"a", "", "b"}},
		{",,,", ',', []string{"", "", "", ""}},
		{"a b\nc", ' ', []string{"a", "b\nc"}},
		{"a\nb\n", '\n', []string{"a", "b", ""}},
		{"a\x00b", 0, []string{"a", "b"}},
		{"a\xffb\xff", 0xff, []string{"a", "b", ""}},
		{"a\x80b", 0x80, []string{"a", "b"}},
		{"\u0080", 0x80, []string{"\xc2", ""}},
		{"aéb", 0xc3, []string{"a", "\xa9b"}},
	}
	for _, c := range cases {
		if got := impl.SplitByte(c.s, c.by); !slices.Equal(got, c.want) {
			t.Errorf("SplitByte(%q, %q) = %q; want %q", c.s, c.by, got, c.want)
		}
	}
}

func TestJoin(t *testing.T) {
	cases := []struct {
		list []string
		by   string
		want string
	}{
		{nil, ",", ""},
		{[]string{}, ",", ""},
		{[]string{""}, ",", ""},
		{[]string{"a"}, ",", "a"},
		{[]string{"", ""}, ",", ","},
		{[]string{"a", "b"}, "-", "a-b"},
		{[]string{"a", "", "b"}, ",", "a,,b"},
		{[]string{"", "a", ""}, ", ", ", a, "},
		{[]string{"a", "b", "c"}, "", "abc"},
		{[]string{"a", "b"}, "\xff\x00", "a\xff\x00b"},
		{[]string{"a,b", "c"}, ",", "a,b,c"},
	}
	for _, c := range cases {
		if got := impl.Join(c.list, c.by); got != c.want {
			t.Errorf("Join(%q, %q) = %q; want %q", c.list, c.by, got, c.want)
		}
	}
}

func TestJoinInvertsSplitByte(t *testing.T) {
	for _, s := range stringsOver(",a\xff\x00", 6) {
		for _, by := range []byte{',', 'a', 0xff, 0, 'b'} {
			text := string([]byte{by})
			parts := impl.SplitByte(s, by)
			if got := impl.Join(parts, text); got != s {
				t.Errorf("Join of SplitByte(%q, %q) is %q", s, by, got)
			}
			if len(parts) != 1+strings.Count(s, text) {
				t.Errorf("SplitByte(%q, %q) has %d elements", s, by, len(parts))
			}
			for _, part := range parts {
				if strings.Contains(part, text) {
					t.Errorf("SplitByte(%q, %q) has the element %q", s, by, part)
				}
			}
		}
	}
}

func TestSplitByteInvertsJoin(t *testing.T) {
	elements := stringsOver("a\xff", 2)
	for _, by := range []byte{',', 0, 0x80} {
		for _, a := range elements {
			for _, b := range elements {
				for _, list := range [][]string{{a}, {a, b}, {a, b, a}} {
					got := impl.SplitByte(impl.Join(list, string([]byte{by})), by)
					if !slices.Equal(got, list) {
						t.Errorf("SplitByte of Join(%q) at %q is %q", list, by, got)
					}
				}
			}
		}
	}
}

func TestSplitByteSplitsAtEveryByte(t *testing.T) {
	for b := range 256 {
		s := string([]byte{byte(b), byte(b), byte(b + 1), byte(b)})
		want := []string{"", "", s[2:3], ""}
		if got := impl.SplitByte(s, byte(b)); !slices.Equal(got, want) {
			t.Errorf("SplitByte(%q, %d) = %q; want %q", s, b, got, want)
		}
	}
}

func TestSplitByteSharesNothing(t *testing.T) {
	first := impl.SplitByte("a,b", ',')
	second := impl.SplitByte("a,b", ',')
	for i := range first {
		first[i] = "changed"
	}
	third := impl.SplitByte("a,b", ',')
	want := []string{"a", "b"}
	if !slices.Equal(second, want) || !slices.Equal(third, want) {
		t.Errorf("a changed result changes others: %q, %q", second, third)
	}
}

func TestJoinModifiesNothing(t *testing.T) {
	whole := []string{"a", "b", "c", "d"}
	if got := impl.Join(whole[:2], ","); got != "a,b" {
		t.Errorf("Join = %q", got)
	}
	if !slices.Equal(whole, []string{"a", "b", "c", "d"}) {
		t.Errorf("Join modified its argument or the capacity behind it: %q", whole)
	}
}
