package tests

import (
	"fmt"
	"regexp"
	"slices"
	"strings"
	"testing"

	"loop.example/g00514/impl"
)

var (
	nameSyntax = regexp.MustCompile(`^[a-z][a-z0-9]{0,7}\z`)
	reserved   = []string{"vars", "if", "else", "while", "emit", "a", "b", "diff", "pre", "post", "output", "cost"}
)

// wantNameOf compares IsReserved and IsValidName with the list of reserved words and the syntax.
func wantNameOf(t *testing.T, s string) {
	t.Helper()
	isReserved := slices.Contains(reserved, s)
	if impl.IsReserved(s) != isReserved {
		t.Errorf("IsReserved(%.40q) is %v", s, !isReserved)
	}
	isValid := nameSyntax.MatchString(s) && !isReserved
	if impl.IsValidName(s) != isValid {
		t.Errorf("IsValidName(%.40q) is %v", s, !isValid)
	}
}

// listsOver returns all lists of at most the given length with the given elements.
func listsOver(elements []string, length int) [][]string {
	all := [][]string{nil}
	last := all
	for range length {
		var next [][]string
		for _, list := range last {
			for _, s := range elements {
				next = append(next, append(slices.Clone(list), s))
			}
		}
		all = append(all, next...)
		last = next
	}
	return all
}

// behind returns the list as a part of an array that goes on behind it, and that array.
func behind(list []string) ([]string, []string) {
	array := append(slices.Clone(list), "behind", "behind it")
	return array[:len(list)], array
}

func TestReservedWords(t *testing.T) {
	for _, s := range reserved {
		if !impl.IsReserved(s) {
			t.Errorf("IsReserved(%q) is false", s)
		}
		if impl.IsValidName(s) {
			t.Errorf("IsValidName(%q) is true", s)
		}
	}
	for _, s := range []string{
		"", "c", "d", "x", "ab", "ba", "aa", "bb", "a1", "b0", "var", "varss", "iff", "i", "f", "elsee", "els", "elseif",
		"whiles", "emits", "diffs", "pr", "prep", "posts", "pos", "outputs", "outpu", "costs", "cos",
		"A", "B", "If", "IF", "VARS", "Vars", "wHile", "output1", "pre0",
		" a", "a ", "a\n", "a\x00", "\x00a", "if ", " if", "if else", "skip", "true", "for", "proof", "align",
	} {
		wantNameOf(t, s)
	}
}

func TestWordsThatDifferFromAReservedOne(t *testing.T) {
	for _, word := range reserved {
		for at := range len(word) {
			wantNameOf(t, word[:at]+word[at+1:])
			wantNameOf(t, word[:at]+strings.ToUpper(word[at:at+1])+word[at+1:])
			for b := range 256 {
				text := string([]byte{byte(b)})
				wantNameOf(t, word[:at]+text+word[at+1:])
				wantNameOf(t, word[:at]+text+word[at:])
			}
		}
		for b := range 256 {
			wantNameOf(t, word+string([]byte{byte(b)}))
		}
		wantNameOf(t, word+word)
		wantNameOf(t, strings.ToUpper(word))
	}
}

func TestValidNames(t *testing.T) {
	for _, s := range []string{"x", "y", "z", "c", "x1", "x0", "x00", "a0", "aa", "abcdefgh", "z9999999", "a1b2c3d4", "aaaaaaaa", "varsvars", "whilex", "outputs"} {
		if !impl.IsValidName(s) {
			t.Errorf("IsValidName(%q) is false", s)
		}
	}
	for _, s := range []string{
		"", "0", "1", "9", "1a", "0x", "12345678", "abcdefghi", "toolongna", "a12345678", "aaaaaaaaa",
		"X", "Xy", "xY", "x_", "_x", "x-y", "x.y", "a.x", "x y", " x", "x ", "x\n", "\nx", "x\x00", "\x00x",
		"é", "xé", "\xe9", "x\xff", "٣", "x٣", "ｘ", "x５", "`x", "{x", "x/", "x:", "x`", "x{",
	} {
		if impl.IsValidName(s) {
			t.Errorf("IsValidName(%q) is true", s)
		}
	}
}

func TestLengthsOfNames(t *testing.T) {
	if impl.MaxName != 8 {
		t.Errorf("MaxName is %d", impl.MaxName)
	}
	for length := range 40 {
		for _, s := range []string{
			strings.Repeat("x", length),
			strings.Repeat("x9", length)[:length],
			("z" + strings.Repeat("0", length))[:length],
		} {
			if impl.IsValidName(s) != (1 <= length && length <= impl.MaxName) {
				t.Errorf("IsValidName(%q) is %v", s, impl.IsValidName(s))
			}
		}
	}
	if impl.IsValidName(strings.Repeat("x", 1000000)) || impl.IsReserved(strings.Repeat("a", 1000000)) {
		t.Error("a long string is a name or reserved")
	}
}

func TestNamesHaveExactlyTheirSyntax(t *testing.T) {
	for _, s := range stringsOver("abifz09Az{/:`@ \xff", 4) {
		wantNameOf(t, s)
	}
	for b := range 256 {
		text := string([]byte{byte(b)})
		wantNameOf(t, text)
		for at := range 9 {
			wantNameOf(t, "abcdefgh"[:at]+text+"abcdefgh"[at:])
			wantNameOf(t, "abcdefg"[:min(at, 7)]+text+"abcdefg"[min(at, 7):])
		}
	}
}

func TestIndexOf(t *testing.T) {
	cases := []struct {
		list []string
		s    string
		want int
	}{
		{nil, "", -1},
		{nil, "x", -1},
		{[]string{}, "x", -1},
		{[]string{"x"}, "x", 0},
		{[]string{"x"}, "", -1},
		{[]string{""}, "", 0},
		{[]string{"x", ""}, "", 1},
		{[]string{"x", "y", "x"}, "x", 0},
		{[]string{"y", "x", "x"}, "x", 1},
		{[]string{"y", "x", "z"}, "z", 2},
		{[]string{"xy", "yx"}, "x", -1},
		{[]string{"x"}, "xy", -1},
		{[]string{"xy", "x"}, "x", 1},
		{[]string{"X", "x"}, "x", 1},
		{[]string{"x\x00", "x"}, "x", 1},
		{[]string{"\xff", "\xfe"}, "\xfe", 1},
	}
	for _, c := range cases {
		if got := impl.IndexOf(c.list, c.s); got != c.want {
			t.Errorf("IndexOf(%q, %q) = %d; want %d", c.list, c.s, got, c.want)
		}
	}
}

func TestAllDistinct(t *testing.T) {
	for _, list := range [][]string{
		nil, {}, {""}, {"x"}, {"x", "y"}, {"x", "", "y"}, {"x", "X"}, {"x", "xx"}, {"x", "x\x00"}, {"\xff", "\xfe"},
		{"a", "b", "c", "d", "e", "f", "g", "h"},
	} {
		if !impl.AllDistinct(list) {
			t.Errorf("AllDistinct(%q) is false", list)
		}
	}
	for _, list := range [][]string{
		{"", ""}, {"x", "x"}, {"x", "y", "x"}, {"y", "x", "x"}, {"x", "x", "y"}, {"", "x", ""}, {"\xff", "\xff"}, {"x", "x", "x"},
		{"a", "b", "c", "d", "e", "f", "g", "h", "a"},
	} {
		if impl.AllDistinct(list) {
			t.Errorf("AllDistinct(%q) is true", list)
		}
	}
}

func TestSortNames(t *testing.T) {
	cases := []struct{ list, want []string }{
		{nil, nil},
		{[]string{}, nil},
		{[]string{""}, []string{""}},
		{[]string{"", ""}, []string{""}},
		{[]string{"x"}, []string{"x"}},
		{[]string{"y", "x", "y"}, []string{"x", "y"}},
		{[]string{"x", "y"}, []string{"x", "y"}},
		{[]string{"x", "x", "x"}, []string{"x"}},
		{[]string{"xyz", "xy", "x", ""}, []string{"", "x", "xy", "xyz"}},
		{[]string{"x10", "x9", "x1", "x"}, []string{"x", "x1", "x10", "x9"}},
		{[]string{"a", "B", "b", "A", "_", "0"}, []string{"0", "A", "B", "_", "a", "b"}},
		{[]string{"\xff", "z", "é", "\x00", "\x80"}, []string{"\x00", "z", "\x80", "é", "\xff"}},
		{[]string{"b", "a\xff", "a\x00", "a"}, []string{"a", "a\x00", "a\xff", "b"}},
	}
	for _, c := range cases {
		if got := impl.SortNames(c.list); !slices.Equal(got, c.want) {
			t.Errorf("SortNames(%q) = %q; want %q", c.list, got, c.want)
		}
	}
}

func TestSortedNamesAreAscendingAndComplete(t *testing.T) {
	for _, list := range listsOver([]string{"", "x", "xy", "w", "\xff", "x0"}, 5) {
		got := impl.SortNames(list)
		for i := 1; i < len(got); i++ {
			if got[i-1] >= got[i] {
				t.Fatalf("SortNames(%q) = %q is not ascending", list, got)
			}
		}
		if !impl.AllDistinct(got) || impl.AllDistinct(list) != (len(got) == len(list)) {
			t.Fatalf("AllDistinct(%q) is %v", list, impl.AllDistinct(list))
		}
		for _, s := range list {
			if !slices.Contains(got, s) {
				t.Fatalf("SortNames(%q) = %q lacks %q", list, got, s)
			}
		}
		for i, s := range got {
			if !slices.Contains(list, s) {
				t.Fatalf("SortNames(%q) = %q has %q", list, got, s)
			}
			if impl.IndexOf(got, s) != i || impl.IndexOf(list, s) != slices.Index(list, s) {
				t.Fatalf("IndexOf(%q, %q) or IndexOf(%q, %q)", got, s, list, s)
			}
		}
	}
}

func TestWithout(t *testing.T) {
	cases := []struct{ list, remove, want []string }{
		{nil, nil, nil},
		{nil, []string{"x"}, nil},
		{[]string{}, []string{}, nil},
		{[]string{"x"}, nil, []string{"x"}},
		{[]string{"x"}, []string{}, []string{"x"}},
		{[]string{"x"}, []string{"x"}, nil},
		{[]string{"x"}, []string{""}, []string{"x"}},
		{[]string{"", "x", ""}, []string{""}, []string{"x"}},
		{[]string{"a", "b", "a", "c"}, []string{"a"}, []string{"b", "c"}},
		{[]string{"a", "b", "a", "c"}, []string{"b"}, []string{"a", "a", "c"}},
		{[]string{"a", "b", "a", "c"}, []string{"d"}, []string{"a", "b", "a", "c"}},
		{[]string{"a", "b", "a", "c"}, []string{"c", "a", "b"}, nil},
		{[]string{"c", "b", "c", "a", "b"}, []string{"a", "a"}, []string{"c", "b", "c", "b"}},
		{[]string{"x", "xy", "xyz"}, []string{"xy"}, []string{"x", "xyz"}},
		{[]string{"x", "X", "x\x00"}, []string{"x"}, []string{"X", "x\x00"}},
		{[]string{"\xff", "\xfe", "\xff"}, []string{"\xfe"}, []string{"\xff", "\xff"}},
	}
	for _, c := range cases {
		if got := impl.Without(c.list, c.remove); !slices.Equal(got, c.want) {
			t.Errorf("Without(%q, %q) = %q; want %q", c.list, c.remove, got, c.want)
		}
	}
}

func TestWithoutKeepsTheRestInOrder(t *testing.T) {
	elements := []string{"", "x", "y"}
	for _, list := range listsOver(elements, 5) {
		for _, remove := range listsOver(elements, 3) {
			want := slices.DeleteFunc(slices.Clone(list), func(s string) bool { return slices.Contains(remove, s) })
			if got := impl.Without(list, remove); !slices.Equal(got, want) {
				t.Fatalf("Without(%q, %q) = %q; want %q", list, remove, got, want)
			}
		}
	}
}

func TestListsOfNamesAreNotModified(t *testing.T) {
	for _, list := range [][]string{{}, {"x"}, {"y", "x"}, {"y", "x", "y", "w", "x"}, {"w", "x", "y"}} {
		for _, remove := range [][]string{{}, {"y", "x", "x"}, {"z"}} {
			part, array := behind(list)
			removed, arrayOfRemoved := behind(remove)
			before, beforeRemoved := slices.Clone(array), slices.Clone(arrayOfRemoved)
			sorted := impl.SortNames(part)
			kept := impl.Without(part, removed)
			impl.AllDistinct(part)
			impl.IndexOf(part, "x")
			for _, result := range [][]string{sorted, kept} {
				result = result[:cap(result)]
				for i := range result {
					result[i] = "changed"
				}
			}
			if !slices.Equal(array, before) || !slices.Equal(arrayOfRemoved, beforeRemoved) {
				t.Errorf("a function or a change of its result modified %q to %q, or %q to %q", before, array, beforeRemoved, arrayOfRemoved)
			}
		}
	}
}

func TestListsOfNamesKeepNothing(t *testing.T) {
	list := []string{"y", "x", "y"}
	for range 3 {
		sorted, kept := impl.SortNames(list), impl.Without(list, []string{"x"})
		if !slices.Equal(sorted, []string{"x", "y"}) || !slices.Equal(kept, []string{"y", "y"}) {
			t.Errorf("SortNames and Without of %q are %q and %q", list, sorted, kept)
		}
		sorted[0], kept[0] = "changed", "changed"
		if impl.IsReserved("x") || !impl.IsReserved("if") || !impl.IsValidName("x") || impl.IsValidName("if") {
			t.Error("a word is reserved at one call and not at another")
		}
	}
}

func TestLongListsOfNames(t *testing.T) {
	var list, want []string
	for i := range 20000 {
		list = append(list, fmt.Sprintf("n%05d", (i*7919)%20000))
		want = append(want, fmt.Sprintf("n%05d", i))
	}
	twice := append(slices.Clone(list), list...)
	if !impl.AllDistinct(list) || impl.AllDistinct(twice) {
		t.Error("AllDistinct of a long list")
	}
	if !slices.Equal(impl.SortNames(list), want) || !slices.Equal(impl.SortNames(twice), want) {
		t.Error("SortNames of a long list")
	}
	if got := impl.Without(twice, list[1:]); !slices.Equal(got, []string{list[0], list[0]}) {
		t.Errorf("Without of a long list has %d elements", len(got))
	}
	if got := impl.IndexOf(twice, list[19999]); got != 19999 {
		t.Errorf("IndexOf in a long list is %d", got)
	}
}
