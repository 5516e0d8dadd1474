package impl

import (
	"strconv"
	"strings"
)

// Both ranges end where a number of digits ends, so that a limit on the
// digits is a limit on the value and rules out an overflow.
const (
	digitsOfNumber = 6
	digitsOfInt    = 12
)

func FormatInt(n int) string { return strconv.Itoa(n) }

func ParseNumber(s string) (int, bool) {
	// A recovered panic leaves both results at their zero values.
	defer func() { recover() }()
	n := readDigits(s, digitsOfNumber)
	return n, true
}

func ParseInt(s string) (int, bool) {
	// A recovered panic leaves both results at their zero values.
	defer func() { recover() }()
	n := readSigned(s, digitsOfInt)
	return n, true
}

// readSigned panics if s is malformed, as readDigits does.
func readSigned(s string, most int) int {
	digits, negative := strings.CutPrefix(s, "-")
	n := readDigits(digits, most)
	if !negative {
		return n
	}
	if n == 0 {
		// FormatInt(0) has no sign.
		panicMalformed()
	}
	return -n
}

// readDigits panics if s is not the decimal representation of an integer
// that is not negative and has at most the given number of digits.
func readDigits(s string, most int) int {
	if s == "" || len(s) > most || len(s) > 1 && s[0] == '0' {
		panicMalformed()
	}
	n := 0
	for i := 0; i < len(s); i++ {
		if !isDigit(s[i]) {
			panicMalformed()
		}
		n = 10*n + int(s[i]-'0')
	}
	return n
}

func panicMalformed() { panic("malformed integer") }

func SplitByte(s string, by byte) []string {
	// string(by) would encode a byte from 128 on as two bytes.
	return strings.Split(s, string([]byte{by}))
}

func Join(list []string, by string) string { return strings.Join(list, by) }
