package impl

import (
	"strconv"
	"strings"
)

const (
	greatestNumber = 999999
	greatestInt    = 999999999999
)

// FormatInt returns the decimal representation of n.
func FormatInt(n int) string { return strconv.Itoa(n) }

// ParseNumber returns the integer from 0 to 999999 that FormatInt writes as s.
func ParseNumber(s string) (n int, ok bool) {
	defer func() {
		if recover() != nil {
			n, ok = 0, false
		}
	}()
	return parseWithin(s, 0, greatestNumber), true
}

// ParseInt returns the integer from -999999999999 to 999999999999 that
// FormatInt writes as s.
func ParseInt(s string) (n int, ok bool) {
	defer func() {
		if recover() != nil {
			n, ok = 0, false
		}
	}()
	return parseWithin(s, -greatestInt, greatestInt), true
}

// parseWithin panics if s is not the decimal representation of an integer
// from least to greatest; the exported functions recover.
func parseWithin(s string, least int, greatest int) int {
	n, err := strconv.Atoi(s)
	if err != nil || n < least || n > greatest {
		panic("no integer within the limits")
	}
	// Atoi also reads "+1", "-0" and "007", which FormatInt never writes.
	if FormatInt(n) != s {
		panic("not the form of FormatInt")
	}
	return n
}

// SplitByte splits s at every occurrence of by.
func SplitByte(s string, by byte) []string {
	// string(rune(by)) would be two bytes long for a byte above 127.
	return strings.Split(s, string([]byte{by}))
}

// Join concatenates the elements of list with by between adjacent ones.
func Join(list []string, by string) string { return strings.Join(list, by) }
