package impl

import (
	"strconv"
	"strings"
)

const (
	greatestNumber = 999999
	greatestInt    = 999999999999
)

func FormatInt(n int) string { return strconv.Itoa(n) }

func ParseNumber(s string) (int, bool) {
	// After a recovered panic the unnamed results are 0 and false.
	defer func() { recover() }()
	return parseWithin(s, 0, greatestNumber), true
}

func ParseInt(s string) (int, bool) {
	// After a recovered panic the unnamed results are 0 and false.
	defer func() { recover() }()
	return parseWithin(s, -greatestInt, greatestInt), true
}

// parseWithin panics if no integer from low to high is written as s.
func parseWithin(s string, low int, high int) int {
	n, err := strconv.Atoi(s)
	// Atoi also reads leading zeros, "-0" and a plus sign, which FormatInt never writes.
	if err != nil || n < low || n > high || FormatInt(n) != s {
		panic("malformed integer")
	}
	return n
}

func SplitByte(s string, by byte) []string {
	// string(by) would be the letter with that number, which has two bytes from 128 on.
	return strings.Split(s, string([]byte{by}))
}

func Join(list []string, by string) string { return strings.Join(list, by) }
