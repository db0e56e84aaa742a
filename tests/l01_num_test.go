package tests

import (
	"math"
	"slices"
	"strings"
	"testing"

	"loop.example/g03101/impl"
)

func TestFormatInt(t *testing.T) {
	cases := []struct {
		n    int
		want string
	}{
		{0, "0"},
		{7, "7"},
		{-5, "-5"},
		{10, "10"},
		{-70, "-70"},
		{100200, "100200"},
		{999999999999, "999999999999"},
		{-1000000000000, "-1000000000000"},
		{math.MaxInt, "9223372036854775807"},
		{math.MinInt + 1, "-9223372036854775807"},
		{math.MinInt, "-9223372036854775808"},
	}
	for _, c := range cases {
		if got := impl.FormatInt(c.n); got != c.want {
			t.Errorf("FormatInt(%d) is %q, not %q", c.n, got, c.want)
		}
	}
}

// neverIntegers lists texts that FormatInt never writes, and integers in neither parser's range.
func neverIntegers() []string {
	return []string{
		"", "-", "+", "--", "+-1", "-+1", "--1", "1-", "5-3",
		"00", "01", "007", "-0", "-00", "-01", "-007", "+0", "+5",
		" ", " 1", "1 ", "1\n", "\t1", "1\x00", "\x001", "\xff", "1\xff",
		"a", "1a", "a1", "/", ":", "1/", "1:", "0x10", "0b1", "1e3", "1.0", "1_000", "1,000",
		"\u0661", "\uff11",
		"1000000000000", "-1000000000000",
		"9223372036854775807", "9223372036854775808", "-9223372036854775808", "-9223372036854775809",
		"18446744073709551616", "18446744073709551621", "-18446744073709551615",
		"100000000000000000000000000000000000000005",
		strings.Repeat("0", 1000), strings.Repeat("9", 1000), "-" + strings.Repeat("1", 1000),
	}
}

func checkParsed(t *testing.T, name string, parse func(string) (int, bool), s string, want int, wantOK bool) {
	t.Helper()
	if n, ok := parse(s); n != want || ok != wantOK {
		t.Errorf("%s(%q) is %d, %t, not %d, %t", name, s, n, ok, want, wantOK)
	}
}

func TestParseNumberAccepts(t *testing.T) {
	checkParsed(t, "ParseNumber", impl.ParseNumber, "0", 0, true)
	checkParsed(t, "ParseNumber", impl.ParseNumber, "10", 10, true)
	checkParsed(t, "ParseNumber", impl.ParseNumber, "100200", 100200, true)
	checkParsed(t, "ParseNumber", impl.ParseNumber, "999999", 999999, true)
	for n := 0; n <= 999999; n++ {
		if got, ok := impl.ParseNumber(impl.FormatInt(n)); !ok || got != n {
			t.Fatalf("ParseNumber of FormatInt(%d) is %d, %t", n, got, ok)
		}
	}
}

func TestParseNumberRejects(t *testing.T) {
	outside := []string{"-1", "-5", "-999999", "1000000", "1000001", "9999999", "4294967296", "4294967301", "999999999999", "-999999999999"}
	for _, s := range append(neverIntegers(), outside...) {
		checkParsed(t, "ParseNumber", impl.ParseNumber, s, 0, false)
	}
}

func TestParseIntAccepts(t *testing.T) {
	list := []int{0, 1, -1, 9, -9, 10, -10, 42, -70, 999999, 1000000, -1000000, 4294967296, -4294967296, 999999999998, -999999999998, 999999999999, -999999999999}
	for _, n := range list {
		checkParsed(t, "ParseInt", impl.ParseInt, impl.FormatInt(n), n, true)
	}
	checkParsed(t, "ParseInt", impl.ParseInt, "-999999999999", -999999999999, true)
	checkParsed(t, "ParseInt", impl.ParseInt, "999999999999", 999999999999, true)
	for n := -2000; n <= 2000; n++ {
		checkParsed(t, "ParseInt", impl.ParseInt, impl.FormatInt(n), n, true)
	}
	for n := -999999999999; n <= 999999999999; n += 98765432 {
		checkParsed(t, "ParseInt", impl.ParseInt, impl.FormatInt(n), n, true)
	}
}

func TestParseIntRejects(t *testing.T) {
	for _, s := range neverIntegers() {
		checkParsed(t, "ParseInt", impl.ParseInt, s, 0, false)
	}
	for _, n := range []int{math.MinInt, math.MinInt + 1, math.MaxInt, 1000000000001, -1000000000001} {
		checkParsed(t, "ParseInt", impl.ParseInt, impl.FormatInt(n), 0, false)
	}
}

func TestSplitByte(t *testing.T) {
	cases := []struct {
		s    string
		by   byte
		want []string
	}{
		{"", ',', []string{""}},
		{",", ',', []string{"", ""}},
		{",,", ',', []string{"", "", ""}},
		{"abc", ',', []string{"abc"}},
		{"a,b,c", ',', []string{"a", "b", "c"}},
		{",a", ',', []string{"", "a"}},
		{"a,", ',', []string{"a", ""}},
		{",a,,b,", ',', []string{"", "a", "", "b", ""}},
		{" a b", ' ', []string{"", "a", "b"}},
		{"a\nb\n", '\n', []string{"a", "b", ""}},
		{"a\x00b", 0, []string{"a", "b"}},
		{"\xff\xfe\xff", 0xff, []string{"", "\xfe", ""}},
		{"\u00e9", 0xa9, []string{"\xc3", ""}},
		{"\u00e9", 0xe9, []string{"\u00e9"}},
	}
	for _, c := range cases {
		if got := impl.SplitByte(c.s, c.by); !slices.Equal(got, c.want) {
			t.Errorf("SplitByte(%q, %q) is %q, not %q", c.s, c.by, got, c.want)
		}
	}
}

func TestJoin(t *testing.T) {
	cases := []struct {
		list []string
		by   string
		want string
	}{
		{nil, ",", ""},
		{[]string{}, ",", ""},
		{[]string{""}, ",", ""},
		{[]string{"a"}, ",", "a"},
		{[]string{"a", "b"}, "-", "a-b"},
		{[]string{"a", "b", "c"}, "", "abc"},
		{[]string{"a", "b", "c"}, ", ", "a, b, c"},
		{[]string{"", ""}, ",", ","},
		{[]string{"", "a", ""}, ",", ",a,"},
		{[]string{"a,b", "c"}, ",", "a,b,c"},
		{[]string{"\xff", "\x00"}, "\xfe", "\xff\xfe\x00"},
	}
	for _, c := range cases {
		if got := impl.Join(c.list, c.by); got != c.want {
			t.Errorf("Join(%q, %q) is %q, not %q", c.list, c.by, got, c.want)
		}
	}
}

// textsUpTo returns all strings of at most n of the letters.
func textsUpTo(n int, letters string) []string {
	all := []string{""}
	last := all
	for range n {
		var next []string
		for _, s := range last {
			for i := range len(letters) {
				next = append(next, s+letters[i:i+1])
			}
		}
		all = append(all, next...)
		last = next
	}
	return all
}

func TestJoinUndoesSplitByte(t *testing.T) {
	for _, by := range []string{",", "\x00", "\xe9", "\xff"} {
		for _, s := range textsUpTo(6, by+"a\xc3") {
			parts := impl.SplitByte(s, by[0])
			if len(parts) != strings.Count(s, by)+1 {
				t.Fatalf("SplitByte(%q, %q) has %d elements", s, by, len(parts))
			}
			if got := impl.Join(parts, by); got != s {
				t.Fatalf("Join of SplitByte(%q, %q) is %q", s, by, got)
			}
		}
	}
}

func TestSplitByteUndoesJoin(t *testing.T) {
	words := []string{"", "a", "bc", "\xe9"}
	lists := [][]string{{}}
	for range 4 {
		var longer [][]string
		for _, list := range lists {
			for _, word := range words {
				longer = append(longer, append(slices.Clone(list), word))
			}
		}
		lists = longer
		for _, list := range lists {
			if got := impl.SplitByte(impl.Join(list, ","), ','); !slices.Equal(got, list) {
				t.Fatalf("SplitByte of Join(%q) is %q", list, got)
			}
		}
	}
}

func TestJoinLeavesItsArgument(t *testing.T) {
	whole := []string{"a", "b", "c", "d"}
	if got := impl.Join(whole[:2], ","); got != "a,b" {
		t.Errorf("Join of a part is %q", got)
	}
	if !slices.Equal(whole, []string{"a", "b", "c", "d"}) {
		t.Errorf("Join changed its argument: %q", whole)
	}
}

func TestSplitByteGivesNewMemory(t *testing.T) {
	first := impl.SplitByte("a,b", ',')
	first[0] = "x"
	_ = append(first[:1], "y")
	if second := impl.SplitByte("a,b", ','); !slices.Equal(second, []string{"a", "b"}) {
		t.Errorf("a later SplitByte sees a change of an earlier result: %q", second)
	}
}
