package tests

import (
	"math"
	"slices"
	"strings"
	"testing"

	"loop.example/g03101/impl"
)

// notPerms lists lists that are no permutations.
func notPerms() [][]int {
	return [][]int{
		{0}, {2}, {-1}, {9}, {math.MaxInt}, {math.MinInt},
		{1, 1}, {2, 2}, {0, 1}, {1, 3}, {1, -2}, {2, 3}, {0, 0},
		{1, 2, 2}, {3, 3, 3}, {1, 2, 4}, {0, 1, 2}, {1, 3, 3}, {2, 3, 4},
		{1 + 1<<32, 2}, {1 + 1<<8, 2}, {math.MinInt + 1, 1},
		{1, 2, 3, 4, 5, 6, 7, 9}, {1, 2, 3, 4, 5, 6, 7, 7}, {0, 1, 2, 3, 4, 5, 6, 7},
		{1, 2, 3, 4, 5, 6, 7, 8, 9}, {1, 2, 3, 4, 5, 6, 7, 8, 8}, {9, 8, 7, 6, 5, 4, 3, 2, 1},
		{1, 2, 3, 4, 5, 6, 7, 8, 0}, make([]int, 9), make([]int, 1000),
	}
}

// isPermByCount tells a permutation by counting each number.
func isPermByCount(list []int) bool {
	for v := 1; v <= len(list); v++ {
		n := 0
		for _, w := range list {
			if w == v {
				n++
			}
		}
		if n != 1 {
			return false
		}
	}
	return len(list) <= 8
}

// permsUpTo returns all permutations of the lengths 0 to n.
func permsUpTo(n int) [][]int {
	var all [][]int
	for k := 0; k <= n; k++ {
		all = append(all, impl.PermsOf(k)...)
	}
	return all
}

func TestIsPerm(t *testing.T) {
	for _, list := range [][]int{nil, {}, {1}, {1, 2}, {2, 1}, {2, 4, 1, 3}, {1, 2, 3, 4, 5, 6, 7, 8}, {8, 7, 6, 5, 4, 3, 2, 1}, {3, 8, 1, 6, 5, 2, 7, 4}} {
		if !impl.IsPerm(list) {
			t.Errorf("IsPerm(%v) is false", list)
		}
	}
	for _, list := range notPerms() {
		if impl.IsPerm(list) {
			t.Errorf("IsPerm(%v) is true", list)
		}
	}
	for _, list := range listsUpTo(5, -1, 6) {
		if got := impl.IsPerm(list); got != isPermByCount(list) {
			t.Fatalf("IsPerm(%v) is %t", list, got)
		}
	}
}

func TestIdentityPerm(t *testing.T) {
	checkList(t, impl.IdentityPerm(1), []int{1}, "IdentityPerm", 1)
	checkList(t, impl.IdentityPerm(3), []int{1, 2, 3}, "IdentityPerm", 3)
	checkList(t, impl.IdentityPerm(7), []int{1, 2, 3, 4, 5, 6, 7}, "IdentityPerm", 7)
	checkList(t, impl.IdentityPerm(8), []int{1, 2, 3, 4, 5, 6, 7, 8}, "IdentityPerm", 8)
	for _, n := range []int{0, -1, -8, 9, 10, 256, math.MaxInt, math.MinInt} {
		checkList(t, impl.IdentityPerm(n), nil, "IdentityPerm", n)
	}
}

func TestInversePerm(t *testing.T) {
	cases := []struct{ p, want []int }{
		{nil, nil},
		{[]int{}, nil},
		{[]int{1}, []int{1}},
		{[]int{2, 1}, []int{2, 1}},
		{[]int{2, 3, 1}, []int{3, 1, 2}},
		{[]int{2, 4, 1, 3}, []int{3, 1, 4, 2}},
		{[]int{8, 1, 2, 3, 4, 5, 6, 7}, []int{2, 3, 4, 5, 6, 7, 8, 1}},
	}
	for _, c := range cases {
		got, ok := impl.InversePerm(c.p)
		checkListOK(t, got, ok, c.want, true, "InversePerm", c.p)
	}
	for _, p := range notPerms() {
		got, ok := impl.InversePerm(p)
		checkListOK(t, got, ok, nil, false, "InversePerm", p)
	}
	for _, p := range permsUpTo(6) {
		got, ok := impl.InversePerm(p)
		if !ok || len(got) != len(p) {
			t.Fatalf("InversePerm(%v) is %v, %t", p, got, ok)
		}
		for i, v := range p {
			if got[v-1] != i+1 {
				t.Fatalf("InversePerm(%v) is %v", p, got)
			}
		}
	}
}

func TestComposePerm(t *testing.T) {
	cases := []struct{ p, q, want []int }{
		{nil, nil, nil},
		{nil, []int{}, nil},
		{[]int{1}, []int{1}, []int{1}},
		{[]int{2, 3, 1}, []int{3, 1, 2}, []int{1, 2, 3}},
		{[]int{2, 3, 1}, []int{2, 1, 3}, []int{3, 2, 1}},
		{[]int{2, 1, 3}, []int{2, 3, 1}, []int{1, 3, 2}},
		{[]int{2, 4, 1, 3}, []int{4, 3, 2, 1}, []int{3, 1, 4, 2}},
		{[]int{4, 3, 2, 1}, []int{2, 4, 1, 3}, []int{3, 1, 4, 2}},
		{[]int{8, 1, 2, 3, 4, 5, 6, 7}, []int{8, 1, 2, 3, 4, 5, 6, 7}, []int{7, 8, 1, 2, 3, 4, 5, 6}},
	}
	for _, c := range cases {
		got, ok := impl.ComposePerm(c.p, c.q)
		checkListOK(t, got, ok, c.want, true, "ComposePerm", c.p, c.q)
	}
}

func TestComposePermRejects(t *testing.T) {
	for _, c := range [][2][]int{{{1, 2}, {1}}, {{1}, {1, 2}}, {nil, {1}}, {{1}, nil}, {{1, 2, 3, 4, 5, 6, 7}, {1, 2, 3, 4, 5, 6, 7, 8}}} {
		got, ok := impl.ComposePerm(c[0], c[1])
		checkListOK(t, got, ok, nil, false, "ComposePerm", c[0], c[1])
	}
	for _, p := range notPerms() {
		got, ok := impl.ComposePerm(p, p)
		checkListOK(t, got, ok, nil, false, "ComposePerm", p, p)
		id := impl.IdentityPerm(len(p))
		got, ok = impl.ComposePerm(p, id)
		checkListOK(t, got, ok, nil, false, "ComposePerm", p, id)
		got, ok = impl.ComposePerm(id, p)
		checkListOK(t, got, ok, nil, false, "ComposePerm", id, p)
	}
}

func TestComposePermWithAll(t *testing.T) {
	for n := 0; n <= 4; n++ {
		for _, p := range impl.PermsOf(n) {
			inverse, _ := impl.InversePerm(p)
			got, ok := impl.ComposePerm(p, inverse)
			checkListOK(t, got, ok, impl.IdentityPerm(n), true, "ComposePerm", p, inverse)
			for _, q := range impl.PermsOf(n) {
				want := make([]int, n)
				for i := range want {
					want[i] = p[q[i]-1]
				}
				got, ok := impl.ComposePerm(p, q)
				checkListOK(t, got, ok, want, true, "ComposePerm", p, q)
			}
		}
	}
}

func TestBeforePerm(t *testing.T) {
	cases := []struct {
		p, q []int
		want bool
	}{
		{nil, nil, false},
		{nil, []int{1}, true},
		{[]int{1}, nil, false},
		{[]int{1}, []int{1}, false},
		{[]int{2, 1}, []int{1, 2, 3}, true},
		{[]int{1, 2, 3}, []int{2, 1}, false},
		{[]int{1, 2}, []int{2, 1}, true},
		{[]int{2, 1}, []int{1, 2}, false},
		{[]int{1, 3, 2}, []int{2, 1, 3}, true},
		{[]int{8, 7, 6, 5, 4, 3, 1, 2}, []int{8, 7, 6, 5, 4, 3, 2, 1}, true},
		{[]int{7, 6, 5, 4, 3, 2, 1}, []int{1, 2, 3, 4, 5, 6, 7, 8}, true},
		{[]int{1, 2, 3, 4, 5, 6, 7, 8}, []int{7, 6, 5, 4, 3, 2, 1}, false},
	}
	for _, c := range cases {
		if got := impl.BeforePerm(c.p, c.q); got != c.want {
			t.Errorf("BeforePerm(%v, %v) is %t", c.p, c.q, got)
		}
	}
	for _, p := range notPerms() {
		for _, q := range [][]int{nil, {1}, {2, 1}, {8, 7, 6, 5, 4, 3, 2, 1}, {9}, p} {
			if impl.BeforePerm(p, q) || impl.BeforePerm(q, p) {
				t.Errorf("BeforePerm tells an order of %v and %v", p, q)
			}
		}
	}
}

func TestBeforePermIsTheOrderOfPermsOf(t *testing.T) {
	all := permsUpTo(5)
	for i, p := range all {
		for j, q := range all {
			if got := impl.BeforePerm(p, q); got != (i < j) {
				t.Fatalf("BeforePerm(%v, %v) is %t", p, q, got)
			}
		}
	}
}

func TestPatternOf(t *testing.T) {
	cases := []struct{ list, want []int }{
		{nil, nil},
		{[]int{}, nil},
		{[]int{0}, []int{1}},
		{[]int{-5}, []int{1}},
		{[]int{5, -1, 7}, []int{2, 1, 3}},
		{[]int{-1, -2, -3}, []int{3, 2, 1}},
		{[]int{10, 40, 0, 20}, []int{2, 4, 1, 3}},
		{[]int{math.MaxInt, math.MinInt}, []int{2, 1}},
		{[]int{math.MinInt, math.MaxInt}, []int{1, 2}},
		{[]int{math.MaxInt, 0, math.MinInt, -1, 1, math.MaxInt - 1, math.MinInt + 1, 2}, []int{8, 4, 1, 3, 5, 7, 2, 6}},
	}
	for _, c := range cases {
		got, ok := impl.PatternOf(c.list)
		checkListOK(t, got, ok, c.want, true, "PatternOf", c.list)
	}
	rejected := [][]int{
		{3, 3}, {0, 0}, {1, 2, 1}, {-1, -1}, {5, 6, 7, 7}, {math.MaxInt, math.MaxInt}, {math.MinInt, 1, math.MinInt},
		{1, 2, 3, 4, 5, 6, 7, 7}, {1, 2, 3, 4, 5, 6, 7, 8, 9}, {9, 8, 7, 6, 5, 4, 3, 2, 1}, make([]int, 8), make([]int, 9), make([]int, 5000),
	}
	for _, list := range rejected {
		got, ok := impl.PatternOf(list)
		checkListOK(t, got, ok, nil, false, "PatternOf", list)
	}
}

func TestPatternOfKeepsTheOrderOfNumbers(t *testing.T) {
	for _, list := range listsUpTo(5, -2, 3) {
		got, ok := impl.PatternOf(list)
		sorted := slices.Sorted(slices.Values(list))
		if distinct := len(slices.Compact(sorted)) == len(list); ok != distinct {
			t.Fatalf("PatternOf(%v) is %v, %t", list, got, ok)
		}
		if !ok {
			checkList(t, got, nil, "PatternOf", list)
			continue
		}
		if len(got) != len(list) || !impl.IsPerm(got) {
			t.Fatalf("PatternOf(%v) is %v", list, got)
		}
		for i := range list {
			for j := range list {
				if (list[i] < list[j]) != (got[i] < got[j]) {
					t.Fatalf("PatternOf(%v) is %v", list, got)
				}
			}
		}
	}
	for _, p := range permsUpTo(6) {
		got, ok := impl.PatternOf(p)
		checkListOK(t, got, ok, p, true, "PatternOf", p)
	}
}

func TestPermText(t *testing.T) {
	cases := []struct {
		p    []int
		want string
	}{
		{nil, "-"},
		{[]int{}, "-"},
		{[]int{1}, "1"},
		{[]int{2, 4, 1, 3}, "2413"},
		{[]int{1, 2, 3, 4, 5, 6, 7, 8}, "12345678"},
		{[]int{8, 7, 6, 5, 4, 3, 2, 1}, "87654321"},
	}
	for _, c := range cases {
		if got := impl.PermText(c.p); got != c.want {
			t.Errorf("PermText(%v) is %q", c.p, got)
		}
	}
	for _, p := range notPerms() {
		if got := impl.PermText(p); got != "" {
			t.Errorf("PermText(%v) is %q", p, got)
		}
	}
}

func TestParsePerm(t *testing.T) {
	cases := []struct {
		text string
		want []int
	}{
		{"-", nil},
		{"1", []int{1}},
		{"21", []int{2, 1}},
		{"2413", []int{2, 4, 1, 3}},
		{"1234567", []int{1, 2, 3, 4, 5, 6, 7}},
		{"83165274", []int{8, 3, 1, 6, 5, 2, 7, 4}},
	}
	for _, c := range cases {
		got, ok := impl.ParsePerm(c.text)
		checkListOK(t, got, ok, c.want, true, "ParsePerm", c.text)
	}
	rejected := []string{
		"", "0", "2", "9", "11", "13", "12344", "01", "10", "012", "1-", "-1", "--", "- ", " -", "1 2", " 12", "12 ", "12\n", "1,2", "+1",
		"a", "1a", "a1", "/", ":", "1/", "1:", "\x001", "1\x00", "\x01", "\x01\x02", "\x02\x01", "\xff", "\xb1", "q", "qr", "1\xb2", "\u0661", "\uff11",
		"123456789", "12345679", "987654321", "1234567890", strings.Repeat("1", 1000), strings.Repeat("-", 9),
	}
	for _, text := range rejected {
		got, ok := impl.ParsePerm(text)
		checkListOK(t, got, ok, nil, false, "ParsePerm", text)
	}
}

func TestParsePermRejectsOtherBytes(t *testing.T) {
	for b := range 256 {
		one, two := string([]byte{byte(b)}), string([]byte{byte(b), '1'})
		got, ok := impl.ParsePerm(one)
		checkListOK(t, got, ok, []int{1}[:len(got)], b == '1' || b == '-', "ParsePerm", one)
		if b != '1' {
			checkList(t, got, nil, "ParsePerm", one)
		}
		got, ok = impl.ParsePerm(two)
		checkListOK(t, got, ok, []int{2, 1}[:len(got)], b == '2', "ParsePerm", two)
	}
}

func TestTextsTellPerms(t *testing.T) {
	for _, p := range permsUpTo(6) {
		text := impl.PermText(p)
		got, ok := impl.ParsePerm(text)
		checkListOK(t, got, ok, p, true, "ParsePerm", text)
	}
	for _, text := range textsUpTo(5, "-012345a") {
		p, ok := impl.ParsePerm(text)
		if ok && impl.PermText(p) != text {
			t.Fatalf("PermText of ParsePerm(%q) is %q", text, impl.PermText(p))
		}
		if !ok && p != nil {
			t.Fatalf("ParsePerm(%q) is %v, false", text, p)
		}
	}
}

func TestPermsOf(t *testing.T) {
	counts := []int{1, 1, 2, 6, 24, 120, 720}
	for n, count := range counts {
		all := impl.PermsOf(n)
		if len(all) != count {
			t.Fatalf("PermsOf(%d) has %d elements", n, len(all))
		}
		for i, p := range all {
			if len(p) != n || !isPermByCount(p) {
				t.Fatalf("PermsOf(%d) has %v", n, p)
			}
			if i > 0 && slices.Compare(all[i-1], p) >= 0 {
				t.Fatalf("PermsOf(%d) has %v before %v", n, all[i-1], p)
			}
		}
	}
	want := [][]int{{1, 2, 3}, {1, 3, 2}, {2, 1, 3}, {2, 3, 1}, {3, 1, 2}, {3, 2, 1}}
	if got := impl.PermsOf(3); !slices.EqualFunc(got, want, slices.Equal) {
		t.Errorf("PermsOf(3) is %v", got)
	}
	for _, n := range []int{-1, -6, 7, 8, 9, 1 << 32, math.MaxInt, math.MinInt} {
		if got := impl.PermsOf(n); len(got) != 0 {
			t.Errorf("PermsOf(%d) has %d elements", n, len(got))
		}
	}
}

func TestPermsLeaveTheirArguments(t *testing.T) {
	lists := append(notPerms(), nil, []int{1}, []int{2, 4, 1, 3}, []int{8, 7, 6, 5, 4, 3, 2, 1}, []int{40, -7, 12})
	for _, list := range lists {
		p, q := guard(list), guard(list)
		impl.IsPerm(p.list)
		impl.PermText(p.list)
		impl.BeforePerm(p.list, q.list)
		inverse, _ := impl.InversePerm(p.list)
		spoil(inverse)
		composed, _ := impl.ComposePerm(p.list, q.list)
		spoil(composed)
		pattern, _ := impl.PatternOf(p.list)
		spoil(pattern)
		p.check(t, "a function of chapter 2")
		q.check(t, "a function of chapter 2")
	}
}

func TestPermsAreNewMemory(t *testing.T) {
	spoil(impl.IdentityPerm(4))
	checkList(t, impl.IdentityPerm(4), []int{1, 2, 3, 4}, "IdentityPerm", 4)
	parsed, _ := impl.ParsePerm("21")
	spoil(parsed)
	parsed, ok := impl.ParsePerm("21")
	checkListOK(t, parsed, ok, []int{2, 1}, true, "ParsePerm", "21")
	all := impl.PermsOf(4)
	for i, p := range all {
		spoil(p)
		for _, q := range all[i+1:] {
			if slices.Contains(q, spareNumber) {
				t.Fatalf("two permutations of PermsOf(4) share memory")
			}
		}
	}
	if got := impl.PermsOf(4); !slices.Equal(got[23], []int{4, 3, 2, 1}) || !slices.Equal(got[0], []int{1, 2, 3, 4}) {
		t.Errorf("a later PermsOf(4) is %v", got)
	}
}
