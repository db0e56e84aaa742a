package tests

import (
	"cmp"
	"slices"
	"strings"
	"testing"

	"loop.example/g03101/impl"
)

// digits reads a list of numbers with one digit each.
func digits(text string) []int {
	list := []int{}
	for _, c := range []byte(text) {
		list = append(list, int(c)-'0')
	}
	return list
}

func digitLists(texts ...string) [][]int {
	var lists [][]int
	for _, text := range texts {
		lists = append(lists, digits(text))
	}
	return lists
}

// allOfLength returns all permutations of length n, also of 7 and 8, by putting n at each place of the shorter ones.
func allOfLength(n int) [][]int {
	all := [][]int{{}}
	for v := 1; v <= n; v++ {
		var longer [][]int
		for _, p := range all {
			for at := 0; at <= len(p); at++ {
				longer = append(longer, slices.Insert(slices.Clone(p), at, v))
			}
		}
		all = longer
	}
	return all
}

// isSimpleByAll tries each part of neighboring places.
func isSimpleByAll(p []int) bool {
	for from := 1; from <= len(p); from++ {
		for to := from + 1; to <= len(p); to++ {
			if to-from+1 < len(p) && follow(p, from, to) {
				return false
			}
		}
	}
	return len(p) > 0
}

// treeCase tells all that chapter 6 says of a permutation.
type treeCase struct {
	p     string
	text  string
	root  string
	parts []string
	depth int
	roots []string
}

func treeCases() []treeCase {
	return []treeCase{
		{"1", "1", "1", []string{"1"}, 0, nil},
		{"12", "12(1 1)", "12", []string{"1", "1"}, 1, []string{"12"}},
		{"21", "21(1 1)", "21", []string{"1", "1"}, 1, []string{"21"}},
		{"123", "12(1 12(1 1))", "12", []string{"1", "12"}, 2, []string{"12"}},
		{"132", "12(1 21(1 1))", "12", []string{"1", "21"}, 2, []string{"12", "21"}},
		{"213", "12(21(1 1) 1)", "12", []string{"21", "1"}, 2, []string{"12", "21"}},
		{"231", "21(12(1 1) 1)", "21", []string{"12", "1"}, 2, []string{"12", "21"}},
		{"312", "21(1 12(1 1))", "21", []string{"1", "12"}, 2, []string{"12", "21"}},
		{"321", "21(1 21(1 1))", "21", []string{"1", "21"}, 2, []string{"21"}},
		{"2143", "12(21(1 1) 21(1 1))", "12", []string{"21", "21"}, 2, []string{"12", "21"}},
		{"3412", "21(12(1 1) 12(1 1))", "21", []string{"12", "12"}, 2, []string{"12", "21"}},
		{"3421", "21(12(1 1) 21(1 1))", "21", []string{"12", "21"}, 2, []string{"12", "21"}},
		{"21354", "12(21(1 1) 12(1 21(1 1)))", "12", []string{"21", "132"}, 3, []string{"12", "21"}},
		{"645231", "21(1 21(12(1 1) 21(12(1 1) 1)))", "21", []string{"1", "45231"}, 4, []string{"12", "21"}},
		{"34128765", "12(21(12(1 1) 12(1 1)) 21(1 21(1 21(1 1))))", "12", []string{"3412", "4321"}, 4, []string{"12", "21"}},
		{"87214365", "21(1 21(1 12(21(1 1) 12(21(1 1) 21(1 1)))))", "21", []string{"1", "7214365"}, 5, []string{"12", "21"}},
		{"2413", "2413(1 1 1 1)", "2413", []string{"1", "1", "1", "1"}, 1, []string{"2413"}},
		{"3142", "3142(1 1 1 1)", "3142", []string{"1", "1", "1", "1"}, 1, []string{"3142"}},
		{"25314", "25314(1 1 1 1 1)", "25314", []string{"1", "1", "1", "1", "1"}, 1, []string{"25314"}},
		{"24513", "2413(1 12(1 1) 1 1)", "2413", []string{"1", "12", "1", "1"}, 2, []string{"12", "2413"}},
		{"42153", "3142(1 21(1 1) 1 1)", "3142", []string{"1", "21", "1", "1"}, 2, []string{"21", "3142"}},
		{"264315", "25314(1 1 21(1 1) 1 1)", "25314", []string{"1", "1", "21", "1", "1"}, 2, []string{"21", "25314"}},
		{"43781265", "2413(21(1 1) 12(1 1) 12(1 1) 21(1 1))", "2413", []string{"21", "12", "12", "21"}, 2, []string{"12", "21", "2413"}},
		{"26574813", "2413(1 12(21(12(21(1 1) 1) 1) 1) 1 1)", "2413", []string{"1", "32415", "1", "1"}, 5, []string{"12", "21", "2413"}},
		{"38165274", "3715264(1 1 1 21(1 1) 1 1 1)", "3715264", []string{"1", "1", "1", "21", "1", "1", "1"}, 2, []string{"21", "3715264"}},
		// A root may occur in one of its own parts.
		{"3524716", "2413(2413(1 1 1 1) 1 1 1)", "2413", []string{"2413", "1", "1", "1"}, 2, []string{"2413"}},
		{"3164752", "3142(1 1 3142(1 1 1 1) 1)", "3142", []string{"1", "1", "3142", "1"}, 2, []string{"3142"}},
		{"26475813", "2413(1 12(3142(1 1 1 1) 1) 1 1)", "2413", []string{"1", "31425", "1", "1"}, 3, []string{"12", "2413", "3142"}},
		{"24135", "12(2413(1 1 1 1) 1)", "12", []string{"2413", "1"}, 2, []string{"12", "2413"}},
		{"14253", "12(1 3142(1 1 1 1))", "12", []string{"1", "3142"}, 2, []string{"12", "3142"}},
		{"53142", "21(1 3142(1 1 1 1))", "21", []string{"1", "3142"}, 2, []string{"21", "3142"}},
		{"24136857", "12(2413(1 1 1 1) 2413(1 1 1 1))", "12", []string{"2413", "2413"}, 2, []string{"12", "2413"}},
		{"75862413", "21(3142(1 1 1 1) 2413(1 1 1 1))", "21", []string{"3142", "2413"}, 2, []string{"21", "2413", "3142"}},
		{"82461357", "21(1 12(246135(1 1 1 1 1 1) 1))", "21", []string{"1", "2461357"}, 3, []string{"12", "21", "246135"}},
		{"24681357", "24681357(1 1 1 1 1 1 1 1)", "24681357", []string{"1", "1", "1", "1", "1", "1", "1", "1"}, 1, []string{"24681357"}},
	}
}

func checkSplit(t *testing.T, p []int, root []int, parts [][]int) {
	t.Helper()
	got, ok := impl.SplitPerm(p)
	if !ok || !slices.Equal(got.Root, root) || !slices.EqualFunc(got.Parts, parts, slices.Equal) {
		t.Errorf("SplitPerm(%v) is %v, %t, not %v and %v", p, got, ok, root, parts)
	}
}

func checkTree(t *testing.T, p []int, text string, depth int, roots [][]int) {
	t.Helper()
	if got := impl.TreeText(p); got != text {
		t.Errorf("TreeText(%v) is %q, not %q", p, got, text)
	}
	if got := impl.TreeDepth(p); got != depth {
		t.Errorf("TreeDepth(%v) is %d, not %d", p, got, depth)
	}
	checkPerms(t, impl.RootsIn(p), roots, "RootsIn", p)
}

func TestTreesOfCases(t *testing.T) {
	for _, c := range treeCases() {
		p := digits(c.p)
		checkSplit(t, p, digits(c.root), digitLists(c.parts...))
		checkTree(t, p, c.text, c.depth, digitLists(c.roots...))
		separable := !strings.ContainsAny(strings.Join(c.roots, ""), "3456789")
		if got := impl.IsSeparable(p); got != separable {
			t.Errorf("IsSeparable(%v) is %t", p, got)
		}
	}
}

func TestTreesReject(t *testing.T) {
	for _, p := range append(notPerms(), nil, []int{}) {
		split, ok := impl.SplitPerm(p)
		if ok || len(split.Root) != 0 || len(split.Parts) != 0 {
			t.Errorf("SplitPerm(%v) is %v, %t", p, split, ok)
		}
		checkTree(t, p, "", -1, nil)
		if got := impl.IsSeparable(p); got != (len(p) == 0) {
			t.Errorf("IsSeparable(%v) is %t", p, got)
		}
	}
}

func TestTreesOfAscendingAndDescending(t *testing.T) {
	up, down := "1", "1"
	for n := 2; n <= 8; n++ {
		up, down = "12(1 "+up+")", "21(1 "+down+")"
		ascending := digits("12345678"[:n])
		descending := slices.Clone(ascending)
		slices.Reverse(descending)
		checkSplit(t, ascending, []int{1, 2}, [][]int{{1}, ascending[:n-1]})
		checkSplit(t, descending, []int{2, 1}, [][]int{{1}, descending[1:]})
		checkTree(t, ascending, up, n-1, [][]int{{1, 2}})
		checkTree(t, descending, down, n-1, [][]int{{2, 1}})
		if !impl.IsSeparable(ascending) || !impl.IsSeparable(descending) {
			t.Errorf("%v or %v is not separable", ascending, descending)
		}
	}
}

// checkForm tells whether the split is the one that the chapter names: there is only one.
func checkForm(t *testing.T, p []int, split impl.Inflation) {
	t.Helper()
	form := isSimpleByAll(split.Root) && len(split.Root) >= 4
	switch {
	case len(p) == 1:
		form = slices.Equal(split.Root, []int{1})
	case isSumOfTwo(false, p):
		form = slices.Equal(split.Root, []int{1, 2}) && !isSumOfTwo(false, split.Parts[0])
	case isSumOfTwo(true, p):
		form = slices.Equal(split.Root, []int{2, 1}) && !isSumOfTwo(true, split.Parts[0])
	}
	if !form {
		t.Errorf("SplitPerm(%v) is %v", p, split)
	}
}

// TestPermIsTheInflationOfItsRoot is promise 6.
func TestPermIsTheInflationOfItsRoot(t *testing.T) {
	for n := 1; n <= 8; n++ {
		for _, p := range allOfLength(n) {
			split, ok := impl.SplitPerm(p)
			inflated, fine := impl.InflateBy(split.Root, split.Parts)
			if !ok || !fine || !slices.Equal(inflated, p) {
				t.Fatalf("SplitPerm(%v) is %v, %t, which inflates to %v", p, split, ok, inflated)
			}
			checkForm(t, p, split)
		}
	}
}

func TestNumbersOfRoots(t *testing.T) {
	sums := []int{0, 1, 3, 11, 49, 259, 1593, 11227}
	simples := []int{0, 0, 0, 2, 6, 46, 338, 2926}
	for n := 1; n <= 8; n++ {
		up, down, own := 0, 0, 0
		for _, p := range allOfLength(n) {
			split, _ := impl.SplitPerm(p)
			switch {
			case n > 1 && slices.Equal(split.Root, []int{1, 2}):
				up++
			case n > 1 && slices.Equal(split.Root, []int{2, 1}):
				down++
			case n > 1 && len(split.Root) == n:
				own++
			}
		}
		if up != sums[n-1] || down != sums[n-1] || n > 2 && own != simples[n-1] {
			t.Errorf("of length %d, %d have the root 12, %d the root 21 and %d themselves", n, up, down, own)
		}
	}
}

func TestSimplePermsAreTheirOwnRoots(t *testing.T) {
	for n := 4; n <= 8; n++ {
		text := "(1" + strings.Repeat(" 1", n-1) + ")"
		for _, p := range allOfLength(n) {
			if !isSimpleByAll(p) {
				continue
			}
			checkSplit(t, p, p, onesFor(p))
			checkTree(t, p, impl.PermText(p)+text, 1, [][]int{p})
			if impl.IsSeparable(p) {
				t.Errorf("IsSeparable(%v) is true", p)
			}
		}
	}
}

// listsWith returns all lists of count permutations that are not empty, of at most n numbers together.
func listsWith(count int, n int) [][][]int {
	if count == 0 {
		return [][][]int{{}}
	}
	var lists [][][]int
	for k := 1; k <= n-(count-1); k++ {
		for _, part := range allOfLength(k) {
			for _, rest := range listsWith(count-1, n-k) {
				lists = append(lists, append([][]int{part}, rest...))
			}
		}
	}
	return lists
}

// TestInflationsAreSplitAgain is the other direction of promise 6.
func TestInflationsAreSplitAgain(t *testing.T) {
	for n := 4; n <= 7; n++ {
		lists := listsWith(n, 8)
		for _, root := range allOfLength(n) {
			if !isSimpleByAll(root) {
				continue
			}
			for _, parts := range lists {
				p, ok := impl.InflateBy(root, parts)
				if !ok {
					t.Fatalf("InflateBy(%v, %v) is false", root, parts)
				}
				checkSplit(t, p, root, parts)
			}
		}
	}
}

func TestSumsAreSplitAgain(t *testing.T) {
	for _, skew := range []bool{false, true} {
		root := []int{1, 2}
		if skew {
			root = []int{2, 1}
		}
		for _, parts := range listsWith(2, 7) {
			if !isSumOfTwo(skew, parts[0]) {
				checkSplit(t, sumOf(skew, parts[0], parts[1]), root, parts)
			}
		}
	}
}

// toldTree is what a text tells of a tree.
type toldTree struct {
	p     []int
	own   string
	depth int
	roots [][]int
}

// readTree reads the tree with which a text begins, and returns the rest of the text, too.
func readTree(t *testing.T, text string) (toldTree, string) {
	t.Helper()
	end := strings.IndexAny(text+" ", "( )")
	told := toldTree{own: text[:end]}
	rest := text[end:]
	root := digits(told.own)
	if told.own == "1" {
		told.p = root
		return told, rest
	}
	if !isSimpleByAll(root) || !impl.IsPerm(root) {
		t.Fatalf("%q begins with no root", text)
	}
	told.roots = append(told.roots, root)
	var parts [][]int
	for i := range root {
		between := "( "[min(i, 1)]
		if rest == "" || rest[0] != between {
			t.Fatalf("%q has no %q before part %d", text, between, i)
		}
		var part toldTree
		part, rest = readTree(t, rest[1:])
		if i == 0 && len(root) == 2 && part.own == told.own {
			t.Errorf("the first part of %q is a sum in the same way", text)
		}
		parts = append(parts, part.p)
		told.depth = max(told.depth, part.depth+1)
		told.roots = append(told.roots, part.roots...)
	}
	if rest == "" || rest[0] != ')' {
		t.Fatalf("%q has no end behind its parts", text)
	}
	told.p, _ = impl.InflateBy(root, parts)
	return told, rest[1:]
}

func TestTreesAreReadAgain(t *testing.T) {
	for n := 1; n <= 8; n++ {
		for _, p := range allOfLength(n) {
			text := impl.TreeText(p)
			told, rest := readTree(t, text)
			if rest != "" || !slices.Equal(told.p, p) {
				t.Fatalf("TreeText(%v) is %q, which tells %v", p, text, told.p)
			}
			slices.SortFunc(told.roots, func(a []int, b []int) int {
				return cmp.Or(len(a)-len(b), slices.Compare(a, b))
			})
			checkTree(t, p, text, told.depth, slices.CompactFunc(told.roots, slices.Equal))
		}
	}
}

func TestDepthIsMoreThanThatOfTheParts(t *testing.T) {
	for _, p := range append(permsUpTo(6)[2:], longPerms()...) {
		split, _ := impl.SplitPerm(p)
		greatest := -1
		for _, part := range split.Parts {
			greatest = max(greatest, impl.TreeDepth(part))
		}
		if got := impl.TreeDepth(p); got != greatest+1 {
			t.Errorf("TreeDepth(%v) is %d, but that of a part %d", p, got, greatest)
		}
	}
}

// hasSome tells by each choice of four places whether p has one of two patterns.
func hasSome(p []int, patterns [2][]int) bool {
	for choice := range 1 << len(p) {
		var numbers []int
		for i, v := range p {
			if choice>>i&1 == 1 {
				numbers = append(numbers, v)
			}
		}
		if len(numbers) != 4 {
			continue
		}
		got, _ := impl.PatternOf(numbers)
		if slices.Equal(got, patterns[0]) || slices.Equal(got, patterns[1]) {
			return true
		}
	}
	return false
}

func TestIsSeparable(t *testing.T) {
	for _, p := range digitLists("", "1", "12", "21", "2143", "3412", "21354", "645231", "34128765", "87214365", "12345678", "87654321") {
		if !impl.IsSeparable(p) {
			t.Errorf("IsSeparable(%v) is false", p)
		}
	}
	for _, p := range digitLists("2413", "3142", "24135", "24513", "14253", "53142", "26574813", "24136857", "82461357", "38165274") {
		if impl.IsSeparable(p) {
			t.Errorf("IsSeparable(%v) is true", p)
		}
	}
	simple := [2][]int{{2, 4, 1, 3}, {3, 1, 4, 2}}
	for n, want := range []int{1, 1, 2, 6, 22, 90, 394, 1806, 8558} {
		got := 0
		for _, p := range allOfLength(n) {
			separable := impl.IsSeparable(p)
			if separable {
				got++
			}
			if n <= 7 && separable == hasSome(p, simple) {
				t.Errorf("IsSeparable(%v) is %t", p, separable)
			}
		}
		if got != want {
			t.Errorf("%d separable permutations have length %d, not %d", got, n, want)
		}
	}
}

// inflationsAround returns inflations of which any two differ, however little; many are not of any permutation.
func inflationsAround() []impl.Inflation {
	return []impl.Inflation{
		{},
		{Root: []int{0}},
		{Root: []int{1}},
		{Root: []int{1, 0}},
		{Root: []int{1, 2}},
		{Root: []int{2, 1}},
		{Root: []int{1, 2, 3}},
		{Parts: [][]int{{}}},
		{Parts: [][]int{{}, {}}},
		{Parts: [][]int{{0}}},
		{Parts: [][]int{{1}}},
		{Parts: [][]int{{1}, {}}},
		{Parts: [][]int{{}, {1}}},
		{Root: []int{1}, Parts: [][]int{{}}},
		{Root: []int{1}, Parts: [][]int{{1}}},
		{Root: []int{1}, Parts: [][]int{{1, 2}}},
		{Root: []int{1}, Parts: [][]int{{2, 1}}},
		{Root: []int{1, 2}, Parts: [][]int{{1}}},
		{Root: []int{1, 2}, Parts: [][]int{{1}, {1}}},
		{Root: []int{2, 1}, Parts: [][]int{{1}, {1}}},
		{Root: []int{1, 2}, Parts: [][]int{{1}, {2}}},
		{Root: []int{1, 2}, Parts: [][]int{{2}, {1}}},
		{Root: []int{1, 2}, Parts: [][]int{{1}, {1}, {}}},
		{Root: []int{1, 2}, Parts: [][]int{{1}, {1}, {1}}},
		{Root: []int{1, 2}, Parts: [][]int{{1}, {1, 2}}},
		{Root: []int{1, 2}, Parts: [][]int{{1, 2}, {1}}},
		{Root: []int{1, 2}, Parts: [][]int{{1, 2, 1}}},
		{Root: []int{-1, 1 << 40}, Parts: [][]int{{1}, {1, 2}}},
		{Root: []int{1, 2, 3, 4, 5, 6, 7, 8, 9}, Parts: [][]int{{1, 2, 3, 4, 5, 6, 7, 8, 9, 10}}},
		{Root: []int{1, 2, 3, 4, 5, 6, 7, 8, 9}, Parts: [][]int{{1, 2, 3, 4, 5, 6, 7, 8, 9, 11}}},
	}
}

func TestEqualInflation(t *testing.T) {
	for i, a := range inflationsAround() {
		for j, b := range inflationsAround() {
			if got := impl.EqualInflation(a, b); got != (i == j) {
				t.Errorf("EqualInflation(%v, %v) is %t", a, b, got)
			}
		}
	}
}

func TestEqualInflationOfNilAndEmpty(t *testing.T) {
	same := []struct{ a, b impl.Inflation }{
		{impl.Inflation{}, impl.Inflation{Root: []int{}, Parts: [][]int{}}},
		{impl.Inflation{Root: []int{}}, impl.Inflation{Parts: [][]int{}}},
		{impl.Inflation{Root: []int{1}}, impl.Inflation{Root: []int{1}, Parts: [][]int{}}},
		{impl.Inflation{Parts: [][]int{nil}}, impl.Inflation{Root: []int{}, Parts: [][]int{{}}}},
		{impl.Inflation{Parts: [][]int{nil, {1}, {}}}, impl.Inflation{Parts: [][]int{{}, {1}, nil}}},
	}
	for _, c := range same {
		if !impl.EqualInflation(c.a, c.b) || !impl.EqualInflation(c.b, c.a) {
			t.Errorf("%#v and %#v are not equal", c.a, c.b)
		}
	}
	differ := []struct{ a, b impl.Inflation }{
		{impl.Inflation{}, impl.Inflation{Parts: [][]int{nil}}},
		{impl.Inflation{Parts: [][]int{}}, impl.Inflation{Parts: [][]int{{}}}},
		{impl.Inflation{Parts: [][]int{nil}}, impl.Inflation{Parts: [][]int{nil, nil}}},
		{impl.Inflation{Parts: [][]int{nil, {1}}}, impl.Inflation{Parts: [][]int{{1}, nil}}},
		{impl.Inflation{Root: []int{}}, impl.Inflation{Root: []int{0}}},
	}
	for _, c := range differ {
		if impl.EqualInflation(c.a, c.b) || impl.EqualInflation(c.b, c.a) {
			t.Errorf("%#v and %#v are equal", c.a, c.b)
		}
	}
}

func TestEqualInflationOfSplits(t *testing.T) {
	all := permsUpTo(4)
	for _, p := range all {
		for _, q := range all {
			a, _ := impl.SplitPerm(p)
			b, _ := impl.SplitPerm(q)
			if got := impl.EqualInflation(a, b); got != slices.Equal(p, q) {
				t.Errorf("EqualInflation of the splits of %v and %v is %t", p, q, got)
			}
		}
	}
}

func spoilInflation(x impl.Inflation) {
	spoil(x.Root)
	for _, part := range x.Parts {
		spoil(part)
	}
}

func TestTreesLeaveTheirArguments(t *testing.T) {
	for _, list := range append(notPerms(), nil, []int{1}, []int{2, 1}, digits("2413"), digits("24513"), digits("645231"), digits("26574813"), digits("38165274")) {
		p := guard(list)
		split, _ := impl.SplitPerm(p.list)
		spoilInflation(split)
		impl.TreeText(p.list)
		impl.TreeDepth(p.list)
		for _, root := range impl.RootsIn(p.list) {
			spoil(root)
		}
		impl.IsSeparable(p.list)
		p.check(t, "a function of chapter 6")
	}
}

func TestEqualInflationLeavesItsArguments(t *testing.T) {
	root, part, other := guard([]int{2, 1}), guard([]int{1, 3, 2}), guard([]int{1, 3})
	parts := [][]int{part.list, part.list, other.list}
	a := impl.Inflation{Root: root.list, Parts: parts[:2]}
	for _, b := range []impl.Inflation{a, {}, {Root: root.list, Parts: parts}, {Root: root.list, Parts: parts[1:]}, {Root: part.list, Parts: parts[:1]}} {
		impl.EqualInflation(a, b)
		impl.EqualInflation(b, a)
		root.check(t, "EqualInflation")
		part.check(t, "EqualInflation")
		other.check(t, "EqualInflation")
		checkPerms(t, parts, digitLists("132", "132", "13"), "the argument of EqualInflation")
	}
}

func TestTreesAreNewMemory(t *testing.T) {
	for _, c := range treeCases() {
		p, root, parts := digits(c.p), digits(c.root), digitLists(c.parts...)
		split, _ := impl.SplitPerm(p)
		spoil(split.Root)
		for i, part := range split.Parts {
			checkPerms(t, split.Parts[i:], parts[i:], "the later parts of", p)
			spoil(part)
		}
		split, _ = impl.SplitPerm(p)
		for _, part := range split.Parts {
			spoil(part)
		}
		checkList(t, split.Root, root, "the root of", p)
		checkSplit(t, p, root, parts)
		roots := digitLists(c.roots...)
		found := impl.RootsIn(p)
		for i, root := range found {
			spoil(root)
			checkPerms(t, found[i+1:], roots[i+1:], "the later roots in", p)
		}
		checkPerms(t, impl.RootsIn(p), roots, "the roots, found again, in", p)
	}
}
