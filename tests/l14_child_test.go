package tests

import (
	"runtime"
	"slices"
	"testing"
	"time"

	"loop.example/g03101/impl"
)

// childByAll fills the places one after the other.
func childByAll(p []int, site int) []int {
	child := make([]int, len(p)+1)
	for at := range child {
		switch {
		case at < site:
			child[at] = p[at]
		case at == site:
			child[at] = len(child)
		default:
			child[at] = p[at-1]
		}
	}
	return child
}

// parentByAll leaves out the number that no other one exceeds.
func parentByAll(p []int) []int {
	var parent []int
	for _, v := range p {
		if v < len(p) {
			parent = append(parent, v)
		}
	}
	return parent
}

// activeByAll tries all sites of a permutation in the class.
func activeByAll(basis [][]int, p []int) []int {
	var sites []int
	for site := 0; site <= len(p); site++ {
		if inClassByAll(basis, childByAll(p, site)) {
			sites = append(sites, site)
		}
	}
	return sites
}

func childrenAt(p []int, sites []int) [][]int {
	var children [][]int
	for _, site := range sites {
		children = append(children, childByAll(p, site))
	}
	return children
}

func checkChild(t *testing.T, p []int, site int, want []int, wantOK bool) {
	t.Helper()
	got, ok := impl.ChildAt(p, site)
	checkListOK(t, got, ok, want, wantOK, "ChildAt", p, site)
}

func checkParent(t *testing.T, p []int, want []int, wantOK bool) {
	t.Helper()
	got, ok := impl.ParentOf(p)
	checkListOK(t, got, ok, want, wantOK, "ParentOf", p)
}

// checkSites compares the active sites, and the children at them.
func checkSites(t *testing.T, basis [][]int, p []int, want []int) {
	t.Helper()
	checkList(t, impl.ActiveSites(basis, p), want, "ActiveSites", basis, p)
	checkPerms(t, impl.ChildrenOf(basis, p), childrenAt(p, want), "ChildrenOf", basis, p)
}

func checkLeaves(t *testing.T, basis [][]int, n int, want int) {
	t.Helper()
	checkNumber(t, impl.LeafCount(basis, n), want, "LeafCount", basis, n)
}

func TestChildAt(t *testing.T) {
	cases := []struct {
		p    string
		want []string
	}{
		{"", []string{"1"}},
		{"1", []string{"21", "12"}},
		{"12", []string{"312", "132", "123"}},
		{"21", []string{"321", "231", "213"}},
		{"132", []string{"4132", "1432", "1342", "1324"}},
		{"2413", []string{"52413", "25413", "24513", "24153", "24135"}},
		{"1234567", []string{"81234567", "18234567", "12834567", "12384567", "12348567", "12345867", "12345687", "12345678"}},
		{"7654321", []string{"87654321", "78654321", "76854321", "76584321", "76548321", "76543821", "76543281", "76543218"}},
		{"3715264", []string{"83715264", "38715264", "37815264", "37185264", "37158264", "37152864", "37152684", "37152648"}},
	}
	for _, c := range cases {
		p := digits(c.p)
		for site, want := range c.want {
			checkChild(t, p, site, digits(want), true)
		}
		for _, site := range []int{-2, -1, len(p) + 1, len(p) + 2} {
			checkChild(t, p, site, nil, false)
		}
	}
}

func TestChildAtEachSite(t *testing.T) {
	for n := 0; n < impl.MaxLen; n++ {
		for _, p := range allOfLength(n) {
			for site := 0; site <= n; site++ {
				checkChild(t, p, site, childByAll(p, site), true)
			}
			checkChild(t, p, -1, nil, false)
			checkChild(t, p, n+1, nil, false)
		}
	}
}

func TestChildAtOfTheGreatestLength(t *testing.T) {
	for _, p := range longPerms() {
		for site := -1; site <= impl.MaxLen+2; site++ {
			if len(p) == impl.MaxLen || site < 0 || site > len(p) {
				checkChild(t, p, site, nil, false)
			} else {
				checkChild(t, p, site, childByAll(p, site), true)
			}
		}
	}
}

func TestChildAtRejects(t *testing.T) {
	for _, wrong := range notPerms() {
		for site := -1; site <= 9; site++ {
			checkChild(t, wrong, site, nil, false)
		}
	}
	for _, p := range append(permsUpTo(3), longPerms()...) {
		for _, site := range append(numbersAround(), 9, 10) {
			checkChild(t, p, site, nil, false)
		}
	}
}

func TestParentOf(t *testing.T) {
	cases := []struct{ p, want string }{
		{"1", ""},
		{"12", "1"},
		{"21", "1"},
		{"231", "21"},
		{"213", "21"},
		{"321", "21"},
		{"2413", "213"},
		{"3142", "312"},
		{"52413", "2413"},
		{"12345678", "1234567"},
		{"87654321", "7654321"},
		{"38165274", "3165274"},
		{"24681357", "2461357"},
	}
	for _, c := range cases {
		checkParent(t, digits(c.p), digits(c.want), true)
	}
}

func TestParentOfAll(t *testing.T) {
	for n := 1; n <= impl.MaxLen; n++ {
		for _, p := range allOfLength(n) {
			checkParent(t, p, parentByAll(p), true)
		}
	}
}

func TestParentOfRejects(t *testing.T) {
	checkParent(t, nil, nil, false)
	checkParent(t, []int{}, nil, false)
	for _, wrong := range notPerms() {
		checkParent(t, wrong, nil, false)
	}
}

// TestParentTurnsTheChildBack tries every site of every permutation that has children.
func TestParentTurnsTheChildBack(t *testing.T) {
	for n := 0; n < impl.MaxLen; n++ {
		for _, p := range allOfLength(n) {
			for site := 0; site <= n; site++ {
				child, ok := impl.ChildAt(p, site)
				checkTruth(t, ok, true, "whether there is ChildAt", p, site)
				checkParent(t, child, p, true)
			}
		}
	}
}

func TestChildTurnsTheParentBack(t *testing.T) {
	for n := 1; n <= impl.MaxLen; n++ {
		for _, p := range allOfLength(n) {
			parent, ok := impl.ParentOf(p)
			checkTruth(t, ok, true, "whether there is ParentOf", p)
			checkChild(t, parent, slices.Index(p, n), p, true)
		}
	}
}

func TestActiveSites(t *testing.T) {
	cases := []struct {
		basis, p string
		want     []int
	}{
		// The empty permutation and its only child.
		{"", "", []int{0}},
		{"1", "", nil},
		{"12", "", []int{0}},
		{"12 21", "", []int{0}},
		{"12345678", "", []int{0}},
		{"", "1", []int{0, 1}},
		{"12", "1", []int{0}},
		{"21", "1", []int{1}},
		{"12 21", "1", nil},
		{"231", "1", []int{0, 1}},
		{"12", "21", []int{0}},
		{"12", "4321", []int{0}},
		{"21", "123", []int{3}},
		{"231", "21", []int{0, 2}},
		{"231", "12", []int{0, 1, 2}},
		{"231", "123", []int{0, 1, 2, 3}},
		{"231", "321", []int{0, 3}},
		{"231", "2143", []int{0, 2, 4}},
		{"132", "12", []int{0, 2}},
		{"132", "21", []int{0, 1, 2}},
		{"321", "21", []int{1, 2}},
		{"321", "2143", []int{3, 4}},
		{"12 321", "1", []int{0}},
		{"12 321", "21", nil},
		{"123 321", "132", nil},
		{"123 321", "213", []int{1, 2}},
		{"123 321", "2143", nil},
		{"123 321", "2413", nil},
		{"132 213 231 312", "12", []int{2}},
		{"132 213 231 312", "21", []int{0}},
		{"2413 3142", "2143", []int{0, 2, 3, 4}},
		{"2413 3142", "213", []int{0, 2, 3}},
		{"3142", "213", []int{0, 1, 2, 3}},
		{"", "1234567", countUp(0, 7)},
		{"", "3715264", countUp(0, 7)},
		{"12345678", "1234567", countUp(0, 6)},
		{"87654321", "7654321", countUp(1, 7)},
		{"38165274", "3165274", []int{0, 2, 3, 4, 5, 6, 7}},
		{"12345678", "7654321", countUp(0, 7)},
		{"12", "7654321", []int{0}},
		{"21", "1234567", []int{7}},
		{"7654321 12345678", "1234567", countUp(0, 6)},
		// A permutation of MaxLen has no children.
		{"", "12345678", nil},
		{"12", "87654321", nil},
		// These are not in the class.
		{"1", "1", nil},
		{"231", "231", nil},
		{"231", "2413", nil},
		{"12", "123", nil},
		{"12 21", "21", nil},
		{"12345678", "12345678", nil},
	}
	for _, c := range cases {
		checkSites(t, listOf(c.basis), digits(c.p), c.want)
	}
}

// TestSitesByAll tries all sites; the lists that are no permutation of the class have none.
func TestSitesByAll(t *testing.T) {
	for _, basis := range append(someBases(), shortBases()...) {
		for _, p := range append(permsUpTo(4), longPerms()...) {
			if len(p) < impl.MaxLen && inClassByAll(basis, p) {
				checkSites(t, basis, p, activeByAll(basis, p))
			} else {
				checkSites(t, basis, p, nil)
			}
		}
	}
	for _, basis := range fewBases() {
		for _, p := range impl.PermsOf(5) {
			if inClassByAll(basis, p) {
				checkSites(t, basis, p, activeByAll(basis, p))
			} else {
				checkSites(t, basis, p, nil)
			}
		}
	}
}

// TestSitesOfAllSomeAndNone finds permutations of one class with each kind of sites.
func TestSitesOfAllSomeAndNone(t *testing.T) {
	basis := listOf("123 132 231 312")
	found := map[string]int{}
	for _, p := range permsUpTo(5) {
		if !impl.InClass(basis, p) {
			continue
		}
		switch len(impl.ActiveSites(basis, p)) {
		case 0:
			found["none"]++
		case len(p) + 1:
			found["all"]++
		default:
			found["some"]++
		}
	}
	for _, kind := range []string{"all", "some", "none"} {
		checkTruth(t, found[kind] > 0, true, "whether a permutation has active sites: ", kind)
	}
}

// TestSitesWithoutABasis has all sites, and so has a basis whose elements are longer than every child.
func TestSitesWithoutABasis(t *testing.T) {
	for _, p := range append(permsUpTo(6), longPerms()[:3]...) {
		all := countUp(0, len(p))
		checkSites(t, nil, p, all)
		checkSites(t, [][]int{}, p, all)
		if len(p) < 7 {
			checkSites(t, listOf("12345678"), p, all)
			checkSites(t, listOf("38165274 87654321"), p, all)
		}
		if len(p) < 6 {
			checkSites(t, listOf("7654321 12345678"), p, all)
		}
		checkSites(t, listOf("1"), p, nil)
	}
}

// TestChildrenByInClass compares with InClass at ChildAt of every site, in the order of the sites.
func TestChildrenByInClass(t *testing.T) {
	for _, basis := range append(someBases(), shortBases()...) {
		for _, p := range append(permsUpTo(4), longPerms()...) {
			var sites []int
			var children [][]int
			for site := 0; site <= len(p); site++ {
				child, ok := impl.ChildAt(p, site)
				if ok && impl.InClass(basis, p) && impl.InClass(basis, child) {
					sites = append(sites, site)
					children = append(children, child)
				}
			}
			checkList(t, impl.ActiveSites(basis, p), sites, "ActiveSites", basis, p)
			checkPerms(t, impl.ChildrenOf(basis, p), children, "ChildrenOf", basis, p)
		}
	}
}

// TestEachPermIsOneChild finds every permutation of a class once among the children of those that are shorter by one.
func TestEachPermIsOneChild(t *testing.T) {
	for _, basis := range append(someBases(), shortBases()...) {
		for n := 0; n <= 4; n++ {
			var children [][]int
			for _, p := range impl.ClassOf(basis, n) {
				for _, child := range impl.ChildrenOf(basis, p) {
					checkParent(t, child, p, true)
					children = append(children, child)
				}
			}
			slices.SortFunc(children, byLength)
			checkPerms(t, children, classByAll(basis, n+1), "all ChildrenOf", basis, n)
		}
	}
}

func TestLevelSizes(t *testing.T) {
	cases := []struct {
		basis string
		want  []int
	}{
		{"", []int{1, 1, 2, 6, 24, 120, 720}},
		{"12345678", []int{1, 1, 2, 6, 24, 120, 720}},
		{"123456", []int{1, 1, 2, 6, 24, 120, 719}},
		{"1", []int{1, 0, 0, 0, 0, 0, 0}},
		{"12", []int{1, 1, 1, 1, 1, 1, 1}},
		{"21", []int{1, 1, 1, 1, 1, 1, 1}},
		{"12 21", []int{1, 1, 0, 0, 0, 0, 0}},
		{"12 321", []int{1, 1, 1, 0, 0, 0, 0}},
		{"12 87654321", []int{1, 1, 1, 1, 1, 1, 1}},
		{"123 321", []int{1, 1, 2, 4, 4, 0, 0}},
		{"123 132 213 231 312 321", []int{1, 1, 2, 0, 0, 0, 0}},
		{"132 213 231 312", []int{1, 1, 2, 2, 2, 2, 2}},
		{"123", []int{1, 1, 2, 5, 14, 42, 132}},
		{"231", []int{1, 1, 2, 5, 14, 42, 132}},
		{"132 231", []int{1, 1, 2, 4, 8, 16, 32}},
		{"132 321", []int{1, 1, 2, 4, 7, 11, 16}},
		{"231 312 321", []int{1, 1, 2, 3, 5, 8, 13}},
		{"2413 3142", []int{1, 1, 2, 6, 22, 90, 394}},
		{"2143 3412", []int{1, 1, 2, 6, 22, 86, 340}},
		{"1342", []int{1, 1, 2, 6, 23, 103, 512}},
		{"1324", []int{1, 1, 2, 6, 23, 103, 513}},
	}
	for _, c := range cases {
		for n := 0; n <= 6; n++ {
			checkList(t, impl.LevelSizes(listOf(c.basis), n), c.want[:n+1], "LevelSizes", c.basis, n)
		}
	}
}

// TestLevelsHaveAsManyAsTheClass is promise 14.
func TestLevelsHaveAsManyAsTheClass(t *testing.T) {
	for _, basis := range append(someBases(), shortBases()...) {
		for n := 0; n <= 6; n++ {
			checkList(t, impl.LevelSizes(basis, n), impl.ClassCounts(basis, n), "LevelSizes", basis, n)
		}
	}
}

// TestLevelsByAll goes down the children, and counts the permutations of the class without the functions under test.
func TestLevelsByAll(t *testing.T) {
	for _, basis := range someBases() {
		level := [][]int{{}}
		var want []int
		for n := 0; n <= 5; n++ {
			want = append(want, len(classByAll(basis, n)))
			checkNumber(t, len(level), want[n], "the level below the empty permutation", basis, n)
			checkList(t, impl.LevelSizes(basis, n), want, "LevelSizes", basis, n)
			var next [][]int
			for _, p := range level {
				next = append(next, impl.ChildrenOf(basis, p)...)
			}
			level = next
		}
	}
}

func TestLeafCount(t *testing.T) {
	cases := []struct {
		basis string
		want  [7]int
	}{
		{"", [7]int{}},
		{"12345678", [7]int{}},
		{"1", [7]int{1}},
		{"12", [7]int{}},
		{"231", [7]int{}},
		{"12 21", [7]int{0, 1}},
		{"12 321", [7]int{0, 0, 1}},
		{"21 123", [7]int{0, 0, 1}},
		{"12 54321", [7]int{0, 0, 0, 0, 1}},
		{"12 7654321", [7]int{0, 0, 0, 0, 0, 0, 1}},
		{"12 87654321", [7]int{}},
		{"123 321", [7]int{0, 0, 0, 2, 4}},
		{"123 132 213 231 312 321", [7]int{0, 0, 2}},
		{"132 213 231 312", [7]int{}},
		{"123 132 231 312", [7]int{0, 0, 1, 1, 1, 1, 1}},
		{"132 213 231 312 321", [7]int{0, 0, 1}},
	}
	for _, c := range cases {
		for n, want := range c.want {
			checkLeaves(t, listOf(c.basis), n, want)
		}
	}
}

// TestLeavesByParents takes the permutations that are no parent of a longer one in the class.
func TestLeavesByParents(t *testing.T) {
	leaves := func(bases [][][]int, n int) {
		longer := allOfLength(n + 1)
		for _, basis := range bases {
			class := classByAll(basis, n)
			parents := map[string]bool{}
			for _, p := range longer {
				if parent := parentByAll(p); !parents[impl.PermText(parent)] && inClassByAll(basis, p) {
					parents[impl.PermText(parent)] = true
				}
			}
			checkLeaves(t, basis, n, len(class)-len(parents))
		}
	}
	for n := 0; n <= 4; n++ {
		leaves(append(someBases(), shortBases()...), n)
	}
	leaves(fewBases(), 5)
	leaves([][][]int{listOf("12 7654321"), listOf("123 2143 3412"), listOf("123 132 231 312"), listOf("2413 3142")}, 6)
}

func TestLeavesByActiveSites(t *testing.T) {
	for _, basis := range append(someBases(), shortBases()...) {
		for n := 0; n <= 5; n++ {
			leaves := 0
			for _, p := range impl.PermsOf(n) {
				if impl.InClass(basis, p) && len(impl.ActiveSites(basis, p)) == 0 {
					leaves++
				}
			}
			checkLeaves(t, basis, n, leaves)
		}
	}
}

// TestLeavesOfFiniteClasses takes the last length at which a class has permutations: there, all are leaves.
func TestLeavesOfFiniteClasses(t *testing.T) {
	for _, basis := range append(someBases(), shortBases()...) {
		if !impl.IsFinite(basis) {
			continue
		}
		counts := impl.ClassCounts(basis, 6)
		for n := range 6 {
			if counts[n+1] == 0 {
				checkLeaves(t, basis, n, counts[n])
			}
		}
	}
}

func TestChildrenRejectLists(t *testing.T) {
	for _, wrong := range notBases() {
		for _, p := range append(permsUpTo(3), longPerms()...) {
			checkSites(t, wrong, p, nil)
		}
		for _, p := range notPerms() {
			checkList(t, impl.ActiveSites(wrong, p), nil, "ActiveSites", wrong, p)
			checkPerms(t, impl.ChildrenOf(wrong, p), nil, "ChildrenOf", wrong, p)
		}
		for _, n := range append(numbersAround(), -1, 0, 1, 4, 6, 7) {
			checkList(t, impl.LevelSizes(wrong, n), nil, "LevelSizes", wrong, n)
			checkLeaves(t, wrong, n, -1)
		}
	}
}

func TestChildrenRejectPerms(t *testing.T) {
	for _, basis := range someBases() {
		for _, wrong := range notPerms() {
			checkList(t, impl.ActiveSites(basis, wrong), nil, "ActiveSites", basis, wrong)
			checkPerms(t, impl.ChildrenOf(basis, wrong), nil, "ChildrenOf", basis, wrong)
		}
		for _, p := range basis {
			checkSites(t, basis, p, nil)
		}
	}
}

func TestChildrenRejectNumbers(t *testing.T) {
	for _, basis := range someBases() {
		for _, n := range append(numbersAround(), 7, 8, 9) {
			checkList(t, impl.LevelSizes(basis, n), nil, "LevelSizes", basis, n)
			checkLeaves(t, basis, n, -1)
		}
	}
	// The limits themselves are accepted.
	checkNumber(t, len(impl.LevelSizes(nil, 6)), 7, "the number of LevelSizes", 6)
	checkNumber(t, len(impl.LevelSizes(listOf("1"), 0)), 1, "the number of LevelSizes", 0)
	checkLeaves(t, nil, 6, 0)
	checkLeaves(t, listOf("1"), 0, 1)
}

func TestChildrenLeaveTheirArguments(t *testing.T) {
	lists := append(fewBases(), listOf("321 12"), listOf("1 12"), [][]int{{}, {1}}, [][]int{{2, 2}}, impl.PermsOf(4)[:8], impl.PermsOf(4)[:9])
	for _, list := range lists {
		g := guardLists(list)
		for _, p := range append(digitLists("", "1", "21", "213", "2413", "22", "1234567"), longPerms()...) {
			alone := guard(p)
			for site := -1; site <= len(p)+1; site++ {
				child, _ := impl.ChildAt(alone.list, site)
				spoil(child)
			}
			parent, _ := impl.ParentOf(alone.list)
			spoil(parent)
			spoil(impl.ActiveSites(g.lists, alone.list))
			spoilAll(impl.ChildrenOf(g.lists, alone.list))
			alone.check(t, "a function of chapter 14")
		}
		for _, n := range []int{-1, 0, 1, 3, 4, 7} {
			spoil(impl.LevelSizes(g.lists, n))
			impl.LeafCount(g.lists, n)
		}
		if len(g.lists) > 0 {
			// The same memory in both arguments.
			spoil(impl.ActiveSites(g.lists, g.lists[0][:0]))
			spoilAll(impl.ChildrenOf(g.lists, g.lists[0][:0]))
		}
		g.check(t, "a function of chapter 14")
	}
}

func TestChildrenAreNewMemory(t *testing.T) {
	for _, basis := range fewBases() {
		for _, p := range append(permsUpTo(3), longPerms()...) {
			checkNewMemory(t, "ChildrenOf", func() [][]int { return impl.ChildrenOf(basis, p) })
			checkNewMemory(t, "ActiveSites", func() [][]int { return [][]int{impl.ActiveSites(basis, p), impl.ActiveSites(basis, p)} })
		}
		checkNewMemory(t, "LevelSizes", func() [][]int { return [][]int{impl.LevelSizes(basis, 3), impl.LevelSizes(basis, 4)} })
	}
	for _, p := range append(permsUpTo(3), longPerms()...) {
		checkNewMemory(t, "ParentOf and ChildAt", func() [][]int {
			parent, _ := impl.ParentOf(p)
			first, _ := impl.ChildAt(p, 0)
			last, _ := impl.ChildAt(p, len(p))
			return [][]int{parent, first, last}
		})
	}
}

// TestChildrenEndTheirSenders leaves nothing running behind the calls.
func TestChildrenEndTheirSenders(t *testing.T) {
	before := runtime.NumGoroutine()
	for _, basis := range someBases() {
		for _, p := range append(permsUpTo(4), longPerms()...) {
			impl.ActiveSites(basis, p)
			impl.ChildrenOf(basis, p)
		}
		impl.LevelSizes(basis, 4)
		impl.LeafCount(basis, 4)
	}
	// A sender that has closed its channel may still be counted for a moment.
	for range 1000 {
		if runtime.NumGoroutine() <= before {
			return
		}
		time.Sleep(time.Millisecond)
	}
	t.Errorf("%d goroutines are left", runtime.NumGoroutine()-before)
}
