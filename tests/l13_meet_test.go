package tests

import (
	"slices"
	"testing"

	"loop.example/g03101/impl"
)

// shortBases returns all bases of permutations up to length 3.
func shortBases() [][][]int {
	var bases [][][]int
	perms := permsUpTo(3)[1:]
	for bits := range 1 << len(perms) {
		var list [][]int
		for i, p := range perms {
			if bits>>i&1 == 1 {
				list = append(list, p)
			}
		}
		if isBasisByAll(list) {
			bases = append(bases, list)
		}
	}
	return bases
}

// fewBases lists bases of each kind, for what is slow.
func fewBases() [][][]int {
	var bases [][][]int
	for _, text := range []string{
		"", "1", "12", "21", "12 21", "231", "321", "12 321", "123 321", "132 231", "2413 3142", "2143 3412", "25314", "7654321 12345678", "231 312 321",
	} {
		bases = append(bases, listOf(text))
	}
	return bases
}

// partners lists bases to stand beside a list that is no basis.
func partners() [][][]int {
	return [][][]int{nil, {}, {{1}}, {{1, 2}}, {{1, 2}, {2, 1}}, listOf("231 312 321"), listOf("38165274"), impl.PermsOf(4)[:8]}
}

// classKnown is a basis with what is known of its class without the functions under test: which of some permutations are in it.
type classKnown struct {
	basis [][]int
	has   []bool
}

func classesKnown(bases [][][]int, perms [][]int) []classKnown {
	var known []classKnown
	for _, basis := range bases {
		c := classKnown{basis: basis}
		for _, p := range perms {
			c.has = append(c.has, inClassByAll(basis, p))
		}
		known = append(known, c)
	}
	return known
}

// firstBeyond returns the index of the first permutation that is in the class, but not in another one; -1 if there is none.
func (c classKnown) firstBeyond(other classKnown) int {
	for i, has := range c.has {
		if has && !other.has[i] {
			return i
		}
	}
	return -1
}

// isWithinByAll looks for an element of a in every element of b.
func isWithinByAll(a [][]int, b [][]int) bool {
	return !slices.ContainsFunc(b, func(p []int) bool { return inClassByAll(a, p) })
}

func isShorter(basis [][]int, n int) bool {
	return !slices.ContainsFunc(basis, func(p []int) bool { return len(p) >= n })
}

func checkTruth(t *testing.T, got bool, want bool, name string, args ...any) {
	t.Helper()
	if got != want {
		t.Errorf("%s%v is %t", name, args, got)
	}
}

func checkMeet(t *testing.T, a [][]int, b [][]int, want [][]int, wantOK bool) {
	t.Helper()
	got, ok := impl.MeetClasses(a, b)
	checkPermsOK(t, got, ok, want, wantOK, "MeetClasses", a, b)
}

func checkWithin(t *testing.T, a [][]int, b [][]int, want bool) {
	t.Helper()
	checkTruth(t, impl.IsWithin(a, b), want, "IsWithin", a, b)
}

func checkUnion(t *testing.T, a [][]int, b [][]int, n int, want [][]int) {
	t.Helper()
	checkPerms(t, impl.UnionUpTo(a, b, n), want, "UnionUpTo", a, b, n)
}

func checkImage(t *testing.T, list [][]int, k int, want [][]int, wantOK bool) {
	t.Helper()
	got, ok := impl.SymmetryBasis(list, k)
	checkPermsOK(t, got, ok, want, wantOK, "SymmetryBasis", list, k)
}

func checkBeyond(t *testing.T, a [][]int, b [][]int, n int, want []int, wantOK bool) {
	t.Helper()
	got, ok := impl.FirstBeyond(a, b, n)
	checkListOK(t, got, ok, want, wantOK, "FirstBeyond", a, b, n)
}

func TestMeetClasses(t *testing.T) {
	cases := []struct{ a, b, want string }{
		{"", "", ""},
		{"", "1", "1"},
		{"", "231", "231"},
		{"", "2143 3412", "2143 3412"},
		{"1", "1", "1"},
		{"1", "12", "1"},
		{"1", "12 21", "1"},
		{"1", "38165274", "1"},
		{"12", "12", "12"},
		{"12", "21", "12 21"},
		{"12", "321", "12 321"},
		{"12", "87654321", "12 87654321"},
		{"12", "231", "12"},
		{"12", "12 21", "12 21"},
		{"12 21", "123 321", "12 21"},
		{"132", "231", "132 231"},
		{"231", "2413", "231"},
		{"231", "231 312 321", "231 312 321"},
		{"2413", "3142", "2413 3142"},
		{"25314", "2413", "2413"},
		{"25314", "2143", "2143 25314"},
		{"25314", "132", "132"},
		{"25314", "321 2413", "321 2413"},
		{"123 132", "132 231", "123 132 231"},
		{"132 4321", "2413 3142", "132 4321"},
		// 321 occurs in 4321, and 132 in 1243.
		{"132 4321", "321 1243", "132 321"},
		{"321 2341 3412", "231", "231 321"},
		{"7654321 12345678", "1234567 87654321", "1234567 7654321"},
		{"38165274", "3715264 24681357", "3715264 24681357"},
		{"12345678", "21436587", "12345678 21436587"},
		{"123 132 213 231", "312 321", "123 132 213 231 312 321"},
		{"123 132 213 231 312 321", "12345678 87654321", "123 132 213 231 312 321"},
		{"1234 1243 1324 1342 1423 1432 2134 2143", "2143", "1234 1243 1324 1342 1423 1432 2134 2143"},
		{"1234 1243 1324 1342 1423 1432 2134 2143", "321", "321 1234 1243 1324 1342 1423 2134 2143"},
	}
	for _, c := range cases {
		checkMeet(t, listOf(c.a), listOf(c.b), listOf(c.want), true)
		checkMeet(t, listOf(c.b), listOf(c.a), listOf(c.want), true)
	}
}

func TestMeetOfMoreThanMaxBasis(t *testing.T) {
	perms := impl.PermsOf(4)
	for cut := 0; cut <= 8; cut++ {
		for end := cut; end <= cut+8; end++ {
			a, b := perms[:cut], perms[cut:end]
			if end <= impl.MaxBasis {
				checkMeet(t, a, b, perms[:end], true)
				checkMeet(t, b, a, perms[:end], true)
			} else {
				checkMeet(t, a, b, nil, false)
				checkMeet(t, b, a, nil, false)
			}
		}
	}
	// What both lists have counts once.
	checkMeet(t, perms[:5], perms[4:8], perms[:8], true)
	checkMeet(t, perms[:5], perms[4:9], nil, false)
	checkMeet(t, perms[:8], perms[:8], perms[:8], true)
	checkMeet(t, perms[:8], listOf("35142"), nil, false)
	// 1423 occurs in 25314.
	checkMeet(t, perms[:8], listOf("25314"), perms[:8], true)
	checkMeet(t, perms[:8], listOf("1"), listOf("1"), true)
	checkMeet(t, perms[:8], perms[16:], nil, false)
	for n, first := range map[int]int{5: 111, 6: 703} {
		last := impl.PermsOf(n)[first : first+9]
		checkMeet(t, last[:8], last[8:], nil, false)
		checkMeet(t, last[8:], last[:8], nil, false)
		checkMeet(t, last[:8], last[4:8], last[:8], true)
	}
}

func TestMeetByAll(t *testing.T) {
	for _, bases := range [][][][]int{shortBases(), someBases()} {
		for _, a := range bases {
			for _, b := range bases {
				want, ok := makeBasisByAll(slices.Concat(a, b))
				checkMeet(t, a, b, want, ok)
			}
		}
	}
}

// TestMeetsHaveWhatBothHave is promise 13.
func TestMeetsHaveWhatBothHave(t *testing.T) {
	perms := append(permsUpTo(4), longPerms()...)
	perms = append(perms, digitLists("25314", "35142", "21354", "45312", "54321", "12345", "246135", "351624")...)
	known := classesKnown(someBases(), perms)
	for _, a := range known {
		for _, b := range known {
			meet, ok := impl.MeetClasses(a.basis, b.basis)
			if !ok {
				continue
			}
			checkBasis(t, meet, true)
			for i, p := range perms {
				checkInClass(t, meet, p, a.has[i] && b.has[i])
			}
		}
	}
}

func TestMeetOfClassesOf(t *testing.T) {
	perms := impl.PermsOf(5)
	known := classesKnown(fewBases(), perms)
	for _, a := range known {
		for _, b := range known {
			meet, _ := impl.MeetClasses(a.basis, b.basis)
			var both [][]int
			for i, p := range perms {
				if a.has[i] && b.has[i] {
					both = append(both, p)
				}
			}
			checkPerms(t, impl.ClassOf(meet, 5), both, "ClassOf the meet of", a.basis, b.basis)
		}
	}
}

func TestIsWithin(t *testing.T) {
	cases := []struct {
		a, b        string
		there, back bool
	}{
		{"", "", true, true},
		{"", "1", false, true},
		{"", "12345678", false, true},
		{"1", "1", true, true},
		{"1", "12", true, false},
		{"1", "38165274", true, false},
		{"1", "12 21", true, false},
		{"12", "21", false, false},
		{"12", "12", true, true},
		{"12", "231", true, false},
		{"12", "321", false, false},
		{"12", "12 321", false, true},
		{"12", "231 321", false, false},
		{"12 21", "12", true, false},
		{"12 21", "231 312 321", true, false},
		{"12 321", "231 321", true, false},
		{"231", "2413", true, false},
		{"231", "2413 3142", true, false},
		{"231", "132", false, false},
		{"132", "2413 3142", true, false},
		{"132 231", "231", true, false},
		{"231 312", "2413 3142", true, false},
		{"231 321", "2413 4321", true, false},
		{"2413", "2413 3142", false, true},
		{"2413 3142", "25314", true, false},
		{"2143 3412", "25314", false, false},
		{"132 4321", "321 1243", false, false},
		{"3715264", "38165274", true, false},
		{"1234567", "12345678", true, false},
		{"12345678", "87654321", false, false},
		{"123 132 213 231 312 321", "1234 1243 1324 1342 1423 1432 2134 2143", true, false},
	}
	for _, c := range cases {
		checkWithin(t, listOf(c.a), listOf(c.b), c.there)
		checkWithin(t, listOf(c.b), listOf(c.a), c.back)
	}
}

// TestIsWithinByAll compares with the elements, the classes up to length 5, and the meet.
func TestIsWithinByAll(t *testing.T) {
	perms := permsUpTo(5)
	for _, bases := range [][][][]int{shortBases(), someBases()} {
		known := classesKnown(bases, perms)
		for _, a := range known {
			for _, b := range known {
				want := isWithinByAll(a.basis, b.basis)
				checkWithin(t, a.basis, b.basis, want)
				if within := a.firstBeyond(b) < 0; want && !within || isShorter(b.basis, 6) && want != within {
					t.Errorf("the class of %v is within that of %v: %t, but by the permutations: %t", a.basis, b.basis, want, within)
				}
				meet, ok := impl.MeetClasses(a.basis, b.basis)
				checkTruth(t, ok && slices.EqualFunc(meet, a.basis, slices.Equal), want, "the meet is the first one of", a.basis, b.basis)
			}
		}
	}
}

func TestUnionUpTo(t *testing.T) {
	cases := []struct {
		a, b string
		n    int
		want string
	}{
		{"", "", 5, ""},
		{"", "1", 5, ""},
		{"", "231", 5, ""},
		{"1", "1", 1, "1"},
		{"1", "1", 5, "1"},
		{"1", "12", 1, ""},
		{"1", "12", 2, "12"},
		{"1", "12", 5, "12"},
		{"1", "12 21", 5, "12 21"},
		{"12", "21", 1, ""},
		{"12", "21", 2, ""},
		{"12", "21", 3, "132 213 231 312"},
		{"12", "21", 4, "132 213 231 312"},
		{"12", "21", 5, "132 213 231 312"},
		{"12 21", "12", 5, "12"},
		{"12 21", "12 321", 5, "12 321"},
		{"12 321", "21 123", 5, "123 132 213 231 312 321"},
		{"12", "321", 3, ""},
		// 12 and 321 occur in these, but not both in one below.
		{"12", "321", 4, "1432 2431 3214 3241 3421 4132 4213 4231 4312"},
		{"231", "231 312", 5, "231"},
		{"2413", "2413 3142", 4, "2413"},
		{"2413", "231", 3, ""},
		{"2413", "231", 4, "2413"},
		{"12345", "123456", 5, ""},
		{"12345", "12345678", 5, ""},
		{"12345", "12345", 4, ""},
		{"12345", "12345", 5, "12345"},
		{"1234567", "87654321", 5, ""},
	}
	for _, c := range cases {
		checkUnion(t, listOf(c.a), listOf(c.b), c.n, listOf(c.want))
		checkUnion(t, listOf(c.b), listOf(c.a), c.n, listOf(c.want))
	}
}

func TestUnionUpToNothing(t *testing.T) {
	for _, a := range someBases() {
		for _, b := range someBases() {
			checkUnion(t, a, b, 0, nil)
		}
	}
}

// TestUnionWithin takes classes that are within another one, themselves among them.
func TestUnionWithin(t *testing.T) {
	for _, a := range someBases() {
		for n := 0; n <= 5; n++ {
			checkUnion(t, a, a, n, upTo(a, n))
			checkUnion(t, nil, a, n, nil)
			checkUnion(t, a, nil, n, nil)
			checkUnion(t, listOf("1"), a, n, upTo(a, n))
			checkUnion(t, a, listOf("1"), n, upTo(a, n))
		}
		for _, b := range someBases() {
			if isWithinByAll(a, b) {
				checkUnion(t, a, b, 4, upTo(b, 4))
				checkUnion(t, b, a, 4, upTo(b, 4))
			}
		}
	}
}

// TestUnionByAll looks for the least permutations that neither class has.
func TestUnionByAll(t *testing.T) {
	perms := permsUpTo(5)
	occurs := make([][]bool, len(perms))
	for i, p := range perms {
		for _, q := range perms[:i] {
			occurs[i] = append(occurs[i], occursByAll(p, q))
		}
	}
	compare := func(bases [][][]int, n int) {
		known := classesKnown(bases, perms)
		for _, a := range known {
			for _, b := range known {
				var least []int
				for i, p := range perms {
					if len(p) <= n && !a.has[i] && !b.has[i] && !slices.ContainsFunc(least, func(j int) bool { return occurs[i][j] }) {
						least = append(least, i)
					}
				}
				var want [][]int
				for _, i := range least {
					want = append(want, perms[i])
				}
				checkUnion(t, a.basis, b.basis, n, want)
			}
		}
	}
	for n := 0; n <= 5; n++ {
		compare(fewBases(), n)
	}
	compare(shortBases(), 3)
	compare(someBases(), 4)
}

func TestSymmetryBasis(t *testing.T) {
	cases := []struct {
		list string
		want [8]string
	}{
		{"", [8]string{}},
		{"1", [8]string{"1", "1", "1", "1", "1", "1", "1", "1"}},
		{"12", [8]string{"12", "12", "21", "21", "21", "21", "12", "12"}},
		{"12 321", [8]string{"12 321", "12 321", "21 123", "21 123", "21 123", "21 123", "12 321", "12 321"}},
		{"231", [8]string{"231", "312", "132", "213", "213", "132", "312", "231"}},
		{"132 231", [8]string{"132 231", "132 312", "132 231", "213 231", "213 312", "132 312", "213 312", "213 231"}},
		{"1342", [8]string{"1342", "1423", "2431", "3241", "4213", "4132", "3124", "2314"}},
		{"2413 3142", [8]string{"2413 3142", "2413 3142", "2413 3142", "2413 3142", "2413 3142", "2413 3142", "2413 3142", "2413 3142"}},
		{"7654321 12345678", [8]string{
			"7654321 12345678", "7654321 12345678", "1234567 87654321", "1234567 87654321",
			"1234567 87654321", "1234567 87654321", "7654321 12345678", "7654321 12345678",
		}},
	}
	for _, c := range cases {
		for k, want := range c.want {
			checkImage(t, listOf(c.list), k, listOf(want), true)
		}
	}
}

func TestSymmetryBasisByPoints(t *testing.T) {
	for _, basis := range append(someBases(), shortBases()...) {
		for k := range 8 {
			var want [][]int
			for _, p := range basis {
				want = append(want, imageOf(p, k))
			}
			slices.SortFunc(want, byLength)
			checkImage(t, basis, k, want, true)
		}
	}
}

// TestSymmetryBasisIsUndone turns each basis back; 3 and 5 undo each other, every other symmetry undoes itself.
func TestSymmetryBasisIsUndone(t *testing.T) {
	for _, basis := range append(someBases(), shortBases()...) {
		for k, undoing := range [8]int{0, 1, 2, 5, 4, 3, 6, 7} {
			image, ok := impl.SymmetryBasis(basis, k)
			checkTruth(t, ok, true, "whether there is SymmetryBasis", basis, k)
			checkBasis(t, image, true)
			checkImage(t, image, undoing, basis, true)
		}
	}
}

func TestSymmetryBasisTurnsTheClass(t *testing.T) {
	perms := append(permsUpTo(4), longPerms()...)
	for _, c := range classesKnown(someBases(), perms) {
		for k := range 8 {
			image, _ := impl.SymmetryBasis(c.basis, k)
			for i, p := range perms {
				checkInClass(t, image, imageOf(p, k), c.has[i])
			}
		}
	}
}

func TestIsFinite(t *testing.T) {
	for _, text := range []string{
		"1", "12 21", "12 321", "21 123", "123 321", "12 87654321", "21 12345678", "1234 54321", "7654321 12345678", "12345678 87654321",
		"123 321 2143", "321 1234 2143", "231 321 1234", "132 213 231 312 54321 12345678", "123 132 213 231 312 321", "4321 12345",
	} {
		checkTruth(t, impl.IsFinite(listOf(text)), true, "IsFinite", text)
	}
	for _, text := range []string{
		"", "12", "21", "123", "321", "231", "2413", "12345678", "87654321", "12 21 231", "123 132", "132 321", "132 213 231 312",
		"2413 3142", "2143 3412", "21 132", "1234 1243 1324 1342 1423 1432 2134 2143", "12345678 87654312", "12345687 87654321", "12 321 123", "1 12", "1 1", "321 123 1", "321 12", "2 1",
	} {
		checkTruth(t, impl.IsFinite(listOf(text)), false, "IsFinite", text)
	}
	for up := 1; up <= 8; up++ {
		for down := 1; down <= 8; down++ {
			basis, _ := impl.MakeBasis([][]int{countUp(1, up), countDown(down, 1)})
			checkTruth(t, impl.IsFinite(basis), true, "IsFinite", basis)
			fewer := basis[1:]
			checkTruth(t, impl.IsFinite(fewer), false, "IsFinite", fewer)
		}
	}
}

// TestIsFiniteByTheClass looks for the lengths at which a class has permutations.
func TestIsFiniteByTheClass(t *testing.T) {
	for _, basis := range append(someBases(), shortBases()...) {
		finite := impl.IsFinite(basis)
		bound := 7
		for _, p := range basis {
			for _, q := range basis {
				if slices.Equal(p, countUp(1, len(p))) && slices.Equal(q, countDown(len(q), 1)) {
					bound = (len(p) - 1) * (len(q) - 1)
				}
			}
		}
		counts := impl.ClassCounts(basis, 6)
		for n, count := range counts {
			if finite && n > bound && count > 0 || !finite && count == 0 {
				t.Errorf("IsFinite(%v) is %t, but the counts are %v", basis, finite, counts)
			}
		}
	}
}

func TestIsSumClosed(t *testing.T) {
	for _, text := range []string{
		"", "1", "21", "231", "312", "321", "2413", "3142", "4231", "25314", "38165274", "87654321", "231 312", "231 312 321", "231 321", "2413 3142", "3412 4231", "321 2341 3412", "321 3412",
		"2341 2413 2431 3142 3241 3412 3421 4123",
	} {
		checkTruth(t, impl.IsSumClosed(listOf(text)), true, "IsSumClosed", text)
	}
	for _, text := range []string{
		"12", "123", "132", "213", "1324", "2143", "1342", "12345678", "21436587", "12 21", "12 321", "21 123", "123 321", "132 231", "213 231", "2143 3412", "7654321 12345678", "231 321 1234", "231 1324", "87654312 21436587",
		"1 1", "21 231", "321 231", "231 312 312", "2413 312",
		"2341 2413 2431 3142 3241 3412 3421 4123 4132",
	} {
		checkTruth(t, impl.IsSumClosed(listOf(text)), false, "IsSumClosed", text)
	}
	checkTruth(t, impl.IsSumClosed(nil), true, "IsSumClosed", "nil")
	checkTruth(t, impl.IsSumClosed([][]int{}), true, "IsSumClosed", "no permutations")
	for n := range 7 {
		for _, p := range impl.PermsOf(n) {
			checkTruth(t, impl.IsSumClosed([][]int{p}), n > 0 && !isSumOfTwo(false, p), "IsSumClosed", p)
		}
	}
}

// TestIsSumClosedByTheClass adds all permutations of a class up to length 5 in sum.
func TestIsSumClosedByTheClass(t *testing.T) {
	for _, basis := range append(someBases(), shortBases()...) {
		if !isShorter(basis, 6) {
			continue
		}
		var class [][]int
		for n := 0; n <= 5; n++ {
			class = append(class, impl.ClassOf(basis, n)...)
		}
		closed := true
		for _, p := range class {
			for _, q := range class {
				closed = closed && (len(p)+len(q) > 5 || inClassByAll(basis, sumOf(false, p, q)))
			}
		}
		checkTruth(t, impl.IsSumClosed(basis), closed, "IsSumClosed", basis)
	}
}

func TestFirstBeyond(t *testing.T) {
	cases := []struct {
		a, b string
		n    int
		want string
	}{
		{"", "1", 1, "1"},
		{"", "1", 6, "1"},
		{"", "12", 1, ""},
		{"", "12", 2, "12"},
		{"", "21 123", 2, "21"},
		{"", "654321", 5, ""},
		{"", "654321", 6, "654321"},
		{"", "7654321", 6, ""},
		{"", "12345678", 6, ""},
		{"", "", 6, ""},
		{"1", "", 6, ""},
		{"1", "1", 6, ""},
		{"1", "12", 6, ""},
		{"12", "1", 0, ""},
		{"12", "1", 1, "1"},
		{"12", "21", 1, ""},
		{"12", "21", 2, "21"},
		{"21", "12", 6, "12"},
		{"12", "231", 6, ""},
		{"231", "12", 1, ""},
		{"231", "12", 3, "12"},
		{"12", "321", 2, ""},
		{"12", "321", 3, "321"},
		{"12", "231 321", 6, "321"},
		{"12", "12 4321", 6, "4321"},
		{"12 21", "123 321", 6, ""},
		{"123 321", "12 21", 6, "12"},
		{"231", "132 231", 6, "132"},
		{"132 231", "231", 6, ""},
		{"231", "2413 3142", 6, ""},
		{"2413", "2413 3142", 6, "3142"},
		{"3142", "2413 3142", 6, "2413"},
		{"2413 3142", "231 4312", 2, ""},
		{"2413 3142", "231 4312", 3, "231"},
		{"231", "231 4312", 3, ""},
		{"231", "231 4312", 4, "4312"},
		{"2413 3142", "1234 25314", 4, "1234"},
		{"1234 3142", "1234 25314", 4, ""},
		{"1234 3142", "1234 25314", 5, "25314"},
		{"3715264", "38165274", 6, ""},
		{"38165274", "3715264", 6, ""},
	}
	for _, c := range cases {
		checkBeyond(t, listOf(c.a), listOf(c.b), c.n, digits(c.want), c.want != "")
	}
}

// TestFirstBeyondByAll compares with the first permutation that is in one class and not in the other one.
func TestFirstBeyondByAll(t *testing.T) {
	compare := func(bases [][][]int, perms [][]int) {
		known := classesKnown(bases, perms)
		for _, a := range known {
			for _, b := range known {
				var want []int
				if i := a.firstBeyond(b); i >= 0 {
					want = perms[i]
				}
				for n := 0; n <= len(perms[len(perms)-1]); n++ {
					if len(want) <= n {
						checkBeyond(t, a.basis, b.basis, n, want, want != nil)
					} else {
						checkBeyond(t, a.basis, b.basis, n, nil, false)
					}
				}
			}
		}
	}
	compare(shortBases(), permsUpTo(4))
	compare(someBases(), permsUpTo(6))
}

func TestFirstBeyondByInClass(t *testing.T) {
	perms := permsUpTo(5)
	for _, a := range fewBases() {
		for _, b := range fewBases() {
			i := slices.IndexFunc(perms, func(p []int) bool { return impl.InClass(a, p) && !impl.InClass(b, p) })
			if i >= 0 {
				checkBeyond(t, a, b, 5, perms[i], true)
			} else {
				checkBeyond(t, a, b, 5, nil, false)
			}
		}
	}
}

func TestFirstBeyondNothing(t *testing.T) {
	for _, a := range someBases() {
		for n := 0; n <= 6; n++ {
			checkBeyond(t, a, a, n, nil, false)
			checkBeyond(t, a, nil, n, nil, false)
			checkBeyond(t, listOf("1"), a, n, nil, false)
		}
		for _, b := range someBases() {
			checkBeyond(t, a, b, 0, nil, false)
		}
	}
}

// TestMeetsRejectLists hands over lists that are no basis, on either side and on both.
func TestMeetsRejectLists(t *testing.T) {
	for _, wrong := range notBases() {
		for k := -1; k <= 8; k++ {
			checkImage(t, wrong, k, nil, false)
		}
		checkTruth(t, impl.IsFinite(wrong), false, "IsFinite", wrong)
		checkTruth(t, impl.IsSumClosed(wrong), false, "IsSumClosed", wrong)
		for _, other := range append(partners(), wrong, [][]int{{}}, [][]int{{2, 2}}) {
			for _, pair := range [2][2][][]int{{wrong, other}, {other, wrong}} {
				a, b := pair[0], pair[1]
				checkMeet(t, a, b, nil, false)
				checkWithin(t, a, b, false)
				for _, n := range []int{-1, 0, 1, 4, 5, 6, 7} {
					checkUnion(t, a, b, n, nil)
					checkBeyond(t, a, b, n, nil, false)
				}
			}
		}
	}
}

func TestMeetsRejectNumbers(t *testing.T) {
	outside := append(numbersAround(), 8, 9, 16)
	for _, a := range append(partners(), fewBases()...) {
		for _, k := range outside {
			checkImage(t, a, k, nil, false)
		}
		for _, b := range fewBases() {
			for _, n := range append(outside, 7) {
				checkUnion(t, a, b, n, nil)
				checkBeyond(t, a, b, n, nil, false)
			}
			checkUnion(t, a, b, 6, nil)
		}
	}
	// The limits themselves are accepted.
	checkUnion(t, listOf("12345"), listOf("12345"), 5, listOf("12345"))
	checkBeyond(t, nil, listOf("123456"), 6, countUp(1, 6), true)
	checkImage(t, listOf("2341"), 7, listOf("2341"), true)
	checkImage(t, listOf("2341"), 0, listOf("2341"), true)
}

func TestMeetsLeaveTheirArguments(t *testing.T) {
	lists := append(fewBases(), listOf("321 12"), listOf("132 4321"), listOf("1 12"), [][]int{{}, {1}}, [][]int{{2, 2}}, impl.PermsOf(4)[:8], impl.PermsOf(4)[:9])
	for _, a := range lists {
		for _, b := range lists {
			g, h := guardLists(a), guardLists(b)
			for _, pair := range [4][2][][]int{{g.lists, h.lists}, {h.lists, g.lists}, {g.lists, g.lists}, {h.lists, h.lists}} {
				meet, _ := impl.MeetClasses(pair[0], pair[1])
				spoilAll(meet)
				impl.IsWithin(pair[0], pair[1])
				for _, n := range []int{-1, 0, 3, 6, 7} {
					spoilAll(impl.UnionUpTo(pair[0], pair[1], n))
					first, _ := impl.FirstBeyond(pair[0], pair[1], n)
					spoil(first)
				}
			}
			g.check(t, "a function of chapter 13")
			h.check(t, "a function of chapter 13")
		}
		g := guardLists(a)
		impl.IsFinite(g.lists)
		impl.IsSumClosed(g.lists)
		for k := -1; k <= 8; k++ {
			image, _ := impl.SymmetryBasis(g.lists, k)
			spoilAll(image)
		}
		g.check(t, "a function of chapter 13")
	}
}

func TestMeetsAreNewMemory(t *testing.T) {
	for _, a := range fewBases() {
		for _, b := range fewBases() {
			checkNewMemory(t, "MeetClasses", func() [][]int {
				meet, _ := impl.MeetClasses(a, b)
				return meet
			})
			checkNewMemory(t, "UnionUpTo", func() [][]int { return impl.UnionUpTo(a, b, 3) })
			checkNewMemory(t, "FirstBeyond", func() [][]int {
				first, _ := impl.FirstBeyond(a, b, 6)
				return [][]int{first}
			})
		}
		for k := range 8 {
			checkNewMemory(t, "SymmetryBasis", func() [][]int {
				image, _ := impl.SymmetryBasis(a, k)
				return image
			})
		}
	}
}
