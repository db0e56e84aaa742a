package tests

import (
	"cmp"
	"slices"
	"strings"
	"testing"

	"loop.example/g03101/impl"
)

// basisTexts lists texts of bases, the empty one first, then those of one permutation, and then those of several ones.
func basisTexts() []string {
	return []string{
		"",
		"1", "12", "21", "123", "132", "213", "231", "312", "321", "1324", "1342", "2413", "4231", "25314", "12345678", "38165274",
		"12 21", "12 321", "21 123", "12 87654321", "123 321", "123 132", "132 231", "132 321", "231 312", "123 3412", "132 4321",
		"2143 3412", "2413 3142", "3412 4231", "1234 54321", "7654321 12345678", "3715264 24681357",
		"231 312 321", "132 213 321", "123 2143 3412", "321 2341 3412", "132 213 231 312", "123 132 213 231 312 321",
		"1234 1243 1324 1342 1423 1432 2134 2143", "132 4231 54321", "2341 3241 4123 12543",
	}
}

// listOf reads permutations with one digit for each number, separated by spaces.
func listOf(text string) [][]int { return digitLists(strings.Fields(text)...) }

func someBases() [][][]int {
	var bases [][][]int
	for _, text := range basisTexts() {
		bases = append(bases, listOf(text))
	}
	return bases
}

// notBases lists lists that are no basis.
func notBases() [][][]int {
	lists := [][][]int{
		{{}}, {nil}, {{}, {}}, {{}, {1}}, {{1}, {}}, {{1, 2}, nil, {3, 2, 1}}, {{1, 2}, {3, 2, 1}, {}},
		append(impl.PermsOf(4)[:8], []int{}),
	}
	for _, text := range []string{
		"1 1", "21 21", "12 21 21", "231 231 312", "12345678 12345678",
		"21 12", "321 12", "312 231", "87654321 12", "231 321 312", "12345678 7654321",
		"1 12", "1 87654321", "12 123", "12 231", "12 21 231", "123 1234", "132 2413", "231 321 2413", "132 213 231 312 2413", "3715264 38165274", "7123456 81234567",
		"12 1", "123 12", "2413 132",
		"1234 1243 1324 1342 1423 1432 2134 2143 2314", "1234 1243 1324 1342 1423 1432 2134 2143 2143",
	} {
		lists = append(lists, listOf(text))
	}
	for _, wrong := range notPerms() {
		lists = append(lists, [][]int{wrong}, [][]int{wrong, wrong}, [][]int{wrong, {1, 2}}, [][]int{{1, 2}, wrong}, [][]int{{1, 2}, wrong, {3, 2, 1}})
	}
	return append(lists, impl.PermsOf(4), impl.PermsOf(4)[:9], allOfLength(7), make([][]int, 1000))
}

// byLength compares permutations as the document orders them.
func byLength(p []int, q []int) int { return cmp.Or(len(p)-len(q), slices.Compare(p, q)) }

func occursByAll(p []int, q []int) bool { return len(occurrencesByAll(p, q)) > 0 }

// holdsOne reports whether another permutation of the list than p occurs in p.
func holdsOne(p []int, list [][]int) bool {
	return slices.ContainsFunc(list, func(q []int) bool { return !slices.Equal(p, q) && occursByAll(p, q) })
}

func isBasisByAll(list [][]int) bool {
	if len(list) > 8 {
		return false
	}
	for i, p := range list {
		if len(p) == 0 || !isPermByCount(p) || i > 0 && byLength(list[i-1], p) >= 0 {
			return false
		}
	}
	return !slices.ContainsFunc(list, func(p []int) bool { return holdsOne(p, list) })
}

// makeBasisByAll is for permutations that are not empty.
func makeBasisByAll(list [][]int) ([][]int, bool) {
	var basis [][]int
	for _, p := range list {
		if !holdsOne(p, list) {
			basis = append(basis, p)
		}
	}
	slices.SortFunc(basis, byLength)
	basis = slices.CompactFunc(basis, slices.Equal)
	if len(basis) > 8 {
		return nil, false
	}
	return basis, true
}

func inClassByAll(list [][]int, p []int) bool {
	return !slices.ContainsFunc(list, func(q []int) bool { return occursByAll(p, q) })
}

func classByAll(list [][]int, n int) [][]int {
	var class [][]int
	for _, p := range impl.PermsOf(n) {
		if inClassByAll(list, p) {
			class = append(class, p)
		}
	}
	return class
}

// holdsPerm looks for a permutation in a list.
func holdsPerm(list [][]int, p []int) bool {
	return slices.ContainsFunc(list, func(q []int) bool { return slices.Equal(p, q) })
}

// basisUpToByAll takes one number after the other out of each permutation.
func basisUpToByAll(list [][]int, n int) [][]int {
	var basis [][]int
	for _, p := range permsUpTo(n)[1:] {
		wanted := !holdsPerm(list, p)
		for place := 1; place <= len(p); place++ {
			lower := withoutPlace(p, place)
			wanted = wanted && (len(lower) == 0 || holdsPerm(list, lower))
		}
		if wanted {
			basis = append(basis, p)
		}
	}
	return basis
}

func checkBasis(t *testing.T, list [][]int, want bool) {
	t.Helper()
	if got := impl.IsBasis(list); got != want {
		t.Errorf("IsBasis(%v) is %t", list, got)
	}
}

func checkPermsOK(t *testing.T, got [][]int, gotOK bool, want [][]int, wantOK bool, name string, args ...any) {
	t.Helper()
	if gotOK != wantOK || !slices.EqualFunc(got, want, slices.Equal) {
		t.Errorf("%s%v is %v, %t, not %v, %t", name, args, got, gotOK, want, wantOK)
	}
}

func checkMade(t *testing.T, list [][]int, want [][]int, wantOK bool) {
	t.Helper()
	got, ok := impl.MakeBasis(list)
	checkPermsOK(t, got, ok, want, wantOK, "MakeBasis", list)
}

func checkInClass(t *testing.T, list [][]int, p []int, want bool) {
	t.Helper()
	if got := impl.InClass(list, p); got != want {
		t.Errorf("InClass(%v, %v) is %t", list, p, got)
	}
}

func checkParsedBasis(t *testing.T, text string, want [][]int, wantOK bool) {
	t.Helper()
	got, ok := impl.ParseBasis(text)
	checkPermsOK(t, got, ok, want, wantOK, "ParseBasis", text)
}

func TestIsBasis(t *testing.T) {
	checkBasis(t, nil, true)
	checkBasis(t, [][]int{}, true)
	checkBasis(t, [][]int{{2, 2}}[:0], true)
	for _, list := range someBases() {
		checkBasis(t, list, true)
	}
	for _, list := range notBases() {
		checkBasis(t, list, false)
	}
}

func TestBasesUpToMaxBasis(t *testing.T) {
	if impl.MaxBasis != 8 {
		t.Errorf("MaxBasis is %d", impl.MaxBasis)
	}
	for _, n := range []int{4, 5, 6} {
		perms := impl.PermsOf(n)
		for first := 0; first+12 <= len(perms); first += 5 {
			for size := 0; size <= 12; size++ {
				list := perms[first : first+size]
				checkBasis(t, list, size <= impl.MaxBasis)
				if size <= impl.MaxBasis {
					checkMade(t, list, list, true)
				} else {
					checkMade(t, list, nil, false)
				}
			}
		}
	}
}

// shortLists returns all lists of at most 3 permutations up to length 3, and all of 2 up to length 4; none is empty.
func shortLists() [][][]int {
	var lists [][][]int
	few, more := permsUpTo(3)[1:], permsUpTo(4)[1:]
	for _, places := range listsUpTo(3, 0, len(few)-1) {
		var list [][]int
		for _, i := range places {
			list = append(list, few[i])
		}
		lists = append(lists, list)
	}
	for _, p := range more {
		for _, q := range more {
			lists = append(lists, [][]int{p, q})
		}
	}
	return lists
}

func TestBasesByAll(t *testing.T) {
	for _, list := range shortLists() {
		checkBasis(t, list, isBasisByAll(list))
		want, ok := makeBasisByAll(list)
		checkMade(t, list, want, ok)
	}
}

func TestMakeBasis(t *testing.T) {
	cases := []struct{ list, want string }{
		{"", ""},
		{"1", "1"},
		{"1 1", "1"},
		{"12 12", "12"},
		{"21 12", "12 21"},
		{"12 123 321", "12 321"},
		{"321 123 12", "12 321"},
		{"321 12 321 123 12", "12 321"},
		{"12 21 1", "1"},
		{"87654321 1", "1"},
		{"312 231", "231 312"},
		{"312 2413 231", "231 312"},
		{"2413 3142", "2413 3142"},
		{"3142 2413 25314", "2413 3142"},
		{"25314 35142", "25314 35142"},
		{"38165274 3715264", "3715264"},
		{"38165274 21436587", "21436587 38165274"},
		{"12345678 7654321", "7654321 12345678"},
		{"12345678 123 7654321", "123 7654321"},
		{"54321 4321 321 12345 1234 123", "123 321"},
		// 2413 is left out for 132, and 35142 has both.
		{"35142 2413 132", "132"},
		// 123 occurs in 1234 and 1243, so that fewer than nine are left.
		{"1234 1243 1324 1342 1423 1432 2134 2143 2314 123", "123 1432 2143"},
		{"2143 2134 1432 1423 1342 1324 1243 1234 2143 1234", "1234 1243 1324 1342 1423 1432 2134 2143"},
		{"2143 2134 1432 1423 1342 1324 1243 1234 12345678 21436587", "1234 1243 1324 1342 1423 1432 2134 2143"},
	}
	for _, c := range cases {
		checkMade(t, listOf(c.list), listOf(c.want), true)
	}
	checkMade(t, nil, nil, true)
	checkMade(t, [][]int{}, nil, true)
}

func TestMakeBasisOfMany(t *testing.T) {
	one, both := [][]int{{1}}, digitLists("12", "21")
	threes := impl.PermsOf(3)
	for _, c := range []struct{ list, want [][]int }{
		{permsUpTo(5)[1:], one},
		{permsUpTo(5)[2:], both},
		{permsUpTo(5)[4:], threes},
		{slices.Concat(impl.PermsOf(6), impl.PermsOf(5), threes), threes},
		{append(allOfLength(7), both...), both},
		{append(allOfLength(7), []int{1}), one},
	} {
		checkMade(t, c.list, c.want, true)
		backward := slices.Clone(c.list)
		slices.Reverse(backward)
		checkMade(t, backward, c.want, true)
		checkMade(t, slices.Concat(c.list, backward), c.want, true)
	}
	for _, list := range [][][]int{impl.PermsOf(4), impl.PermsOf(4)[:9], permsUpTo(5)[10:], permsUpTo(6)[34:], allOfLength(7), allOfLength(8)} {
		checkMade(t, list, nil, false)
	}
}

func TestMakeBasisRejects(t *testing.T) {
	for _, wrong := range append(notPerms(), nil, []int{}) {
		for _, list := range [][][]int{
			{wrong}, {wrong, wrong}, {wrong, {1}}, {{1}, wrong}, {{2, 1}, {1, 2}, wrong, {1, 2}}, {{1}, {1, 2}, {1, 2, 3}, wrong},
			append(impl.PermsOf(4), wrong), append([][]int{wrong}, impl.PermsOf(4)...), append(impl.PermsOf(4)[:8], wrong),
		} {
			checkMade(t, list, nil, false)
		}
	}
}

// TestMakeBasisOfABasis hands over each basis in other orders, twice, and with longer permutations.
func TestMakeBasisOfABasis(t *testing.T) {
	for _, basis := range someBases() {
		for first := range len(basis) + 1 {
			turned := slices.Concat(basis[first:], basis[:first])
			checkMade(t, turned, basis, true)
			slices.Reverse(turned)
			checkMade(t, turned, basis, true)
			checkMade(t, slices.Concat(turned, basis), basis, true)
		}
		var longer [][]int
		for _, p := range allOfLength(4) {
			if holdsOne(p, basis) && !holdsPerm(basis, p) {
				longer = append(longer, p)
			}
		}
		checkMade(t, slices.Concat(longer, basis), basis, true)
	}
}

// TestMakeBasisKeepsTheClass compares what has none of a list with what has none of its basis.
func TestMakeBasisKeepsTheClass(t *testing.T) {
	perms := append(permsUpTo(4), longPerms()...)
	for _, list := range shortLists()[:820] {
		basis, ok := impl.MakeBasis(list)
		if !ok || !impl.IsBasis(basis) {
			t.Fatalf("MakeBasis(%v) is %v, %t", list, basis, ok)
		}
		for _, p := range perms {
			checkInClass(t, basis, p, inClassByAll(list, p))
		}
	}
}

func TestInClass(t *testing.T) {
	cases := []struct {
		basis, in, out string
	}{
		{"", "1 12 21 2413 38165274 12345678", ""},
		{"1", "", "1 12 21 2413 12345678"},
		{"12", "1 21 321 87654321", "12 123 231 2413 87654312"},
		{"21", "1 12 12345678", "21 132 12345687"},
		{"231", "1 12 21 132 3214 51423 87654321 12345678", "231 2413 3142 2341 38165274"},
		{"321", "2413 3412 24681357", "321 4231 38165274"},
		{"2413 3142", "231 312 4231 87214365", "2413 3142 24135 35142 246135"},
		{"231 312 321", "132 21354 21436587", "231 312 321 2413 3214"},
		{"2143 3412", "3142 4231 1234", "2143 3412 21354 21436587"},
		{"38165274", "3715264 83165274 12345678", "38165274"},
		{"12345678", "1234567 12345687", "12345678"},
	}
	for _, c := range cases {
		basis := listOf(c.basis)
		for _, p := range listOf(c.in) {
			checkInClass(t, basis, p, true)
		}
		for _, p := range listOf(c.out) {
			checkInClass(t, basis, p, false)
		}
		checkInClass(t, basis, nil, true)
		checkInClass(t, basis, []int{}, true)
	}
}

func TestInClassByAll(t *testing.T) {
	perms := append(permsUpTo(5), longPerms()...)
	for _, basis := range someBases() {
		for _, p := range perms {
			checkInClass(t, basis, p, inClassByAll(basis, p))
		}
	}
}

func TestInClassRejects(t *testing.T) {
	for _, basis := range someBases() {
		for _, wrong := range notPerms() {
			checkInClass(t, basis, wrong, false)
		}
	}
	for _, list := range notBases() {
		for _, p := range [][]int{nil, {}, {1}, {2, 1}, {1, 2}, {2, 2}, digits("4321"), digits("12345678")} {
			checkInClass(t, list, p, false)
		}
	}
}

// checkClass compares ClassOf and ClassCounts for the lengths 0 to the index of the last one of want.
func checkClass(t *testing.T, basis [][]int, want [][][]int) {
	t.Helper()
	var counts []int
	for n, class := range want {
		checkPerms(t, impl.ClassOf(basis, n), class, "ClassOf", basis, n)
		counts = append(counts, len(class))
		checkList(t, impl.ClassCounts(basis, n), counts, "ClassCounts", basis, n)
	}
}

func TestClassOf(t *testing.T) {
	cases := []struct {
		basis string
		n     int
		want  string
	}{
		{"", 1, "1"},
		{"", 2, "12 21"},
		{"", 3, "123 132 213 231 312 321"},
		{"1", 1, ""},
		{"1", 6, ""},
		{"12", 3, "321"},
		{"12", 6, "654321"},
		{"21", 6, "123456"},
		{"12 21", 1, "1"},
		{"12 21", 2, ""},
		{"231", 2, "12 21"},
		{"231", 3, "123 132 213 312 321"},
		{"231 312 321", 4, "1234 1243 1324 2134 2143"},
		{"123 321", 4, "2143 2413 3142 3412"},
		{"123 321", 5, ""},
		{"123 132", 3, "213 231 312 321"},
		{"132 213 231 312", 5, "12345 54321"},
		{"21 123", 2, "12"},
		{"21 123", 3, ""},
		{"123456", 1, "1"},
	}
	for _, c := range cases {
		checkPerms(t, impl.ClassOf(listOf(c.basis), c.n), listOf(c.want), "ClassOf", c.basis, c.n)
	}
}

func TestClassOfLengthNothing(t *testing.T) {
	for _, basis := range someBases() {
		checkClass(t, basis, [][][]int{{{}}})
	}
}

func TestClassOfTheEmptyBasis(t *testing.T) {
	for _, basis := range [][][]int{nil, {}} {
		var all [][][]int
		for n := 0; n <= 6; n++ {
			all = append(all, impl.PermsOf(n))
		}
		checkClass(t, basis, all)
		checkList(t, impl.ClassCounts(basis, 6), []int{1, 1, 2, 6, 24, 120, 720}, "ClassCounts", basis, 6)
		for _, p := range append(permsUpTo(5), longPerms()...) {
			checkInClass(t, basis, p, true)
		}
	}
}

func TestClassOfByAll(t *testing.T) {
	for _, basis := range someBases() {
		var want [][][]int
		for n := 0; n <= 6; n++ {
			want = append(want, classByAll(basis, n))
		}
		checkClass(t, basis, want)
	}
}

// TestClassOfIsInClass asks InClass of every permutation of a length.
func TestClassOfIsInClass(t *testing.T) {
	for _, basis := range append(someBases(), notBases()...) {
		for n := 0; n <= 5; n++ {
			var want [][]int
			for _, p := range impl.PermsOf(n) {
				if impl.InClass(basis, p) {
					want = append(want, p)
				}
			}
			checkPerms(t, impl.ClassOf(basis, n), want, "ClassOf", basis, n)
			if counts := impl.ClassCounts(basis, n); len(counts) > 0 {
				checkNumber(t, counts[n], len(want), "the last one of ClassCounts", basis, n)
			}
		}
	}
}

// TestClassCounts compares with numbers that are known.
func TestClassCounts(t *testing.T) {
	cases := []struct {
		bases []string
		want  []int
	}{
		{[]string{"1"}, []int{1, 0, 0, 0, 0, 0, 0}},
		{[]string{"12", "21"}, []int{1, 1, 1, 1, 1, 1, 1}},
		{[]string{"12 21"}, []int{1, 1, 0, 0, 0, 0, 0}},
		{[]string{"123", "132", "213", "231", "312", "321"}, []int{1, 1, 2, 5, 14, 42, 132}},
		{[]string{"123 132", "132 213", "132 231", "132 312", "231 312", "213 231"}, []int{1, 1, 2, 4, 8, 16, 32}},
		{[]string{"132 321", "123 231"}, []int{1, 1, 2, 4, 7, 11, 16}},
		{[]string{"123 321"}, []int{1, 1, 2, 4, 4, 0, 0}},
		{[]string{"231 312 321", "123 132 213"}, []int{1, 1, 2, 3, 5, 8, 13}},
		{[]string{"1234", "4321", "2143", "1243"}, []int{1, 1, 2, 6, 23, 103, 513}},
		{[]string{"1342", "2413", "3142"}, []int{1, 1, 2, 6, 23, 103, 512}},
		{[]string{"1324", "4231"}, []int{1, 1, 2, 6, 23, 103, 513}},
		{[]string{"2413 3142", "1234 2134"}, []int{1, 1, 2, 6, 22, 90, 394}},
		{[]string{"2143 3412"}, []int{1, 1, 2, 6, 22, 86, 340}},
		{[]string{"3412 4231"}, []int{1, 1, 2, 6, 22, 88, 366}},
		{[]string{"654321", "214365"}, []int{1, 1, 2, 6, 24, 120, 719}},
		{[]string{"7654321", "38165274", "7654321 12345678"}, []int{1, 1, 2, 6, 24, 120, 720}},
	}
	for _, c := range cases {
		for _, text := range c.bases {
			for n := range c.want {
				checkList(t, impl.ClassCounts(listOf(text), n), c.want[:n+1], "ClassCounts", text, n)
			}
		}
	}
}

func TestClassOfRejects(t *testing.T) {
	lengths := append(numbersAround(), 7, 8, 9)
	for _, list := range append(someBases(), notBases()...) {
		for _, n := range lengths {
			checkPerms(t, impl.ClassOf(list, n), nil, "ClassOf", list, n)
			checkList(t, impl.ClassCounts(list, n), nil, "ClassCounts", list, n)
		}
	}
	for _, list := range notBases() {
		for n := 0; n <= 6; n++ {
			checkPerms(t, impl.ClassOf(list, n), nil, "ClassOf", list, n)
			checkList(t, impl.ClassCounts(list, n), nil, "ClassCounts", list, n)
		}
	}
}

// TestClassHasEveryPatternOfItsPermutations is promise 12.
func TestClassHasEveryPatternOfItsPermutations(t *testing.T) {
	for _, basis := range someBases() {
		var shorter [][][]int
		for n := 0; n <= 6; n++ {
			class := impl.ClassOf(basis, n)
			shorter = append(shorter, class)
			for _, p := range class {
				for k := 0; k <= n; k++ {
					for _, q := range impl.PatternsIn(p, k) {
						if !holdsPerm(shorter[k], q) {
							t.Fatalf("ClassOf(%v, %d) has %v, but ClassOf(%v, %d) is without %v", basis, n, p, basis, k, q)
						}
					}
				}
			}
		}
		for _, p := range append(permsUpTo(4), longPerms()...) {
			if !impl.InClass(basis, p) {
				continue
			}
			for k := 0; k <= len(p); k++ {
				for _, q := range impl.PatternsIn(p, k) {
					checkInClass(t, basis, q, true)
				}
			}
		}
	}
}

func TestBasisText(t *testing.T) {
	for _, text := range basisTexts() {
		if got := impl.BasisText(listOf(text)); got != text {
			t.Errorf("BasisText of %q is %q", text, got)
		}
		checkParsedBasis(t, text, listOf(text), true)
	}
	if got := impl.BasisText(nil); got != "" {
		t.Errorf("BasisText of the empty basis is %q", got)
	}
	for _, list := range notBases() {
		if got := impl.BasisText(list); got != "" {
			t.Errorf("BasisText(%v) is %q", list, got)
		}
	}
}

func TestParseBasisUndoesBasisText(t *testing.T) {
	for _, list := range append(shortLists(), notBases()...) {
		text := impl.BasisText(list)
		if !impl.IsBasis(list) {
			if text != "" {
				t.Errorf("BasisText(%v) is %q", list, text)
			}
			continue
		}
		checkParsedBasis(t, text, list, true)
	}
}

func TestParseBasisRejects(t *testing.T) {
	texts := []string{
		" ", "  ", " 12", "12 ", " 12 ", "12  21", "12 21 ", " 12 21", "12 321 ", "12  321", "12   321",
		"-", "- 12", "12 -", "- -", "12 - 321", "--", "1-",
		"0", "2", "9", "11", "13", "012", "120", "12 13", "13 12", "12 x", "x 12", "12 321x", "12 032", "123456789", "12 987654321", "1234567812345678",
		"12,21", "12\t21", "12\n21", "12\x0021", "12 21\n", "\n", "\x00", "\xff", "12\u00a021", "\uff11", "12 \xff", "[12 21]", "1 2",
		"21 12", "321 12", "12 12", "1 1", "12 123", "123 12", "1 12", "3715264 38165274", "12345678 7654321", "231 312 312",
		"1234 1243 1324 1342 1423 1432 2134 2143 2314", "1234 1243 1324 1342 1423 1432 2134 2143 21", "1234 1243 1324 1342 1423 1432 2134 2143 ",
		strings.Repeat(" ", 1000), strings.Repeat("1", 1000), strings.Repeat("12 ", 1000) + "12",
	}
	for _, text := range texts {
		checkParsedBasis(t, text, nil, false)
	}
	for _, text := range basisTexts()[1:] {
		for _, wrong := range []string{" " + text, text + " ", text + " -", text + " " + text, text + " 10", "0 " + text, text + "\n", text + " 1"} {
			checkParsedBasis(t, wrong, nil, false)
		}
	}
}

func TestParseBasisOfAllTexts(t *testing.T) {
	known := map[string]bool{}
	for _, list := range shortLists() {
		if isBasisByAll(list) {
			var texts []string
			for _, p := range list {
				texts = append(texts, impl.PermText(p))
			}
			known[strings.Join(texts, " ")] = true
		}
	}
	for _, text := range textsUpTo(7, "123- ") {
		list, ok := impl.ParseBasis(text)
		if ok != known[text] || ok && !isBasisByAll(list) || !ok && len(list) > 0 {
			t.Fatalf("ParseBasis(%q) is %v, %t", text, list, ok)
		}
		if got := impl.BasisText(list); ok && got != text {
			t.Errorf("BasisText of ParseBasis(%q) is %q", text, got)
		}
	}
}

func TestBasisUpTo(t *testing.T) {
	cases := []struct {
		list string
		n    int
		want string
	}{
		{"", 0, ""},
		{"", 1, "1"},
		{"", 2, "1"},
		{"", 6, "1"},
		{"1", 0, ""},
		{"1", 1, ""},
		{"1", 2, "12 21"},
		{"1", 3, "12 21"},
		{"1 1 1", 3, "12 21"},
		{"1 12", 2, "21"},
		{"1 12", 3, "21 123"},
		{"12 1", 3, "21 123"},
		{"1 12 123", 3, "21"},
		{"1 12 123", 4, "21 1234"},
		{"1 12 21", 3, "123 132 213 231 312 321"},
		{"12345678", 6, "1"},
		{"1 12345678", 6, "12 21"},
		// A list that is no class: 12 is in it, 1 is not.
		{"12", 1, "1"},
		{"12", 3, "1 123"},
		{"21 231 312", 3, "1 321"},
		{"132 213 231 312", 4, "1 2143 2413 3142 3412"},
	}
	for _, c := range cases {
		list := listOf(c.list)
		checkPerms(t, impl.BasisUpTo(list, c.n), listOf(c.want), "BasisUpTo", c.list, c.n)
		checkPerms(t, impl.BasisUpTo(append(list, nil), c.n), listOf(c.want), "BasisUpTo with the empty permutation", c.list, c.n)
		checkPerms(t, impl.BasisUpTo(append([][]int{{}}, list...), c.n), listOf(c.want), "BasisUpTo with the empty permutation", c.list, c.n)
	}
	checkPerms(t, impl.BasisUpTo(nil, 0), nil, "BasisUpTo", nil, 0)
	checkPerms(t, impl.BasisUpTo(permsUpTo(6), 6), nil, "BasisUpTo of all", 6)
	checkPerms(t, impl.BasisUpTo(permsUpTo(5), 6), impl.PermsOf(6), "BasisUpTo of all", 5, 6)
}

// TestBasisUpToOfAllLists takes each set of permutations up to length 3.
func TestBasisUpToOfAllLists(t *testing.T) {
	all := permsUpTo(3)
	for bits := range 1 << len(all) {
		var list [][]int
		for i, p := range all {
			if bits>>i&1 == 1 {
				list = append(list, p)
			}
		}
		for n := 0; n <= 4; n++ {
			checkPerms(t, impl.BasisUpTo(list, n), basisUpToByAll(list, n), "BasisUpTo", list, n)
		}
	}
}

// upTo returns the permutations of a basis up to a length.
func upTo(basis [][]int, n int) [][]int {
	return slices.DeleteFunc(slices.Clone(basis), func(p []int) bool { return len(p) > n })
}

// TestBasisUpToOfAClass tells each basis by the permutations of its class.
func TestBasisUpToOfAClass(t *testing.T) {
	for _, basis := range someBases() {
		var list [][]int
		for n := 0; n <= 6; n++ {
			list = append(list, impl.ClassOf(basis, n)...)
			want := upTo(basis, n)
			checkPerms(t, impl.BasisUpTo(list, n), want, "BasisUpTo of the class of", basis, n)
			for shorter := range n {
				checkPerms(t, impl.BasisUpTo(list, shorter), upTo(basis, shorter), "BasisUpTo of the class of", basis, shorter)
			}
			backward := slices.Clone(list)
			slices.Reverse(backward)
			checkPerms(t, impl.BasisUpTo(backward, n), want, "BasisUpTo of the class, backward, of", basis, n)
			checkPerms(t, impl.BasisUpTo(slices.Concat(list, backward, longPerms()), n), want, "BasisUpTo of the class, twice, of", basis, n)
			checkPerms(t, impl.BasisUpTo(list[min(1, len(list)):], n), want, "BasisUpTo of the class, without the empty permutation, of", basis, n)
		}
	}
}

func TestBasisUpToRejects(t *testing.T) {
	for _, wrong := range notPerms() {
		for n := -1; n <= 7; n++ {
			for _, list := range [][][]int{{wrong}, {wrong, {1}}, {{1}, wrong}, {{1}, {1, 2}, wrong, {2, 1}}, append(permsUpTo(4), wrong)} {
				checkPerms(t, impl.BasisUpTo(list, n), nil, "BasisUpTo", list, n)
			}
		}
	}
	for _, n := range append(numbersAround(), 7, 8, 9) {
		for _, list := range [][][]int{nil, {}, {nil}, {{1}}, {{1}, {2, 1}}, permsUpTo(4), {{2, 2}}} {
			checkPerms(t, impl.BasisUpTo(list, n), nil, "BasisUpTo", list, n)
		}
	}
}

func TestClassesLeaveTheirArguments(t *testing.T) {
	lists := append(someBases(), notBases()...)
	lists = append(lists, listOf("321 12 321 123 12"), listOf("12 21 1"), listOf("2143 2134 1432 1423 1342 1324 1243 1234 2143"), [][]int{{}, {1}, nil, {1, 2}})
	for _, list := range lists {
		g := guardLists(list)
		impl.IsBasis(g.lists)
		impl.BasisText(g.lists)
		basis, _ := impl.MakeBasis(g.lists)
		spoilAll(basis)
		for _, n := range []int{-1, 0, 1, 3, 4, 7} {
			spoilAll(impl.ClassOf(g.lists, n))
			spoil(impl.ClassCounts(g.lists, n))
			spoilAll(impl.BasisUpTo(g.lists, n))
		}
		for _, p := range [][]int{nil, {1}, {2}, digits("2413"), digits("38165274")} {
			alone := guard(p)
			impl.InClass(g.lists, alone.list)
			alone.check(t, "InClass")
		}
		if len(g.lists) > 0 {
			// The same memory in both arguments.
			impl.InClass(g.lists, g.lists[0])
		}
		g.check(t, "a function of chapter 12")
	}
}

func TestClassesAreNewMemory(t *testing.T) {
	for _, list := range append(someBases(), listOf("321 12 321 123 12"), listOf("12 21 1")) {
		checkNewMemory(t, "MakeBasis", func() [][]int {
			basis, _ := impl.MakeBasis(list)
			return basis
		})
		checkNewMemory(t, "ParseBasis", func() [][]int {
			basis, _ := impl.ParseBasis(impl.BasisText(list))
			return basis
		})
		checkNewMemory(t, "ClassCounts", func() [][]int { return [][]int{impl.ClassCounts(list, 3), impl.ClassCounts(list, 4)} })
		for n := 0; n <= 4; n++ {
			checkNewMemory(t, "ClassOf", func() [][]int { return impl.ClassOf(list, n) })
			checkNewMemory(t, "BasisUpTo", func() [][]int { return impl.BasisUpTo(list, n) })
		}
	}
}
