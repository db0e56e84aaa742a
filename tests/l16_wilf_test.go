package tests

import (
	"slices"
	"testing"

	"loop.example/g03101/impl"
)

func countsByAll(basis [][]int, n int) []int {
	var counts []int
	for length := range n + 1 {
		counts = append(counts, len(classByAll(basis, length)))
	}
	return counts
}

// wordByAll compares counts for the lengths 0 to 4, 5 or 6 with the numbers that belong to each word.
func wordByAll(counts []int) string {
	for _, known := range []struct {
		word    string
		numbers []int
	}{
		{"one", []int{1, 1, 1, 1, 1, 1, 1}},
		{"powers", []int{1, 1, 2, 4, 8, 16, 32}},
		{"fibonacci", []int{1, 1, 2, 3, 5, 8, 13}},
		{"catalan", []int{1, 1, 2, 5, 14, 42, 132}},
		{"schroeder", []int{1, 1, 2, 6, 22, 90, 394}},
	} {
		if slices.Equal(counts, known.numbers[:len(counts)]) {
			return known.word
		}
	}
	return "other"
}

// imageBasis moves each point of the pictures of a basis.
func imageBasis(basis [][]int, k int) [][]int {
	var image [][]int
	for _, p := range basis {
		image = append(image, imageOf(p, k))
	}
	slices.SortFunc(image, byLength)
	return image
}

func checkAlike(t *testing.T, a [][]int, b [][]int, n int, want bool) {
	t.Helper()
	checkTruth(t, impl.AreWilfLike(a, b, n), want, "AreWilfLike", a, b, n)
}

func checkGroups(t *testing.T, k int, n int, want [][][]int) {
	t.Helper()
	got := impl.WilfGroups(k, n)
	same := func(a [][]int, b [][]int) bool { return slices.EqualFunc(a, b, slices.Equal) }
	if !slices.EqualFunc(got, want, same) {
		t.Errorf("WilfGroups(%d, %d) is %v, not %v", k, n, got, want)
	}
}

func checkKnown(t *testing.T, list [][]int, n int, want string) {
	t.Helper()
	if got := impl.KnownCounts(list, n); got != want {
		t.Errorf("KnownCounts(%v, %d) is %q, not %q", list, n, got, want)
	}
}

// neverParts stands for a length at which no counts are compared.
const neverParts = 7

func TestAreWilfLike(t *testing.T) {
	cases := []struct {
		a, b  string
		parts int
	}{
		{"", "", neverParts},
		{"1", "1", neverParts},
		{"12", "21", neverParts},
		{"12 321", "21 123", neverParts},
		{"123", "132", neverParts},
		{"231", "321", neverParts},
		{"132 231", "231 312", neverParts},
		{"123 231", "132 321", neverParts},
		{"123 132 231", "132 213 321", neverParts},
		{"231 312 321", "123 132 213", neverParts},
		{"2413 3142", "1234 2134", neverParts},
		{"1234", "2143", neverParts},
		{"1342", "2413", neverParts},
		{"1324", "4231", neverParts},
		// What is longer than 6 is never missed.
		{"", "7654321", neverParts},
		{"", "12345678", neverParts},
		{"7654321", "38165274", neverParts},
		{"12", "12 7654321", neverParts},
		{"12", "21 12345678", neverParts},
		{"", "1", 1},
		{"1", "12", 1},
		{"1", "12 21", 1},
		{"1", "231", 1},
		{"1", "12345678", 1},
		{"", "12", 2},
		{"12", "12 21", 2},
		{"12", "123", 2},
		{"12", "2413 3142", 2},
		{"", "123", 3},
		{"12", "12 321", 3},
		{"12", "21 123", 3},
		{"231", "231 312", 3},
		{"123 132", "123 132 213", 3},
		{"2413", "231", 3},
		{"", "1234", 4},
		{"12", "12 4321", 4},
		{"123 321", "132 231", 4},
		{"132 321", "132 231", 4},
		{"1234", "1234 4321", 4},
		{"2413", "2413 3142", 4},
		{"", "25314", 5},
		{"12", "12 54321", 5},
		{"231", "231 54321", 5},
		{"2143 3412", "2413 3142", 5},
		{"2143 3412", "3412 4231", 5},
		{"", "654321", 6},
		{"12", "12 654321", 6},
		{"321", "321 123456", 6},
		{"1342", "1324", 6},
		{"2413", "1234", 6},
		// These part and meet again: a later length has the same count.
		{"12", "123 132 213 231 312", 2},
		{"12 21", "12 321", 2},
		{"1", "12 21", 1},
		{"123 231 312 321", "123 132 231 321", 4},
	}
	for _, c := range cases {
		for n := 0; n <= 6; n++ {
			checkAlike(t, listOf(c.a), listOf(c.b), n, n < c.parts)
			checkAlike(t, listOf(c.b), listOf(c.a), n, n < c.parts)
		}
	}
}

func TestAreWilfLikeByAll(t *testing.T) {
	for _, c := range []struct {
		bases [][][]int
		most  int
	}{{fewBases(), 6}, {shortBases(), 4}} {
		var counts [][]int
		for _, basis := range c.bases {
			counts = append(counts, countsByAll(basis, c.most))
		}
		for i, a := range c.bases {
			for j, b := range c.bases {
				for n := 0; n <= c.most; n++ {
					checkAlike(t, a, b, n, slices.Equal(counts[i][:n+1], counts[j][:n+1]))
				}
			}
		}
	}
}

// TestEachClassIsLikeItself hands over one basis twice, in the same memory and in another one.
func TestEachClassIsLikeItself(t *testing.T) {
	for _, basis := range append(someBases(), shortBases()...) {
		for n := 0; n <= 6; n++ {
			checkAlike(t, basis, basis, n, true)
			checkAlike(t, basis, guardLists(basis).lists, n, true)
		}
	}
	for n := 0; n <= 6; n++ {
		checkAlike(t, nil, [][]int{}, n, true)
		checkAlike(t, [][]int{{2, 2}}[:0], nil, n, true)
	}
}

// TestSymmetricClassesHaveTheSameCounts is promise 16.
func TestSymmetricClassesHaveTheSameCounts(t *testing.T) {
	for _, basis := range append(someBases(), shortBases()...) {
		for k := range 8 {
			image := imageBasis(basis, k)
			for n := 0; n <= 5; n++ {
				checkAlike(t, basis, image, n, true)
			}
			checkKnown(t, image, 5, impl.KnownCounts(basis, 5))
		}
	}
	for _, basis := range fewBases() {
		for k := range 8 {
			image := imageBasis(basis, k)
			checkAlike(t, image, basis, 6, true)
			checkKnown(t, image, 6, impl.KnownCounts(basis, 6))
		}
	}
}

// TestSymmetryBasesAreAlike is promise 16 with SymmetryBasis, whose bases are compared with each other.
func TestSymmetryBasesAreAlike(t *testing.T) {
	for _, basis := range fewBases() {
		for k := range 8 {
			for m := range 8 {
				a, _ := impl.SymmetryBasis(basis, k)
				b, _ := impl.SymmetryBasis(basis, m)
				checkAlike(t, a, b, 5, true)
			}
		}
	}
}

func TestWilfGroups(t *testing.T) {
	for k := 1; k <= 4; k++ {
		for n := 0; n <= 6; n++ {
			// Only at the length 6 do classes without one permutation of length 4 part.
			if k < 4 || n < 6 {
				checkGroups(t, k, n, [][][]int{impl.PermsOf(k)})
			}
		}
	}
	checkGroups(t, 1, 6, [][][]int{{{1}}})
	checkGroups(t, 2, 6, [][][]int{{{1, 2}, {2, 1}}})
	checkGroups(t, 3, 3, [][][]int{listOf("123 132 213 231 312 321")})
	checkGroups(t, 4, 6, [][][]int{
		listOf("1234 1243 1324 1432 2134 2143 2341 3214 3412 3421 4123 4231 4312 4321"),
		listOf("1342 1423 2314 2413 2431 3124 3142 3241 4132 4213"),
	})
}

// groupsByAll puts each permutation into the first group that has one with the same counts.
func groupsByAll(k int, n int) [][][]int {
	var groups [][][]int
	for _, p := range impl.PermsOf(k) {
		i := slices.IndexFunc(groups, func(group [][]int) bool {
			return slices.Equal(countsByAll([][]int{p}, n), countsByAll(group[:1], n))
		})
		if i < 0 {
			groups = append(groups, [][]int{p})
		} else {
			groups[i] = append(groups[i], p)
		}
	}
	return groups
}

func TestWilfGroupsByAll(t *testing.T) {
	for k := 1; k <= 4; k++ {
		for n := 0; n <= 6; n++ {
			checkGroups(t, k, n, groupsByAll(k, n))
		}
	}
}

// TestEachPermIsInOneGroup looks at what the groups are for all k and n, in order.
func TestEachPermIsInOneGroup(t *testing.T) {
	for k := 1; k <= 4; k++ {
		for n := 0; n <= 6; n++ {
			groups := impl.WilfGroups(k, n)
			all := slices.Concat(groups...)
			slices.SortFunc(all, byLength)
			checkPerms(t, all, impl.PermsOf(k), "all groups of WilfGroups", k, n)
			var firsts [][]int
			for _, group := range groups {
				checkTruth(t, len(group) > 0 && slices.IsSortedFunc(group, byLength), true, "the order in a group of WilfGroups", k, n, group)
				firsts = append(firsts, group[0])
			}
			checkTruth(t, slices.IsSortedFunc(firsts, byLength), true, "the order of WilfGroups", k, n)
		}
	}
}

func TestGroupsAreWilfLike(t *testing.T) {
	for k := 1; k <= 4; k++ {
		for n := 0; n <= 6; n++ {
			groups := impl.WilfGroups(k, n)
			for i, group := range groups {
				for _, p := range group {
					for j, other := range groups {
						checkAlike(t, [][]int{p}, other[:1], n, i == j)
						checkAlike(t, other[len(other)-1:], [][]int{p}, n, i == j)
					}
				}
			}
		}
	}
}

func TestGroupsHaveTheSymmetricOnes(t *testing.T) {
	for k := 1; k <= 4; k++ {
		for n := 0; n <= 6; n++ {
			for _, group := range impl.WilfGroups(k, n) {
				for _, p := range group {
					for _, image := range impl.SymmetryClass(p) {
						checkTruth(t, holdsPerm(group, image), true, "a symmetric one in a group of WilfGroups", k, n, p, image)
					}
				}
			}
		}
	}
}

func TestCatalanNumber(t *testing.T) {
	numbers := []int{
		1, 1, 2, 5, 14, 42, 132, 429, 1430, 4862, 16796, 58786, 208012, 742900, 2674440, 9694845, 35357670, 129644790, 477638700, 1767263190, 6564120420,
	}
	for n, want := range numbers {
		checkNumber(t, impl.CatalanNumber(n), want, "CatalanNumber", n)
		checkNumber(t, impl.CatalanNumber(n)*(n+1), impl.Choose(2*n, n), "(n + 1) * CatalanNumber", n)
	}
	for n := 1; n <= 20; n++ {
		sum := 0
		for k := range n {
			sum += impl.CatalanNumber(k) * impl.CatalanNumber(n-1-k)
		}
		checkNumber(t, impl.CatalanNumber(n), sum, "CatalanNumber", n)
	}
}

func TestSchroederNumber(t *testing.T) {
	numbers := []int{
		1, 2, 6, 22, 90, 394, 1806, 8558, 41586, 206098, 1037718, 5293446, 27297738, 142078746, 745387038, 3937603038,
	}
	for n, want := range numbers {
		checkNumber(t, impl.SchroederNumber(n), want, "SchroederNumber", n)
		// The recursion is the document's, the sum counts paths by their level steps.
		sum := 0
		for k := 0; k <= n; k++ {
			sum += impl.Choose(2*n-k, k) * impl.CatalanNumber(n-k)
		}
		checkNumber(t, impl.SchroederNumber(n), sum, "SchroederNumber", n)
	}
}

func TestFibonacciNumber(t *testing.T) {
	for n, want := range map[int]int{0: 1, 1: 1, 2: 2, 3: 3, 4: 5, 5: 8, 6: 13, 7: 21, 10: 89, 20: 10946, 30: 1346269, 39: 102334155, 40: 165580141} {
		checkNumber(t, impl.FibonacciNumber(n), want, "FibonacciNumber", n)
	}
	for n := 0; n <= 40; n++ {
		sum := 0
		for k := 0; k <= n; k++ {
			sum += impl.Choose(n-k, k)
		}
		checkNumber(t, impl.FibonacciNumber(n), sum, "FibonacciNumber", n)
		if n >= 2 {
			checkNumber(t, impl.FibonacciNumber(n), impl.FibonacciNumber(n-1)+impl.FibonacciNumber(n-2), "FibonacciNumber", n)
		}
	}
}

func TestSizesRejectNumbers(t *testing.T) {
	outside := append(numbersAround(), 43, 100)
	for _, c := range []struct {
		name     string
		function func(n int) int
		greatest int
	}{
		{"CatalanNumber", impl.CatalanNumber, 20},
		{"SchroederNumber", impl.SchroederNumber, 15},
		{"FibonacciNumber", impl.FibonacciNumber, 40},
	} {
		for _, n := range append(outside, c.greatest+1, c.greatest+2, c.greatest*2+2) {
			checkNumber(t, c.function(n), -1, c.name, n)
		}
		for n := 0; n <= c.greatest; n++ {
			checkTruth(t, c.function(n) >= 1, true, c.name, n)
		}
	}
}

func TestKnownCounts(t *testing.T) {
	// The words for the lengths up to 4, 5 and 6.
	cases := []struct {
		words [3]string
		bases []string
	}{
		{[3]string{"one", "one", "one"}, []string{"12", "21", "12 7654321", "12 87654321", "21 12345678"}},
		{[3]string{"one", "one", "other"}, []string{"12 654321", "21 123456"}},
		{[3]string{"one", "other", "other"}, []string{"12 54321", "21 12345"}},
		{[3]string{"powers", "powers", "powers"}, []string{"123 132", "132 213", "132 231", "231 312", "231 321", "312 321", "231 312 7654321"}},
		{[3]string{"powers", "powers", "other"}, []string{"231 312 654321", "132 231 123456"}},
		{[3]string{"powers", "other", "other"}, []string{"231 312 54321", "132 231 12345"}},
		{[3]string{"fibonacci", "fibonacci", "fibonacci"}, []string{"231 312 321", "123 132 213", "231 312 321 12345678"}},
		{[3]string{"fibonacci", "fibonacci", "other"}, []string{"231 312 321 123456"}},
		{[3]string{"fibonacci", "other", "other"}, []string{"231 312 321 12345", "123 132 213 54321"}},
		{[3]string{"catalan", "catalan", "catalan"}, []string{"123", "132", "213", "231", "312", "321", "321 1234567"}},
		{[3]string{"catalan", "catalan", "other"}, []string{"231 654321", "321 123456"}},
		{[3]string{"catalan", "other", "other"}, []string{"231 54321", "321 12345"}},
		{[3]string{"schroeder", "schroeder", "schroeder"}, []string{"2413 3142", "1234 2134", "2413 3142 12345678"}},
		{[3]string{"schroeder", "schroeder", "other"}, []string{"2413 3142 654321"}},
		{[3]string{"schroeder", "other", "other"}, []string{"2143 3412", "3412 4231", "2413 3142 54321"}},
		// No word applies, also where the counts before that for 4 are those of one.
		{[3]string{"other", "other", "other"}, []string{
			"", "1", "12 21", "12 321", "21 123", "12 4321", "21 1234", "123 321", "132 321", "132 4321", "231 312 4321", "231 312 321 2143", "123 2143 3412",
			"1234", "2413", "25314", "54321", "12345678", "7654321 12345678", "123 132 231", "132 213 231 312", "123 132 213 231 312 321",
		}},
	}
	for _, c := range cases {
		for _, text := range c.bases {
			for i, word := range c.words {
				checkKnown(t, listOf(text), 4+i, word)
			}
		}
	}
	checkKnown(t, [][]int{}, 4, "other")
}

func TestKnownCountsByAll(t *testing.T) {
	for _, basis := range append(someBases(), shortBases()...) {
		counts := countsByAll(basis, 6)
		for n := 4; n <= 6; n++ {
			checkKnown(t, basis, n, wordByAll(counts[:n+1]))
		}
	}
}

// TestKnownCountsTellTheNumbers compares the counts with the functions that the words name.
func TestKnownCountsTellTheNumbers(t *testing.T) {
	found := map[string]int{}
	for _, basis := range append(someBases(), shortBases()...) {
		counts := impl.ClassCounts(basis, 6)
		word := impl.KnownCounts(basis, 6)
		found[word]++
		for m := 1; m <= 6; m++ {
			switch word {
			case "one":
				checkNumber(t, counts[m], 1, "one", basis, m)
			case "powers":
				checkNumber(t, counts[m], 1<<(m-1), "powers", basis, m)
			case "fibonacci":
				checkNumber(t, counts[m], impl.FibonacciNumber(m), word, basis, m)
			case "catalan":
				checkNumber(t, counts[m], impl.CatalanNumber(m), word, basis, m)
			case "schroeder":
				checkNumber(t, counts[m], impl.SchroederNumber(m-1), word, basis, m)
			}
		}
	}
	for _, word := range []string{"one", "powers", "fibonacci", "catalan", "schroeder", "other"} {
		checkTruth(t, found[word] > 0, true, "whether a basis has the word", word)
	}
	checkNumber(t, len(found), 6, "the number of words")
}

// TestSizesRejectLists hands over lists that are no basis, at either place and at both.
func TestSizesRejectLists(t *testing.T) {
	for _, wrong := range notBases() {
		for _, n := range []int{-1, 0, 1, 3, 5, 7} {
			for _, other := range append(partners(), wrong, [][]int{{}}, [][]int{{2, 2}}) {
				checkAlike(t, wrong, other, n, false)
				checkAlike(t, other, wrong, n, false)
			}
		}
		for _, n := range append(numbersAround(), 0, 3, 4, 5, 6, 7) {
			checkKnown(t, wrong, n, "")
		}
	}
}

func TestSizesRejectLengths(t *testing.T) {
	outside := append(numbersAround(), 7, 8, 9, 12)
	for _, a := range append(partners(), fewBases()...) {
		for _, n := range outside {
			for _, b := range append(partners(), a) {
				checkAlike(t, a, b, n, false)
			}
			checkKnown(t, a, n, "")
		}
		for n := 0; n <= 3; n++ {
			checkKnown(t, a, n, "")
		}
	}
}

func TestWilfGroupsReject(t *testing.T) {
	wrongLengths := append(numbersAround(), 0, 5, 6, 7, 8)
	wrongCounts := append(numbersAround(), 7, 8, 9)
	for _, k := range wrongLengths {
		for n := 0; n <= 6; n++ {
			checkGroups(t, k, n, nil)
		}
		for _, n := range wrongCounts {
			checkGroups(t, k, n, nil)
		}
	}
	for k := 1; k <= 4; k++ {
		for _, n := range wrongCounts {
			checkGroups(t, k, n, nil)
		}
	}
}

func TestSizesLeaveTheirArguments(t *testing.T) {
	lists := append(fewBases(), listOf("321 12"), listOf("1 12"), [][]int{{}, {1}}, [][]int{{2, 2}}, impl.PermsOf(4)[:8], impl.PermsOf(4)[:9])
	for _, a := range lists {
		for _, b := range lists {
			g, h := guardLists(a), guardLists(b)
			for _, n := range []int{-1, 0, 3, 4, 7} {
				impl.AreWilfLike(g.lists, h.lists, n)
				impl.AreWilfLike(g.lists, g.lists, n)
			}
			g.check(t, "AreWilfLike")
			h.check(t, "AreWilfLike")
		}
		g := guardLists(a)
		for _, n := range []int{-1, 3, 4, 5, 6, 7} {
			impl.KnownCounts(g.lists, n)
		}
		g.check(t, "KnownCounts")
	}
}

// TestWilfGroupsAreNewMemory spoils each group, its permutations and its unused capacity, and looks at those that are left.
func TestWilfGroupsAreNewMemory(t *testing.T) {
	for k := 1; k <= 4; k++ {
		for _, n := range []int{0, 3, 6} {
			want, found := impl.WilfGroups(k, n), impl.WilfGroups(k, n)
			for i, group := range found {
				spoilAll(group)
				for j := i + 1; j < len(found); j++ {
					checkPerms(t, found[j], want[j], "a later group of WilfGroups", k, n)
				}
			}
			clear(found[:cap(found)])
			checkGroups(t, k, n, want)
			checkNewMemory(t, "WilfGroups", func() [][]int { return slices.Concat(impl.WilfGroups(k, n)...) })
		}
	}
}
