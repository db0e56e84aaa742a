package tests

import (
	"slices"
	"testing"

	"loop.example/g03101/impl"
)

// figures has all that chapter 11 tells of one permutation.
type figures struct {
	descents   []int
	inversions int
	major      int
	records    []int
	lows       []int
	fixed      int
	rises      int
	cycles     int
}

// noFigures is what chapter 11 tells of a list that is no permutation.
func noFigures() figures {
	return figures{inversions: -1, major: -1, fixed: -1, rises: -1, cycles: -1}
}

// figuresByAll compares each number with each later one.
func figuresByAll(p []int) figures {
	var told figures
	greaterBefore, lessBefore := make([]int, len(p)), make([]int, len(p))
	for i := range p {
		for j := i + 1; j < len(p); j++ {
			if p[i] > p[j] {
				told.inversions++
				greaterBefore[j]++
			} else {
				lessBefore[j]++
			}
			if p[i] > p[j] && j == i+1 {
				told.descents = append(told.descents, i+1)
				told.major += i + 1
			}
		}
	}
	for i, v := range p {
		if greaterBefore[i] == 0 {
			told.records = append(told.records, i+1)
		}
		if lessBefore[i] == 0 {
			told.lows = append(told.lows, i+1)
		}
		if v == i+1 {
			told.fixed++
		}
		if v > i+1 {
			told.rises++
		}
	}
	told.cycles = cyclesByWalking(p)
	return told
}

// cyclesByWalking goes around each cycle once.
func cyclesByWalking(p []int) int {
	count := 0
	met := make([]bool, len(p)+1)
	for start := 1; start <= len(p); start++ {
		if !met[start] {
			count++
		}
		for place := start; !met[place]; place = p[place-1] {
			met[place] = true
		}
	}
	return count
}

// permOfCycles goes along an order of places; a cycle ends at each cut, which is the number of places before it, and at the end.
func permOfCycles(order []int, cuts []int) []int {
	p := make([]int, len(order))
	start := 0
	for _, end := range append(slices.Clone(cuts), len(order)) {
		for i := start; i < end-1; i++ {
			p[order[i]-1] = order[i+1]
		}
		p[order[end-1]-1] = order[start]
		start = end
	}
	return p
}

func checkNumber(t *testing.T, got int, want int, name string, args ...any) {
	t.Helper()
	if got != want {
		t.Errorf("%s%v is %d, not %d", name, args, got, want)
	}
}

func checkFigures(t *testing.T, p []int, want figures) {
	t.Helper()
	checkList(t, impl.DescentsOf(p), want.descents, "DescentsOf", p)
	checkNumber(t, impl.CountInversions(p), want.inversions, "CountInversions", p)
	checkNumber(t, impl.MajorOf(p), want.major, "MajorOf", p)
	checkList(t, impl.RecordsOf(p), want.records, "RecordsOf", p)
	checkList(t, impl.LowsOf(p), want.lows, "LowsOf", p)
	checkNumber(t, impl.CountFixed(p), want.fixed, "CountFixed", p)
	checkNumber(t, impl.CountRises(p), want.rises, "CountRises", p)
	checkNumber(t, impl.CountCycles(p), want.cycles, "CountCycles", p)
}

func TestFigures(t *testing.T) {
	cases := []struct {
		p, descents       string
		inversions, major int
		records, lows     string
		fixed, rises      int
		cycles            int
	}{
		{"", "", 0, 0, "", "", 0, 0, 0},
		{"1", "", 0, 0, "1", "1", 1, 0, 1},
		{"12", "", 0, 0, "12", "1", 2, 0, 2},
		{"21", "1", 1, 1, "1", "12", 0, 1, 1},
		{"123", "", 0, 0, "123", "1", 3, 0, 3},
		{"132", "2", 1, 2, "12", "1", 1, 1, 2},
		{"213", "1", 1, 1, "13", "12", 1, 1, 2},
		{"231", "2", 2, 2, "12", "13", 0, 2, 1},
		{"312", "1", 2, 1, "1", "12", 0, 1, 1},
		{"321", "12", 3, 3, "1", "123", 1, 1, 2},
		{"1432", "23", 3, 5, "12", "1", 2, 1, 3},
		{"2143", "13", 2, 4, "13", "12", 0, 2, 2},
		{"2341", "3", 3, 3, "123", "14", 0, 3, 1},
		{"2413", "2", 3, 2, "12", "13", 0, 2, 1},
		{"3142", "13", 3, 4, "13", "12", 0, 2, 1},
		{"3412", "2", 4, 2, "12", "13", 0, 2, 2},
		{"4123", "1", 3, 1, "1", "12", 0, 1, 1},
		{"4321", "123", 6, 6, "1", "1234", 0, 2, 2},
		{"3715264", "246", 10, 12, "12", "13", 1, 3, 3},
		{"7654321", "123456", 21, 21, "1", "1234567", 1, 3, 4},
		{"12345678", "", 0, 0, "12345678", "1", 8, 0, 8},
		{"21436587", "1357", 4, 16, "1357", "12", 0, 4, 4},
		{"23456781", "7", 7, 7, "1234567", "18", 0, 7, 1},
		{"24681357", "4", 10, 4, "1234", "15", 0, 4, 2},
		{"38165274", "2457", 14, 18, "12", "13", 2, 3, 4},
		{"81234567", "1", 7, 1, "1", "12", 0, 1, 1},
		{"87654321", "1234567", 28, 28, "1", "12345678", 0, 4, 4},
	}
	for _, c := range cases {
		want := figures{digits(c.descents), c.inversions, c.major, digits(c.records), digits(c.lows), c.fixed, c.rises, c.cycles}
		checkFigures(t, digits(c.p), want)
	}
}

func TestFiguresOfNothing(t *testing.T) {
	checkFigures(t, nil, figures{})
	checkFigures(t, []int{}, figures{})
	checkFigures(t, []int{2, 1}[:0], figures{})
}

func TestFiguresReject(t *testing.T) {
	for _, wrong := range append(notPerms(), digitLists("10", "20", "31", "32", "3140", "2121", "214376598", "918273645", "123456789", "987654321")...) {
		checkFigures(t, wrong, noFigures())
	}
}

func TestFiguresByAll(t *testing.T) {
	for _, p := range append(permsUpTo(6), longPerms()...) {
		checkFigures(t, p, figuresByAll(p))
	}
	for _, p := range allOfLength(7) {
		checkFigures(t, p, figuresByAll(p))
	}
}

func TestFiguresOfAscendingAndDescending(t *testing.T) {
	for n := 1; n <= 8; n++ {
		checkFigures(t, countUp(1, n), figures{records: countUp(1, n), lows: []int{1}, fixed: n, cycles: n})
		pairs := n * (n - 1) / 2
		checkFigures(t, countDown(n, 1), figures{
			descents: countUp(1, n-1), inversions: pairs, major: pairs,
			records: []int{1}, lows: countUp(1, n),
			fixed: n % 2, rises: n / 2, cycles: n/2 + n%2,
		})
	}
}

func TestFiguresOfShiftedPlaces(t *testing.T) {
	for n := 2; n <= 8; n++ {
		checkFigures(t, append(countUp(2, n), 1), figures{
			descents: []int{n - 1}, inversions: n - 1, major: n - 1,
			records: countUp(1, n-1), lows: []int{1, n}, rises: n - 1, cycles: 1,
		})
		checkFigures(t, append([]int{n}, countUp(1, n-1)...), figures{
			descents: []int{1}, inversions: n - 1, major: 1,
			records: []int{1}, lows: []int{1, 2}, rises: 1, cycles: 1,
		})
	}
}

// TestOneCycle goes around all places in each order.
func TestOneCycle(t *testing.T) {
	orders := append(permsUpTo(6)[1:], longPerms()...)
	for _, order := range orders {
		p := permOfCycles(order, nil)
		checkNumber(t, impl.CountCycles(p), 1, "CountCycles", p)
		fixed := 0
		if len(p) == 1 {
			fixed = 1
		}
		checkNumber(t, impl.CountFixed(p), fixed, "CountFixed", p)
	}
}

func TestOnlyFixedPlaces(t *testing.T) {
	for _, p := range append(permsUpTo(6), longPerms()...) {
		all := slices.Equal(p, countUp(1, len(p)))
		for name, got := range map[string]bool{
			"CountFixed":      impl.CountFixed(p) == len(p),
			"CountCycles":     impl.CountCycles(p) == len(p),
			"CountRises":      impl.CountRises(p) == 0,
			"DescentsOf":      len(impl.DescentsOf(p)) == 0,
			"CountInversions": impl.CountInversions(p) == 0,
			"MajorOf":         impl.MajorOf(p) == 0,
			"RecordsOf":       len(impl.RecordsOf(p)) == len(p),
		} {
			if got != all {
				t.Errorf("%s of %v tells that the places are fixed: %t", name, p, got)
			}
		}
	}
}

// TestCyclesThatAreMade cuts each order of places into cycles in each way.
func TestCyclesThatAreMade(t *testing.T) {
	orders := append(permsUpTo(5)[1:], longPerms()...)
	for _, order := range orders {
		for _, cuts := range listsJoined(len(order)) {
			p := permOfCycles(order, cuts)
			checkNumber(t, impl.CountCycles(p), len(cuts)+1, "CountCycles", p)
			fixed, start := 0, 0
			for _, end := range append(slices.Clone(cuts), len(order)) {
				if end == start+1 {
					fixed++
				}
				start = end
			}
			checkNumber(t, impl.CountFixed(p), fixed, "CountFixed", p)
		}
	}
}

func TestInversionsArePatterns(t *testing.T) {
	for _, p := range append(permsUpTo(6), longPerms()...) {
		checkNumber(t, impl.CountInversions(p), impl.CountPattern(p, []int{2, 1}), "CountInversions", p)
		checkNumber(t, len(impl.DescentsOf(p)), impl.CountRuns(p, []int{2, 1}), "the number of DescentsOf", p)
	}
}

// TestFiguresOfImages tells the figures of symmetric permutations by those of the first one.
func TestFiguresOfImages(t *testing.T) {
	for _, p := range append(permsUpTo(6), longPerms()...) {
		n := len(p)
		reverse, complement, inverse := imageOf(p, 2), imageOf(p, 4), imageOf(p, 1)
		inversions := impl.CountInversions(p)
		checkNumber(t, impl.CountInversions(reverse), n*(n-1)/2-inversions, "CountInversions", reverse)
		checkNumber(t, impl.CountInversions(complement), n*(n-1)/2-inversions, "CountInversions", complement)
		checkNumber(t, impl.MajorOf(complement), n*(n-1)/2-impl.MajorOf(p), "MajorOf", complement)
		checkList(t, impl.RecordsOf(complement), impl.LowsOf(p), "RecordsOf", complement)
		var descents []int
		for _, place := range countUp(1, n-1) {
			if !slices.Contains(impl.DescentsOf(p), place) {
				descents = append(descents, place)
			}
		}
		checkList(t, impl.DescentsOf(complement), descents, "DescentsOf", complement)
		checkNumber(t, impl.CountInversions(inverse), inversions, "CountInversions", inverse)
		checkNumber(t, len(impl.LowsOf(inverse)), len(impl.LowsOf(p)), "the number of LowsOf", inverse)
		// Symmetry 7 takes a number and a greater one before it to such numbers again.
		turned := imageOf(p, 7)
		checkNumber(t, len(impl.RecordsOf(turned)), len(impl.RecordsOf(p)), "the number of RecordsOf", turned)
		checkNumber(t, impl.CountFixed(inverse), impl.CountFixed(p), "CountFixed", inverse)
		checkNumber(t, impl.CountRises(inverse), n-impl.CountFixed(p)-impl.CountRises(p), "CountRises", inverse)
		checkNumber(t, impl.CountCycles(inverse), impl.CountCycles(p), "CountCycles", inverse)
	}
}

// TestRenamedPlacesKeepTheirCycles renames the places of a permutation by another one.
func TestRenamedPlacesKeepTheirCycles(t *testing.T) {
	for _, p := range permsUpTo(5) {
		for _, names := range impl.PermsOf(len(p)) {
			renamed := make([]int, len(p))
			for i, v := range p {
				renamed[names[i]-1] = names[v-1]
			}
			checkNumber(t, impl.CountCycles(renamed), impl.CountCycles(p), "CountCycles", renamed)
			checkNumber(t, impl.CountFixed(renamed), impl.CountFixed(p), "CountFixed", renamed)
		}
	}
}

// TestExchangesTellCycles relies on that each exchange of two numbers makes one cycle more or one less, and changes whether the number of inversions is even.
func TestExchangesTellCycles(t *testing.T) {
	for _, p := range append(permsUpTo(6), longPerms()...) {
		if (impl.CountInversions(p)+len(p)-impl.CountCycles(p))%2 != 0 {
			t.Errorf("%v has %d inversions and %d cycles", p, impl.CountInversions(p), impl.CountCycles(p))
		}
	}
}

func TestFiguresOfSums(t *testing.T) {
	for _, p := range permsUpTo(4) {
		for _, q := range permsUpTo(4) {
			sum, skew := sumOf(false, p, q), sumOf(true, p, q)
			inversions := impl.CountInversions(p) + impl.CountInversions(q)
			checkNumber(t, impl.CountInversions(sum), inversions, "CountInversions", sum)
			checkNumber(t, impl.CountInversions(skew), inversions+len(p)*len(q), "CountInversions", skew)
			checkNumber(t, impl.CountFixed(sum), impl.CountFixed(p)+impl.CountFixed(q), "CountFixed", sum)
			checkNumber(t, impl.CountRises(sum), impl.CountRises(p)+impl.CountRises(q), "CountRises", sum)
			checkNumber(t, impl.CountCycles(sum), impl.CountCycles(p)+impl.CountCycles(q), "CountCycles", sum)
			checkNumber(t, len(impl.RecordsOf(sum)), len(impl.RecordsOf(p))+len(impl.RecordsOf(q)), "the number of RecordsOf", sum)
			checkNumber(t, len(impl.LowsOf(skew)), len(impl.LowsOf(p))+len(impl.LowsOf(q)), "the number of LowsOf", skew)
		}
	}
}

// countBy returns, for each k below length, the number of permutations of which told is k.
func countBy(t *testing.T, perms [][]int, length int, told func(p []int) int) []int {
	t.Helper()
	counts := make([]int, length)
	for _, p := range perms {
		k := told(p)
		if k < 0 || k >= length {
			t.Errorf("%v has %d, not a number from 0 to %d", p, k, length-1)
			continue
		}
		counts[k]++
	}
	return counts
}

func countDescents(p []int) int { return len(impl.DescentsOf(p)) }

func countRecords(p []int) int { return len(impl.RecordsOf(p)) }

func countLows(p []int) int { return len(impl.LowsOf(p)) }

// TestOneRowTellsInversionsAndMajor is promise 11.
func TestOneRowTellsInversionsAndMajor(t *testing.T) {
	for n := 1; n <= 8; n++ {
		perms := allOfLength(n)
		row := impl.MahonRow(n)
		checkList(t, countBy(t, perms, len(row), impl.CountInversions), row, "the permutations by CountInversions", n)
		checkList(t, countBy(t, perms, len(row), impl.MajorOf), row, "the permutations by MajorOf", n)
	}
}

func TestOneRowTellsDescentsAndRises(t *testing.T) {
	for n := 1; n <= 8; n++ {
		perms := allOfLength(n)
		row := impl.EulerRow(n)
		checkList(t, countBy(t, perms, len(row), countDescents), row, "the permutations by DescentsOf", n)
		checkList(t, countBy(t, perms, len(row), impl.CountRises), row, "the permutations by CountRises", n)
	}
}

// TestRowsByAll counts with figuresByAll alone, so that a row is not compared with what the package tells of permutations.
func TestRowsByAll(t *testing.T) {
	for n := 1; n <= 6; n++ {
		descents, inversions := make([]int, n), make([]int, n*(n-1)/2+1)
		for _, p := range allOfLength(n) {
			told := figuresByAll(p)
			descents[len(told.descents)]++
			inversions[told.inversions]++
		}
		checkList(t, impl.EulerRow(n), descents, "EulerRow", n)
		checkList(t, impl.MahonRow(n), inversions, "MahonRow", n)
	}
}

// TestCyclesRecordsAndLows compares with numbers that are known.
func TestCyclesRecordsAndLows(t *testing.T) {
	rows := [][]int{
		{1},
		{0, 1},
		{0, 1, 1},
		{0, 2, 3, 1},
		{0, 6, 11, 6, 1},
		{0, 24, 50, 35, 10, 1},
		{0, 120, 274, 225, 85, 15, 1},
		{0, 720, 1764, 1624, 735, 175, 21, 1},
		{0, 5040, 13068, 13132, 6769, 1960, 322, 28, 1},
	}
	for n, row := range rows {
		perms := allOfLength(n)
		checkList(t, countBy(t, perms, n+1, impl.CountCycles), row, "the permutations by CountCycles", n)
		checkList(t, countBy(t, perms, n+1, countRecords), row, "the permutations by RecordsOf", n)
		checkList(t, countBy(t, perms, n+1, countLows), row, "the permutations by LowsOf", n)
	}
}

// TestFixedPlaces chooses the fixed places and leaves none among the others.
func TestFixedPlaces(t *testing.T) {
	without := []int{1, 0, 1, 2, 9, 44, 265, 1854, 14833}
	for n := range without {
		row := make([]int, n+1)
		for k := range row {
			row[k] = countChoices(n, k) * without[n-k]
		}
		checkList(t, countBy(t, allOfLength(n), n+1, impl.CountFixed), row, "the permutations by CountFixed", n)
	}
}

func TestEulerRow(t *testing.T) {
	rows := [][]int{
		{1},
		{1, 1},
		{1, 4, 1},
		{1, 11, 11, 1},
		{1, 26, 66, 26, 1},
		{1, 57, 302, 302, 57, 1},
		{1, 120, 1191, 2416, 1191, 120, 1},
		{1, 247, 4293, 15619, 15619, 4293, 247, 1},
		{1, 502, 14608, 88234, 156190, 88234, 14608, 502, 1},
		{1, 1013, 47840, 455192, 1310354, 1310354, 455192, 47840, 1013, 1},
		{1, 2036, 152637, 2203488, 9738114, 15724248, 9738114, 2203488, 152637, 2036, 1},
		{1, 4083, 478271, 10187685, 66318474, 162512286, 162512286, 66318474, 10187685, 478271, 4083, 1},
	}
	for i, want := range rows {
		checkList(t, impl.EulerRow(i+1), want, "EulerRow", i+1)
	}
}

// TestEulerRowAlongItsRecursion tells each row by the one before.
func TestEulerRowAlongItsRecursion(t *testing.T) {
	at := func(row []int, k int) int {
		if k < 0 || k >= len(row) {
			return 0
		}
		return row[k]
	}
	for n := 2; n <= 12; n++ {
		before := impl.EulerRow(n - 1)
		want := make([]int, n)
		for k := range want {
			want[k] = (k+1)*at(before, k) + (n-k)*at(before, k-1)
		}
		checkList(t, impl.EulerRow(n), want, "EulerRow", n)
	}
}

func TestMahonRow(t *testing.T) {
	rows := [][]int{
		{1},
		{1, 1},
		{1, 2, 2, 1},
		{1, 3, 5, 6, 5, 3, 1},
		{1, 4, 9, 15, 20, 22, 20, 15, 9, 4, 1},
		{1, 5, 14, 29, 49, 71, 90, 101, 101, 90, 71, 49, 29, 14, 5, 1},
	}
	for i, want := range rows {
		checkList(t, impl.MahonRow(i+1), want, "MahonRow", i+1)
	}
	half := []int{1, 9, 44, 155, 440, 1068, 2298, 4489, 8095, 13640, 21670, 32683, 47043, 64889, 86054, 110010, 135853, 162337, 187959, 211089, 230131, 243694, 250749}
	other := slices.Clone(half)
	slices.Reverse(other)
	checkList(t, impl.MahonRow(10), append(half, other...), "MahonRow", 10)
}

// TestMahonRowAlongItsProduct adds each coefficient at all places that it comes to.
func TestMahonRowAlongItsProduct(t *testing.T) {
	product := []int{1}
	for i := 1; i <= 10; i++ {
		next := make([]int, len(product)+i-1)
		for k, v := range product {
			for j := range i {
				next[k+j] += v
			}
		}
		product = next
		checkList(t, impl.MahonRow(i), product, "MahonRow", i)
	}
}

// checkRow compares what holds for both kinds of rows: they count all permutations of a length, and are the same from both ends.
func checkRow(t *testing.T, row []int, n int, length int, name string) {
	t.Helper()
	if len(row) != length {
		t.Errorf("%s(%d) has %d numbers, not %d", name, n, len(row), length)
	}
	sum := 0
	for _, v := range row {
		sum += v
	}
	checkNumber(t, sum, factorial(n), "the sum of "+name, n)
	turned := slices.Clone(row)
	slices.Reverse(turned)
	checkList(t, row, turned, name, n)
}

func TestSumsOfRows(t *testing.T) {
	for n := 1; n <= 12; n++ {
		checkRow(t, impl.EulerRow(n), n, n, "EulerRow")
	}
	for n := 1; n <= 10; n++ {
		checkRow(t, impl.MahonRow(n), n, n*(n-1)/2+1, "MahonRow")
	}
}

func TestRowsReject(t *testing.T) {
	for _, n := range append(numbersAround(), 0, 13, 14, 15, 20) {
		checkList(t, impl.EulerRow(n), nil, "EulerRow", n)
	}
	for _, n := range append(numbersAround(), 0, 11, 12, 13, 14, 20) {
		checkList(t, impl.MahonRow(n), nil, "MahonRow", n)
	}
}

func TestNumbersLeaveTheirArguments(t *testing.T) {
	lists := append(notPerms(), nil, []int{1}, []int{2, 1})
	for _, list := range append(append(lists, permsUpTo(4)...), longPerms()...) {
		p := guard(list)
		spoil(impl.DescentsOf(p.list))
		spoil(impl.RecordsOf(p.list))
		spoil(impl.LowsOf(p.list))
		impl.CountInversions(p.list)
		impl.MajorOf(p.list)
		impl.CountFixed(p.list)
		impl.CountRises(p.list)
		impl.CountCycles(p.list)
		p.check(t, "a function of chapter 11")
	}
}

func TestNumbersAreNewMemory(t *testing.T) {
	for _, p := range append(permsUpTo(4), longPerms()...) {
		checkNewMemory(t, "chapter 11", func() [][]int {
			return [][]int{impl.DescentsOf(p), impl.RecordsOf(p), impl.LowsOf(p)}
		})
	}
	for n := 1; n <= 12; n++ {
		checkNewMemory(t, "the rows", func() [][]int {
			return [][]int{impl.EulerRow(n), impl.MahonRow(n), impl.EulerRow(n - 1), impl.MahonRow(n - 1)}
		})
	}
}
