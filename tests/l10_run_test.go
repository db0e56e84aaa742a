package tests

import (
	"math"
	"slices"
	"testing"

	"loop.example/g03101/impl"
)

// runsByAll returns the first places of the consecutive occurrences of q in p, told by each pair of places.
func runsByAll(p []int, q []int) []int {
	var found []int
	for first := 1; first+len(q)-1 <= len(p); first++ {
		if numbersStandAs(q, p, countUp(first, first+len(q)-1)) {
			found = append(found, first)
		}
	}
	return found
}

// overlapsByAll compares the first and the last k numbers pair by pair.
func overlapsByAll(q []int) []int {
	var found []int
	for k := 1; k < len(q); k++ {
		if numbersStandAs(q[:k], q, countUp(len(q)-k+1, len(q))) {
			found = append(found, k)
		}
	}
	return found
}

func factorial(n int) int {
	product := 1
	for _, v := range countUp(1, n) {
		product *= v
	}
	return product
}

// numbersAround lists numbers that are outside of every range of the document.
func numbersAround() []int {
	return []int{math.MinInt, math.MinInt + 1, -1 << 32, -64, -41, -13, -7, -2, -1, 41, 42, 64, 1 << 16, 1 << 32, 1<<32 + 1, math.MaxInt - 1, math.MaxInt}
}

func checkRuns(t *testing.T, p []int, q []int, want int) {
	t.Helper()
	if got := impl.CountRuns(p, q); got != want {
		t.Errorf("CountRuns(%v, %v) is %d, not %d", p, q, got, want)
	}
}

func checkAvoid(t *testing.T, n int, q []int, want int) {
	t.Helper()
	if got := impl.AvoidRuns(n, q); got != want {
		t.Errorf("AvoidRuns(%d, %v) is %d, not %d", n, q, got, want)
	}
}

// checkOverlaps compares what OverlapsOf and IsLoose tell.
func checkOverlaps(t *testing.T, q []int, want []int) {
	t.Helper()
	checkList(t, impl.OverlapsOf(q), want, "OverlapsOf", q)
	if got := impl.IsLoose(q); got != (len(want) == 1) {
		t.Errorf("IsLoose(%v) is %t", q, got)
	}
}

func checkAlternating(t *testing.T, p []int, want bool) {
	t.Helper()
	if got := impl.IsAlternating(p); got != want {
		t.Errorf("IsAlternating(%v) is %t", p, got)
	}
}

func checkChoose(t *testing.T, n int, k int, want int) {
	t.Helper()
	if got := impl.Choose(n, k); got != want {
		t.Errorf("Choose(%d, %d) is %d, not %d", n, k, got, want)
	}
}

func TestCountRuns(t *testing.T) {
	cases := []struct {
		p, q string
		want int
	}{
		{"", "1", 0},
		{"", "12", 0},
		{"", "38165274", 0},
		{"1", "1", 1},
		{"1", "12", 0},
		{"1", "21", 0},
		{"12", "1", 2},
		{"12", "12", 1},
		{"12", "21", 0},
		{"21", "21", 1},
		{"21", "213", 0},
		{"2413", "1", 4},
		{"2413", "12", 2},
		{"2413", "21", 1},
		{"2413", "231", 1},
		{"2413", "312", 1},
		{"2413", "132", 0},
		{"2413", "213", 0},
		{"2413", "2413", 1},
		{"2413", "3142", 0},
		{"2413", "24135", 0},
		{"52341", "4231", 0},
		{"52341", "123", 1},
		{"52341", "12", 2},
		{"214365", "2143", 2},
		{"214365", "213", 2},
		{"214365", "132", 2},
		{"214365", "21", 3},
		{"12345678", "123", 6},
		{"12345678", "12345678", 1},
		{"12345678", "1", 8},
		{"87654321", "4321", 5},
		{"87654321", "12", 0},
		{"81234567", "1234567", 1},
		{"81234567", "7123456", 1},
		{"38165274", "132", 2},
		{"38165274", "213", 1},
		{"38165274", "231", 1},
		{"38165274", "321", 1},
		{"38165274", "312", 1},
		{"38165274", "38165274", 1},
		{"38165274", "37165284", 0},
	}
	for _, c := range cases {
		checkRuns(t, digits(c.p), digits(c.q), c.want)
	}
}

func TestCountRunsRejects(t *testing.T) {
	perms := append(permsUpTo(4), longPerms()...)
	for _, p := range append(perms, notPerms()...) {
		checkRuns(t, p, nil, -1)
		checkRuns(t, p, []int{}, -1)
		checkRuns(t, p, []int{1}[:0], -1)
	}
	for _, wrong := range notPerms() {
		checkRuns(t, wrong, wrong, -1)
		for _, p := range perms {
			checkRuns(t, p, wrong, -1)
			checkRuns(t, wrong, p, -1)
		}
	}
}

func TestCountRunsOfOnePlace(t *testing.T) {
	for _, p := range append(permsUpTo(6), longPerms()...) {
		checkRuns(t, p, []int{1}, len(p))
	}
}

func TestCountRunsByAll(t *testing.T) {
	patterns := append(permsUpTo(5)[1:], longPerms()...)
	for _, p := range append(permsUpTo(5), longPerms()...) {
		for _, q := range patterns {
			checkRuns(t, p, q, len(runsByAll(p, q)))
		}
	}
	for _, p := range impl.PermsOf(6) {
		for _, q := range permsUpTo(4)[1:] {
			checkRuns(t, p, q, len(runsByAll(p, q)))
		}
	}
}

func TestCountRunsOfLongPatterns(t *testing.T) {
	perms := append(permsUpTo(4)[1:], longPerms()...)
	for _, p := range perms {
		for _, q := range perms {
			switch {
			case slices.Equal(p, q):
				checkRuns(t, p, q, 1)
			case len(q) >= len(p):
				checkRuns(t, p, q, 0)
			}
		}
	}
	for _, q := range append(permsUpTo(6)[1:], longPerms()...) {
		checkRuns(t, nil, q, 0)
		checkRuns(t, []int{}, q, 0)
		checkRuns(t, q, q, 1)
	}
}

func TestCountRunsInAscendingAndDescending(t *testing.T) {
	for n := 0; n <= 8; n++ {
		for k := 1; k <= 8; k++ {
			all := max(n-k+1, 0)
			checkRuns(t, countUp(1, n), countUp(1, k), all)
			checkRuns(t, countDown(n, 1), countDown(k, 1), all)
			if k > 1 {
				checkRuns(t, countUp(1, n), countDown(k, 1), 0)
				checkRuns(t, countDown(n, 1), countUp(1, k), 0)
			}
		}
	}
}

// TestRunsAreCountedPlaceByPlace is promise 10: one place more is one run more of each length, and of one pattern alone.
func TestRunsAreCountedPlaceByPlace(t *testing.T) {
	for _, p := range append(permsUpTo(5)[1:], longPerms()...) {
		before, _ := impl.WithoutPlace(p, len(p))
		for k := 1; k <= min(len(p), 4); k++ {
			sum := 0
			for _, q := range impl.PermsOf(k) {
				want := impl.CountRuns(before, q)
				if numbersStandAs(q, p, countUp(len(p)-k+1, len(p))) {
					want++
				}
				checkRuns(t, p, q, want)
				sum += impl.CountRuns(p, q)
			}
			if sum != len(p)-k+1 {
				t.Errorf("the patterns of length %d have %d runs in %v", k, sum, p)
			}
		}
	}
}

func TestRunsAreNears(t *testing.T) {
	for _, p := range append(permsUpTo(5), longPerms()...) {
		for _, q := range append(permsUpTo(4)[1:], longPerms()...) {
			x, _ := impl.ConsecutiveOf(q)
			checkRuns(t, p, q, impl.CountNear(p, x))
		}
	}
}

// TestImagesKeepTheNumberOfRuns takes the symmetries that keep places neighbors.
func TestImagesKeepTheNumberOfRuns(t *testing.T) {
	for _, p := range append(permsUpTo(5), longPerms()...) {
		for _, q := range permsUpTo(4)[1:] {
			for _, k := range []int{2, 4, 6} {
				checkRuns(t, imageOf(p, k), imageOf(q, k), impl.CountRuns(p, q))
			}
		}
	}
}

// TestAvoidRuns compares with numbers that are known.
func TestAvoidRuns(t *testing.T) {
	cases := []struct {
		patterns []string
		want     []int
	}{
		{[]string{"1"}, []int{1, 0, 0, 0, 0, 0, 0}},
		{[]string{"12", "21"}, []int{1, 1, 1, 1, 1, 1, 1}},
		{[]string{"123", "321"}, []int{1, 1, 2, 5, 17, 70, 349}},
		{[]string{"132", "213", "231", "312"}, []int{1, 1, 2, 5, 16, 63, 296}},
		{[]string{"1234", "4321"}, []int{1, 1, 2, 6, 23, 111, 642}},
		{[]string{"2413", "3142", "1324", "4231"}, []int{1, 1, 2, 6, 23, 110, 632}},
		{[]string{"1423", "2143", "2314", "3241", "3412", "4132"}, []int{1, 1, 2, 6, 23, 110, 631}},
		{[]string{"1243", "1342", "1432", "2134", "2341", "2431", "3124", "3214", "3421", "4123", "4312"}, []int{1, 1, 2, 6, 23, 110, 630}},
		{[]string{"12345", "54321"}, []int{1, 1, 2, 6, 24, 119, 709}},
		{[]string{"38165274", "3715264", "12345678"}, []int{1, 1, 2, 6, 24, 120, 720}},
	}
	for _, c := range cases {
		for _, text := range c.patterns {
			for n, want := range c.want {
				checkAvoid(t, n, digits(text), want)
			}
		}
	}
}

func TestAvoidRunsByAll(t *testing.T) {
	for n := 0; n <= 6; n++ {
		perms := allOfLength(n)
		for _, q := range append(permsUpTo(4)[1:], longPerms()...) {
			want := 0
			for _, p := range perms {
				if len(runsByAll(p, q)) == 0 {
					want++
				}
			}
			checkAvoid(t, n, q, want)
		}
	}
}

func TestAvoidRunsOfLongPatterns(t *testing.T) {
	for n := 0; n <= 6; n++ {
		for _, q := range append(permsUpTo(6)[1:], longPerms()...) {
			switch {
			case len(q) > n:
				checkAvoid(t, n, q, factorial(n))
			case len(q) == n:
				checkAvoid(t, n, q, factorial(n)-1)
			}
		}
	}
}

func TestAvoidRunsRejects(t *testing.T) {
	wrongPatterns := append(notPerms(), nil, []int{})
	for _, n := range append(numbersAround(), 7, 8, 9) {
		for _, q := range append(wrongPatterns, digitLists("1", "12", "231", "2413", "12345678", "38165274")...) {
			checkAvoid(t, n, q, -1)
		}
	}
	for n := 0; n <= 6; n++ {
		for _, q := range wrongPatterns {
			checkAvoid(t, n, q, -1)
		}
	}
}

func TestOverlapsOf(t *testing.T) {
	cases := []struct{ q, overlaps string }{
		{"", ""},
		{"1", ""},
		{"12", "1"},
		{"21", "1"},
		{"123", "12"},
		{"132", "1"},
		{"213", "1"},
		{"231", "1"},
		{"312", "1"},
		{"321", "12"},
		{"1234", "123"},
		{"2413", "12"},
		{"3142", "12"},
		{"2143", "12"},
		{"1324", "12"},
		{"1342", "1"},
		{"1423", "12"},
		{"4321", "123"},
		{"21435", "13"},
		{"24153", "1"},
		{"13254", "13"},
		{"12543", "1"},
		{"12534", "12"},
		{"2143657", "135"},
		{"21436587", "1246"},
		{"12345678", "1234567"},
		{"87654321", "1234567"},
		{"81234567", "1"},
		{"38165274", "1"},
		{"24681357", "1234"},
	}
	for _, c := range cases {
		checkOverlaps(t, digits(c.q), digits(c.overlaps))
	}
}

func TestOverlapsOfNothing(t *testing.T) {
	for _, q := range append(notPerms(), nil, []int{}, []int{1}) {
		checkOverlaps(t, q, nil)
	}
}

func TestOverlapsOfAscendingAndDescending(t *testing.T) {
	for n := 0; n <= 8; n++ {
		checkOverlaps(t, countUp(1, n), countUp(1, n-1))
		checkOverlaps(t, countDown(n, 1), countUp(1, n-1))
	}
}

func TestOverlapsByAll(t *testing.T) {
	for _, q := range append(permsUpTo(6), longPerms()...) {
		checkOverlaps(t, q, overlapsByAll(q))
		if len(q) > 1 && !slices.Contains(impl.OverlapsOf(q), 1) {
			t.Errorf("OverlapsOf(%v) has no 1", q)
		}
		for _, k := range []int{2, 4, 6} {
			checkList(t, impl.OverlapsOf(imageOf(q, k)), overlapsByAll(q), "OverlapsOf an image of", q, k)
		}
	}
}

// TestOverlapsAreShared looks for two runs that have k places in common.
func TestOverlapsAreShared(t *testing.T) {
	for _, q := range permsUpTo(4) {
		var want []int
		for k := 1; k < len(q); k++ {
			second := len(q) - k + 1
			if slices.ContainsFunc(allOfLength(2*len(q)-k), func(p []int) bool {
				found := runsByAll(p, q)
				return slices.Contains(found, 1) && slices.Contains(found, second)
			}) {
				want = append(want, k)
			}
		}
		checkOverlaps(t, q, want)
	}
}

// TestHowManyAreLoose compares with numbers that are known.
func TestHowManyAreLoose(t *testing.T) {
	for n, want := range []int{0, 0, 2, 4, 12, 48, 280, 1864} {
		got := 0
		for _, q := range allOfLength(n) {
			if impl.IsLoose(q) {
				got++
			}
		}
		if got != want {
			t.Errorf("IsLoose is true for %d permutations of length %d, not %d", got, n, want)
		}
	}
}

func TestIsAlternating(t *testing.T) {
	cases := []struct {
		p    string
		want bool
	}{
		{"", true},
		{"1", true},
		{"12", false},
		{"21", true},
		{"123", false},
		{"132", false},
		{"213", true},
		{"231", false},
		{"312", true},
		{"321", false},
		{"2143", true},
		{"3142", true},
		{"3241", true},
		{"4132", true},
		{"4231", true},
		{"2413", false},
		{"1324", false},
		{"2134", false},
		{"4312", false},
		{"21435", true},
		{"53412", true},
		{"51423", true},
		{"2143657", true},
		{"2143675", false},
		{"21436587", true},
		{"21436578", false},
		{"81726354", true},
		{"18273645", false},
		{"38165274", false},
		{"12345678", false},
		{"87654321", false},
	}
	for _, c := range cases {
		checkAlternating(t, digits(c.p), c.want)
	}
	checkAlternating(t, nil, true)
	for _, wrong := range append(notPerms(), digitLists("212", "313", "2121", "314", "3140", "10", "20", "31", "32", "214376598", "918273645")...) {
		checkAlternating(t, wrong, false)
	}
}

// turns writes for each place but the first one whether its number is greater or less than the one before.
func turns(p []int) string {
	text := ""
	for i := range p {
		if i > 0 && p[i] > p[i-1] {
			text += "+"
		}
		if i > 0 && p[i] < p[i-1] {
			text += "-"
		}
	}
	return text
}

func TestIsAlternatingByAll(t *testing.T) {
	const wanted = "-+-+-+-"
	for n, count := range []int{1, 1, 1, 2, 5, 16, 61, 272, 1385} {
		got := 0
		for _, p := range allOfLength(n) {
			want := turns(p) == wanted[:max(n-1, 0)]
			checkAlternating(t, p, want)
			if impl.IsAlternating(p) {
				got++
			}
		}
		if got != count || impl.CountAlternating(n) != count {
			t.Errorf("IsAlternating is true for %d permutations of length %d, and CountAlternating is %d, not %d", got, n, impl.CountAlternating(n), count)
		}
	}
}

func TestIsAlternatingByRuns(t *testing.T) {
	for _, p := range append(permsUpTo(6)[4:], longPerms()...) {
		without := impl.CountRuns(p, countUp(1, 3)) == 0 && impl.CountRuns(p, countDown(3, 1)) == 0
		checkAlternating(t, p, without && p[0] > p[1])
		if without && impl.IsAlternating(p) == impl.IsAlternating(impl.ComplementPerm(p)) {
			t.Errorf("IsAlternating(%v) is that of its complement", p)
		}
	}
}

func TestCountAlternating(t *testing.T) {
	for n, want := range []int{1, 1, 1, 2, 5, 16, 61, 272, 1385, 7936, 50521, 353792, 2702765} {
		if got := impl.CountAlternating(n); got != want {
			t.Errorf("CountAlternating(%d) is %d, not %d", n, got, want)
		}
	}
	for _, n := range append(numbersAround(), 13, 14, 20, 40) {
		if got := impl.CountAlternating(n); got != -1 {
			t.Errorf("CountAlternating(%d) is %d", n, got)
		}
	}
}

func TestCountAlternatingAlongItsRecursion(t *testing.T) {
	for n := 1; n < 12; n++ {
		sum := 0
		for k := 0; k <= n; k++ {
			sum += impl.Choose(n, k) * impl.CountAlternating(k) * impl.CountAlternating(n-k)
		}
		if twice := 2 * impl.CountAlternating(n+1); twice != sum {
			t.Errorf("2 * CountAlternating(%d) is %d, not %d", n+1, twice, sum)
		}
	}
}

// TestCountAlternatingByRows adds up each row from alternate ends, with no recursion of the document.
func TestCountAlternatingByRows(t *testing.T) {
	row := []int{1}
	for n := 0; n <= 12; n++ {
		last := row[len(row)-1]
		if got := impl.CountAlternating(n); got != last {
			t.Errorf("CountAlternating(%d) is %d, not %d", n, got, last)
		}
		next := []int{0}
		for _, v := range slices.Backward(row) {
			next = append(next, next[len(next)-1]+v)
		}
		row = next
	}
}

func TestChoose(t *testing.T) {
	cases := []struct{ n, k, want int }{
		{0, 0, 1}, {1, 0, 1}, {1, 1, 1}, {2, 1, 2}, {4, 2, 6}, {5, 2, 10}, {5, 3, 10}, {8, 4, 70}, {12, 6, 924},
		{20, 10, 184756}, {39, 19, 68923264410}, {39, 20, 68923264410},
		{40, 0, 1}, {40, 1, 40}, {40, 2, 780}, {40, 3, 9880}, {40, 19, 131282408400}, {40, 20, 137846528820}, {40, 21, 131282408400}, {40, 38, 780}, {40, 39, 40}, {40, 40, 1},
	}
	for _, c := range cases {
		checkChoose(t, c.n, c.k, c.want)
	}
}

// TestChooseByRows adds neighbors of the row before.
func TestChooseByRows(t *testing.T) {
	row := []int{1}
	for n := 0; n <= 40; n++ {
		for k, want := range row {
			checkChoose(t, n, k, want)
		}
		next := []int{1}
		for k := 1; k < len(row); k++ {
			next = append(next, row[k-1]+row[k])
		}
		row = append(next, 1)
	}
}

func TestChooseByAll(t *testing.T) {
	for n := 0; n <= 10; n++ {
		for k := 0; k <= n+1; k++ {
			checkChoose(t, n, k, countChoices(n, k))
		}
	}
}

func TestChooseRejects(t *testing.T) {
	for _, n := range numbersAround() {
		for _, k := range append(numbersAround(), append(countUp(0, 40), n-1, n, n/2)...) {
			checkChoose(t, n, k, 0)
		}
	}
	for n := 0; n <= 40; n++ {
		for _, k := range append(numbersAround(), n+1, n+2, -n-1) {
			checkChoose(t, n, k, 0)
		}
	}
}

func TestRunsLeaveTheirArguments(t *testing.T) {
	lists := append(notPerms(), nil, []int{1}, []int{2, 1}, digits("132"), digits("2413"), digits("12345678"), digits("38165274"))
	for _, list := range lists {
		p := guard(list)
		for _, pattern := range lists {
			q := guard(pattern)
			impl.CountRuns(p.list, q.list)
			p.check(t, "CountRuns")
			q.check(t, "CountRuns")
		}
		impl.CountRuns(p.list, p.list)
		for _, n := range []int{-1, 0, 3, 6, 7} {
			impl.AvoidRuns(n, p.list)
		}
		spoil(impl.OverlapsOf(p.list))
		impl.IsLoose(p.list)
		impl.IsAlternating(p.list)
		p.check(t, "a function of chapter 10")
	}
}

func TestOverlapsAreNewMemory(t *testing.T) {
	for _, q := range append(permsUpTo(4), longPerms()...) {
		checkNewMemory(t, "OverlapsOf", func() [][]int { return [][]int{impl.OverlapsOf(q)} })
	}
}
