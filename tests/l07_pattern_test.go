package tests

import (
	"math"
	"slices"
	"testing"

	"loop.example/g03101/impl"
)

// choicesByBits returns the ascending lists of k of the places 1 to n, in order.
func choicesByBits(n int, k int) [][]int {
	var lists [][]int
	for bits := range 1 << n {
		places := []int{}
		for place := 1; place <= n; place++ {
			if bits>>(place-1)&1 == 1 {
				places = append(places, place)
			}
		}
		if len(places) == k {
			lists = append(lists, places)
		}
	}
	slices.SortFunc(lists, slices.Compare)
	return lists
}

func countChoices(n int, k int) int { return len(choicesByBits(n, k)) }

// numbersStandAs tells by each pair of places whether the numbers of p there stand to each other as those of q.
func numbersStandAs(q []int, p []int, places []int) bool {
	for i, a := range places {
		for j, b := range places {
			if (p[a-1] < p[b-1]) != (q[i] < q[j]) {
				return false
			}
		}
	}
	return true
}

// occurrencesByAll tries each choice of places.
func occurrencesByAll(p []int, q []int) [][]int {
	var found [][]int
	for _, places := range choicesByBits(len(p), len(q)) {
		if numbersStandAs(q, p, places) {
			found = append(found, places)
		}
	}
	return found
}

// countUp returns the numbers from first to last.
func countUp(first int, last int) []int {
	list := []int{}
	for v := first; v <= last; v++ {
		list = append(list, v)
	}
	return list
}

// countDown returns the numbers from first down to last.
func countDown(first int, last int) []int {
	list := countUp(last, first)
	slices.Reverse(list)
	return list
}

func checkOccurrences(t *testing.T, p []int, q []int, want [][]int) {
	t.Helper()
	checkPerms(t, impl.OccurrencesOf(p, q), want, "OccurrencesOf", p, q)
	if got := impl.CountPattern(p, q); got != len(want) {
		t.Errorf("CountPattern(%v, %v) is %d, not %d", p, q, got, len(want))
	}
	if got := impl.HasPattern(p, q); got != (len(want) > 0) {
		t.Errorf("HasPattern(%v, %v) is %t", p, q, got)
	}
	for _, places := range want {
		if !impl.IsOccurrence(p, q, places) {
			t.Errorf("IsOccurrence(%v, %v, %v) is false", p, q, places)
		}
	}
}

func TestOccurrencesOf(t *testing.T) {
	cases := []struct {
		p, q   string
		places []string
	}{
		{"", "", []string{""}},
		{"", "1", nil},
		{"", "21", nil},
		{"1", "", []string{""}},
		{"1", "1", []string{"1"}},
		{"1", "12", nil},
		{"1", "21", nil},
		{"21", "", []string{""}},
		{"21", "1", []string{"1", "2"}},
		{"21", "12", nil},
		{"21", "21", []string{"12"}},
		{"21", "213", nil},
		{"2413", "", []string{""}},
		{"2413", "1", []string{"1", "2", "3", "4"}},
		{"2413", "12", []string{"12", "14", "34"}},
		{"2413", "21", []string{"13", "23", "24"}},
		{"2413", "123", nil},
		{"2413", "132", []string{"124"}},
		{"2413", "213", []string{"134"}},
		{"2413", "231", []string{"123"}},
		{"2413", "312", []string{"234"}},
		{"2413", "321", nil},
		{"2413", "2413", []string{"1234"}},
		{"2413", "3142", nil},
		{"2413", "24135", nil},
		{"2413", "12345678", nil},
		{"3142", "213", []string{"123"}},
		{"3142", "231", []string{"134"}},
		{"35142", "231", []string{"123", "125", "145"}},
		{"52341", "3421", nil},
		{"52341", "4231", []string{"1235", "1245", "1345"}},
		{"213465", "2143", []string{"1256"}},
		{"214365", "2143", []string{"1234", "1256", "3456"}},
		{"214365", "213", []string{"123", "124", "125", "126", "345", "346"}},
		{"38165274", "38165274", []string{"12345678"}},
		{"38165274", "37165284", nil},
		{"3715264", "38165274", nil},
	}
	for _, c := range cases {
		checkOccurrences(t, digits(c.p), digits(c.q), digitLists(c.places...))
	}
}

func TestOccurrencesReject(t *testing.T) {
	check := func(p []int, q []int) {
		t.Helper()
		checkPerms(t, impl.OccurrencesOf(p, q), nil, "OccurrencesOf", p, q)
		if got := impl.CountPattern(p, q); got != -1 {
			t.Errorf("CountPattern(%v, %v) is %d, not -1", p, q, got)
		}
		if impl.HasPattern(p, q) {
			t.Errorf("HasPattern(%v, %v) is true", p, q)
		}
		for _, last := range []int{0, 1, 2, min(len(p), 9), min(len(q), 9)} {
			if places := countUp(1, last); impl.IsOccurrence(p, q, places) {
				t.Errorf("IsOccurrence(%v, %v, %v) is true", p, q, places)
			}
		}
	}
	for _, wrong := range notPerms() {
		for _, p := range append(permsUpTo(3), longPerms()...) {
			check(p, wrong)
			check(wrong, p)
		}
		for _, other := range notPerms() {
			check(wrong, other)
		}
	}
}

func TestOccurrencesOfShortPatterns(t *testing.T) {
	patterns := permsUpTo(4)
	for _, p := range append(permsUpTo(5), longPerms()...) {
		for _, q := range patterns {
			checkOccurrences(t, p, q, occurrencesByAll(p, q))
		}
	}
}

func TestOccurrencesOfLongPatterns(t *testing.T) {
	patterns := append(allOfLength(5), longPerms()...)
	for _, p := range append(permsUpTo(4), longPerms()...) {
		for _, q := range patterns {
			checkOccurrences(t, p, q, occurrencesByAll(p, q))
		}
	}
	for _, p := range permsUpTo(5) {
		for _, q := range impl.PermsOf(len(p)) {
			var want [][]int
			if slices.Equal(p, q) {
				want = [][]int{countUp(1, len(p))}
			}
			checkOccurrences(t, p, q, want)
		}
		for _, q := range impl.PermsOf(len(p) + 1) {
			checkOccurrences(t, p, q, nil)
		}
	}
}

func TestOccurrencesInAscendingAndDescending(t *testing.T) {
	for n := 0; n <= 8; n++ {
		up, down := countUp(1, n), countDown(n, 1)
		for k := 0; k <= 8; k++ {
			all := choicesByBits(n, k)
			none := all
			if k > 1 {
				none = nil
			}
			checkOccurrences(t, up, countUp(1, k), all)
			checkOccurrences(t, down, countDown(k, 1), all)
			checkOccurrences(t, up, countDown(k, 1), none)
			checkOccurrences(t, down, countUp(1, k), none)
		}
	}
	// The greatest number of occurrences that there is.
	if got := impl.CountPattern(countDown(8, 1), countDown(4, 1)); got != 70 {
		t.Errorf("4321 occurs %d times in 87654321", got)
	}
}

func TestIsOccurrenceAtAllPlaces(t *testing.T) {
	patterns := permsUpTo(3)
	lists := listsUpTo(3, -1, 6)
	for _, p := range append(permsUpTo(3), digitLists("2413", "4231", "1234", "35142")...) {
		for _, q := range patterns {
			found := occurrencesByAll(p, q)
			for _, places := range lists {
				want := slices.ContainsFunc(found, func(list []int) bool { return slices.Equal(list, places) })
				if got := impl.IsOccurrence(p, q, places); got != want {
					t.Fatalf("IsOccurrence(%v, %v, %v) is %t", p, q, places, got)
				}
			}
		}
	}
}

func TestIsOccurrenceRejectsPlaces(t *testing.T) {
	cases := []struct {
		p, q   string
		places []int
	}{
		{"", "", []int{0}},
		{"", "", []int{1}},
		{"", "1", nil},
		{"", "1", []int{0}},
		{"1", "", []int{1}},
		{"1", "1", nil},
		{"1", "1", []int{0}},
		{"1", "1", []int{2}},
		{"1", "1", []int{-1}},
		{"1", "1", []int{1, 1}},
		{"1", "1", []int{1<<32 + 1}},
		{"1", "1", []int{math.MinInt}},
		{"1", "1", []int{math.MaxInt}},
		{"1", "12", []int{1}},
		{"1", "12", []int{1, 2}},
		{"2413", "21", []int{4, 2}},
		{"2413", "21", []int{2, 2}},
		{"2413", "12", []int{3, 1}},
		{"2413", "12", []int{4, 3}},
		{"2413", "12", []int{1, 1}},
		{"2413", "12", []int{0, 1}},
		{"2413", "12", []int{1, 5}},
		{"2413", "12", []int{1, 3}},
		{"2413", "12", []int{math.MinInt, 1}},
		{"2413", "12", []int{1, math.MaxInt}},
		{"2413", "21", []int{2}},
		{"2413", "21", []int{2, 3, 4}},
		{"2413", "21", []int{2, 4, 4}},
		{"2413", "231", []int{1, 3, 2}},
		{"2413", "231", []int{1, 2, 4}},
		{"2413", "312", []int{3, 4, 2}},
		{"2413", "2413", []int{1, 2, 3}},
		{"2413", "2413", []int{1, 2, 3, 4, 5}},
		{"2413", "2413", []int{4, 3, 2, 1}},
		{"2413", "2413", []int{0, 1, 2, 3}},
		{"2413", "2413", []int{2, 3, 4, 5}},
		{"2413", "24135", []int{1, 2, 3, 4}},
		{"2413", "24135", []int{1, 2, 3, 4, 5}},
		{"12345678", "12345678", countUp(1, 9)},
		{"12345678", "12345678", countUp(1, 7)},
		{"12345678", "12345678", countUp(0, 7)},
		{"12345678", "12345678", countUp(2, 9)},
		{"12345678", "87654321", countDown(8, 1)},
		{"12345678", "12345678", make([]int, 1000)},
	}
	for _, c := range cases {
		if impl.IsOccurrence(digits(c.p), digits(c.q), c.places) {
			t.Errorf("IsOccurrence(%s, %s, %v) is true", c.p, c.q, c.places)
		}
	}
}

func TestPatternsIn(t *testing.T) {
	cases := []struct {
		p    string
		k    int
		want []string
	}{
		{"", 0, []string{""}},
		{"1", 0, []string{""}},
		{"1", 1, []string{"1"}},
		{"12", 1, []string{"1"}},
		{"12", 2, []string{"12"}},
		{"2413", 0, []string{""}},
		{"2413", 1, []string{"1"}},
		{"2413", 2, []string{"12", "21"}},
		{"2413", 3, []string{"132", "213", "231", "312"}},
		{"2413", 4, []string{"2413"}},
		{"4231", 3, []string{"231", "312", "321"}},
		{"4231", 2, []string{"12", "21"}},
		{"35142", 3, []string{"132", "213", "231", "312", "321"}},
		{"35142", 4, []string{"2413", "2431", "3142", "3412", "4132"}},
		{"21354", 4, []string{"1243", "2134", "2143"}},
		{"654321", 3, []string{"321"}},
		{"12345678", 7, []string{"1234567"}},
		{"81234567", 7, []string{"1234567", "7123456"}},
		{"38165274", 8, []string{"38165274"}},
	}
	for _, c := range cases {
		checkPerms(t, impl.PatternsIn(digits(c.p), c.k), digitLists(c.want...), "PatternsIn", c.p, c.k)
	}
}

func TestPatternsInRejects(t *testing.T) {
	never := []int{math.MinInt, -1 << 32, -9, -2, -1, 9, 10, 1 << 32, 1<<32 + 1, math.MaxInt}
	for _, p := range append(permsUpTo(4), longPerms()...) {
		for _, k := range append(never, len(p)+1, len(p)+2) {
			checkPerms(t, impl.PatternsIn(p, k), nil, "PatternsIn", p, k)
		}
	}
	for _, p := range notPerms() {
		for _, k := range append(never, 0, 1, 2, 3, 7, 8, len(p), len(p)-1, len(p)+1) {
			checkPerms(t, impl.PatternsIn(p, k), nil, "PatternsIn", p, k)
		}
	}
}

// TestPatternsInHasWhatOccurs takes the patterns from the list of all, which is in order.
func TestPatternsInHasWhatOccurs(t *testing.T) {
	for _, p := range append(permsUpTo(5), longPerms()...) {
		for k := 0; k <= min(len(p), 5); k++ {
			var want [][]int
			for _, q := range impl.PermsOf(k) {
				if len(occurrencesByAll(p, q)) > 0 {
					want = append(want, q)
				}
			}
			checkPerms(t, impl.PatternsIn(p, k), want, "PatternsIn", p, k)
		}
	}
}

func TestPatternsInHasEachChoice(t *testing.T) {
	for _, p := range append(allOfLength(6), longPerms()...) {
		for k := 0; k <= len(p); k++ {
			patterns := impl.PatternsIn(p, k)
			all := 0
			for i, q := range patterns {
				n := impl.CountPattern(p, q)
				if len(q) != k || n < 1 || i > 0 && slices.Compare(patterns[i-1], q) >= 0 {
					t.Fatalf("PatternsIn(%v, %d) is %v", p, k, patterns)
				}
				all += n
			}
			if want := countChoices(len(p), k); all != want {
				t.Errorf("the patterns of length %d occur %d times in %v, not %d", k, all, p, want)
			}
		}
	}
}

func TestPatternsInAscendingAndDescending(t *testing.T) {
	for n := 0; n <= 8; n++ {
		up, down := countUp(1, n), countDown(n, 1)
		for k := 0; k <= n; k++ {
			checkPerms(t, impl.PatternsIn(up, k), [][]int{countUp(1, k)}, "PatternsIn", up, k)
			checkPerms(t, impl.PatternsIn(down, k), [][]int{countDown(k, 1)}, "PatternsIn", down, k)
		}
		for place := 1; place <= n; place++ {
			got, ok := impl.WithoutPlace(up, place)
			checkListOK(t, got, ok, countUp(1, n-1), true, "WithoutPlace", up, place)
			got, ok = impl.WithoutPlace(down, place)
			checkListOK(t, got, ok, countDown(n-1, 1), true, "WithoutPlace", down, place)
		}
		if n > 0 {
			checkPerms(t, impl.LowersOf(up), [][]int{countUp(1, n-1)}, "LowersOf", up)
			checkPerms(t, impl.LowersOf(down), [][]int{countDown(n-1, 1)}, "LowersOf", down)
		}
	}
}

func TestWithoutPlace(t *testing.T) {
	cases := []struct {
		p     string
		place int
		want  string
	}{
		{"1", 1, ""},
		{"12", 1, "1"},
		{"12", 2, "1"},
		{"21", 1, "1"},
		{"21", 2, "1"},
		{"231", 1, "21"},
		{"231", 2, "21"},
		{"231", 3, "12"},
		{"2413", 1, "312"},
		{"2413", 2, "213"},
		{"2413", 3, "132"},
		{"2413", 4, "231"},
		{"35142", 1, "4132"},
		{"35142", 3, "2431"},
		{"35142", 5, "2413"},
		{"38165274", 1, "7154263"},
		{"38165274", 2, "3165274"},
		{"38165274", 3, "2754163"},
		{"38165274", 8, "3715426"},
	}
	for _, c := range cases {
		got, ok := impl.WithoutPlace(digits(c.p), c.place)
		checkListOK(t, got, ok, digits(c.want), true, "WithoutPlace", c.p, c.place)
	}
}

func TestWithoutPlaceRejects(t *testing.T) {
	for _, p := range append(permsUpTo(4), longPerms()...) {
		for _, place := range placesAround(len(p)) {
			if place >= 1 && place <= len(p) {
				continue
			}
			got, ok := impl.WithoutPlace(p, place)
			checkListOK(t, got, ok, nil, false, "WithoutPlace", p, place)
		}
	}
	for _, p := range notPerms() {
		for _, place := range append(placesAround(min(len(p), 9)), len(p)) {
			got, ok := impl.WithoutPlace(p, place)
			checkListOK(t, got, ok, nil, false, "WithoutPlace", p, place)
		}
	}
}

// withoutPlace closes the gap that the number at the place leaves.
func withoutPlace(p []int, place int) []int {
	rest := []int{}
	for i, v := range p {
		switch {
		case i == place-1:
		case v > p[place-1]:
			rest = append(rest, v-1)
		default:
			rest = append(rest, v)
		}
	}
	return rest
}

func TestWithoutEachPlace(t *testing.T) {
	for _, p := range append(permsUpTo(6), longPerms()...) {
		var lowers [][]int
		for place := 1; place <= len(p); place++ {
			want := withoutPlace(p, place)
			got, ok := impl.WithoutPlace(p, place)
			checkListOK(t, got, ok, want, true, "WithoutPlace", p, place)
			lowers = append(lowers, want)
		}
		slices.SortFunc(lowers, slices.Compare)
		checkPerms(t, impl.LowersOf(p), slices.CompactFunc(lowers, slices.Equal), "LowersOf", p)
	}
}

func TestLowersOf(t *testing.T) {
	cases := []struct {
		p    string
		want []string
	}{
		{"", nil},
		{"1", []string{""}},
		{"12", []string{"1"}},
		{"21", []string{"1"}},
		{"132", []string{"12", "21"}},
		{"321", []string{"21"}},
		{"2413", []string{"132", "213", "231", "312"}},
		{"3142", []string{"132", "213", "231", "312"}},
		{"3412", []string{"231", "312"}},
		{"4231", []string{"231", "312", "321"}},
		{"35142", []string{"2413", "2431", "3142", "3412", "4132"}},
		{"21436587", []string{"1325476", "2135476", "2143576", "2143657"}},
	}
	for _, c := range cases {
		checkPerms(t, impl.LowersOf(digits(c.p)), digitLists(c.want...), "LowersOf", c.p)
	}
	for _, p := range notPerms() {
		checkPerms(t, impl.LowersOf(p), nil, "LowersOf", p)
	}
}

// placesIn tells the places, counted in p, of an occurrence that is counted in an occurrence in p.
func placesIn(outer []int, inner []int) []int {
	places := []int{}
	for _, place := range inner {
		places = append(places, outer[place-1])
	}
	return places
}

// TestPatternsOfPatternsArePatterns is promise 7.
func TestPatternsOfPatternsArePatterns(t *testing.T) {
	for _, p := range append(permsUpTo(5), longPerms()...) {
		for k := 0; k <= len(p); k++ {
			for _, q := range impl.PatternsIn(p, k) {
				outer := impl.OccurrencesOf(p, q)
				for j := 0; j <= min(k, 4); j++ {
					all := impl.PatternsIn(p, j)
					for _, r := range impl.PatternsIn(q, j) {
						if !impl.HasPattern(p, r) || !slices.ContainsFunc(all, func(s []int) bool { return slices.Equal(s, r) }) {
							t.Fatalf("%v occurs in %v, and that in %v, but PatternsIn is %v", r, q, p, all)
						}
						places := placesIn(outer[0], impl.OccurrencesOf(q, r)[0])
						if !impl.IsOccurrence(p, r, places) {
							t.Errorf("IsOccurrence(%v, %v, %v) is false", p, r, places)
						}
					}
				}
			}
		}
	}
}

// TestOccurrencesInOccurrences counts the choices of places within choices of places in two ways.
func TestOccurrencesInOccurrences(t *testing.T) {
	for _, p := range append(allOfLength(5), longPerms()...) {
		for k := 0; k <= 4; k++ {
			for _, r := range permsUpTo(min(k, 3)) {
				sum := 0
				for _, q := range impl.PermsOf(k) {
					sum += impl.CountPattern(p, q) * impl.CountPattern(q, r)
				}
				want := countChoices(len(p)-len(r), k-len(r)) * impl.CountPattern(p, r)
				if sum != want {
					t.Errorf("%v occurs %d times in the patterns of length %d in %v, not %d", r, sum, k, p, want)
				}
			}
		}
	}
}

func TestSymmetriesKeepTheNumberOfOccurrences(t *testing.T) {
	patterns := permsUpTo(4)
	for _, p := range append(permsUpTo(5)[120:], longPerms()...) {
		for _, q := range patterns {
			want := impl.CountPattern(p, q)
			for k := range 8 {
				if got := impl.CountPattern(imageOf(p, k), imageOf(q, k)); got != want {
					t.Errorf("%v occurs %d times in %v, but its image %d %d times", q, want, p, k, got)
				}
			}
		}
	}
}

// TestHowManyHaveNoPattern compares with numbers that are known.
func TestHowManyHaveNoPattern(t *testing.T) {
	cases := []struct {
		q    string
		want []int
	}{
		{"", []int{0, 0, 0, 0}},
		{"1", []int{1, 0, 0, 0}},
		{"21", []int{1, 1, 1, 1, 1, 1}},
		{"123", []int{1, 1, 2, 5, 14, 42, 132, 429, 1430}},
		{"132", []int{1, 1, 2, 5, 14, 42, 132, 429, 1430}},
		{"231", []int{1, 1, 2, 5, 14, 42, 132, 429}},
		{"1234", []int{1, 1, 2, 6, 23, 103, 513, 2761}},
		{"1342", []int{1, 1, 2, 6, 23, 103, 512, 2740}},
		{"1324", []int{1, 1, 2, 6, 23, 103, 513, 2762}},
	}
	for _, c := range cases {
		for n, want := range c.want {
			got := 0
			for _, p := range allOfLength(n) {
				if !impl.HasPattern(p, digits(c.q)) {
					got++
				}
			}
			if got != want {
				t.Errorf("%q does not occur in %d permutations of length %d, not %d", c.q, got, n, want)
			}
		}
	}
}

// spoilAll changes the lists of a result, their unused capacity and the result.
func spoilAll(lists [][]int) {
	for _, list := range lists {
		spoil(list)
	}
	clear(lists[:cap(lists)])
}

func TestPatternsLeaveTheirArguments(t *testing.T) {
	lists := append(notPerms(), nil, []int{1}, []int{2, 1}, digits("231"), digits("2413"), digits("38165274"))
	for _, list := range lists {
		for _, pattern := range append(lists, digits("12"), digits("123"), list) {
			p, q := guard(list), guard(pattern)
			for _, chosen := range [][]int{nil, {1}, {1, 2}, {2, 1}, {1, 2, 4}, {0, 9}, countUp(1, 8)} {
				places := guard(chosen)
				impl.IsOccurrence(p.list, q.list, places.list)
				impl.IsOccurrence(p.list, p.list, places.list)
				places.check(t, "IsOccurrence")
			}
			impl.CountPattern(p.list, q.list)
			impl.HasPattern(p.list, q.list)
			spoilAll(impl.OccurrencesOf(p.list, q.list))
			spoilAll(impl.OccurrencesOf(p.list, p.list))
			p.check(t, "a function of chapter 7")
			q.check(t, "a function of chapter 7")
		}
	}
}

func TestPatternsInLeaveTheirArguments(t *testing.T) {
	for _, list := range append(notPerms(), nil, []int{1}, []int{2, 1}, digits("231"), digits("2413"), digits("38165274")) {
		p := guard(list)
		spoilAll(impl.LowersOf(p.list))
		for k := -1; k <= 9; k++ {
			spoilAll(impl.PatternsIn(p.list, k))
			rest, _ := impl.WithoutPlace(p.list, k)
			spoil(rest)
		}
		p.check(t, "a function of chapter 7")
	}
}

// checkNewMemory spoils the lists of a result one after the other.
func checkNewMemory(t *testing.T, name string, call func() [][]int) {
	t.Helper()
	want := [][]int{}
	for _, list := range call() {
		want = append(want, slices.Clone(list))
	}
	found := call()
	for i, list := range found {
		spoil(list)
		checkPerms(t, found[i+1:], want[i+1:], "the later elements of", name)
	}
	spoilAll(found)
	checkPerms(t, call(), want, "a later result of", name)
}

func TestPatternsAreNewMemory(t *testing.T) {
	for _, p := range append(digitLists("", "1", "21", "2413", "35142"), longPerms()...) {
		for _, q := range append(permsUpTo(3), p) {
			checkNewMemory(t, "OccurrencesOf", func() [][]int { return impl.OccurrencesOf(p, q) })
		}
		for k := 0; k <= len(p); k++ {
			checkNewMemory(t, "PatternsIn", func() [][]int { return impl.PatternsIn(p, k) })
		}
		for place := 1; place <= len(p); place++ {
			checkNewMemory(t, "WithoutPlace", func() [][]int {
				rest, _ := impl.WithoutPlace(p, place)
				return [][]int{rest}
			})
		}
		checkNewMemory(t, "LowersOf", func() [][]int { return impl.LowersOf(p) })
	}
}
