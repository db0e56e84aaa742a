package tests

import (
	"math"
	"slices"
	"testing"

	"loop.example/g03101/impl"
)

// follow tells by sorting whether the numbers at the places follow one another.
func follow(p []int, from int, to int) bool {
	numbers := slices.Clone(p[from-1 : to])
	slices.Sort(numbers)
	for i := 1; i < len(numbers); i++ {
		if numbers[i] != numbers[i-1]+1 {
			return false
		}
	}
	return true
}

// placesAround lists places of a permutation of length n and numbers that are none.
func placesAround(n int) []int {
	places := []int{math.MinInt, math.MinInt + 1, -1 << 32, -9, 1<<32 + 1, math.MaxInt - 1, math.MaxInt}
	for place := -2; place <= n+2; place++ {
		places = append(places, place)
	}
	return places
}

// nearlySimple lists permutations with one interval only that has more than one place and not all.
func nearlySimple() []struct{ p, only []int } {
	return []struct{ p, only []int }{
		{[]int{1, 3, 2}, []int{2, 3}},
		{[]int{2, 3, 1}, []int{1, 2}},
		{[]int{1, 3, 5, 2, 4}, []int{2, 5}},
		{[]int{2, 4, 1, 3, 5}, []int{1, 4}},
		{[]int{2, 4, 5, 1, 3}, []int{2, 3}},
		{[]int{3, 2, 5, 1, 4}, []int{1, 2}},
		{[]int{3, 1, 5, 2, 4, 6}, []int{1, 5}},
		{[]int{3, 5, 1, 7, 6, 2, 8, 4}, []int{4, 5}},
	}
}

func TestIsInterval(t *testing.T) {
	cases := []struct {
		p        []int
		from, to int
		want     bool
	}{
		{[]int{1}, 1, 1, true},
		{[]int{1, 2}, 1, 2, true},
		{[]int{2, 1}, 1, 2, true},
		{[]int{2, 1}, 2, 2, true},
		{[]int{2, 3, 1}, 1, 2, true},
		{[]int{2, 3, 1}, 2, 3, false},
		{[]int{2, 3, 1}, 1, 3, true},
		{[]int{2, 3, 1}, 2, 1, false},
		{[]int{2, 4, 1, 3}, 1, 2, false},
		{[]int{2, 4, 1, 3}, 1, 3, false},
		{[]int{2, 4, 1, 3}, 2, 4, false},
		{[]int{2, 4, 1, 3}, 3, 3, true},
		{[]int{2, 4, 1, 3}, 1, 4, true},
		{[]int{1, 4, 2, 3, 5}, 2, 4, true},
		{[]int{5, 2, 4, 3, 1}, 2, 4, true},
		{[]int{5, 2, 4, 3, 1}, 2, 3, false},
		{[]int{1, 5, 7, 6, 4, 8, 3, 2}, 2, 5, true},
		{[]int{1, 5, 7, 6, 4, 8, 3, 2}, 2, 6, true},
		{[]int{1, 5, 7, 6, 4, 8, 3, 2}, 3, 6, false},
		{[]int{3, 8, 1, 6, 5, 2, 7, 4}, 4, 5, true},
		{[]int{3, 8, 1, 6, 5, 2, 7, 4}, 1, 8, true},
		{[]int{3, 8, 1, 6, 5, 2, 7, 4}, 2, 8, false},
	}
	for _, c := range cases {
		if got := impl.IsInterval(c.p, c.from, c.to); got != c.want {
			t.Errorf("IsInterval(%v, %d, %d) is %t", c.p, c.from, c.to, got)
		}
	}
}

func TestIsIntervalAtAllPlaces(t *testing.T) {
	for _, p := range append(permsUpTo(6), longPerms()...) {
		for _, from := range placesAround(len(p)) {
			for _, to := range placesAround(len(p)) {
				want := from >= 1 && from <= to && to <= len(p) && follow(p, from, to)
				if got := impl.IsInterval(p, from, to); got != want {
					t.Fatalf("IsInterval(%v, %d, %d) is %t", p, from, to, got)
				}
			}
		}
	}
}

func TestIsIntervalRejects(t *testing.T) {
	for _, p := range notPerms() {
		for _, from := range placesAround(min(len(p), 9)) {
			for _, to := range placesAround(min(len(p), 9)) {
				if impl.IsInterval(p, from, to) {
					t.Errorf("IsInterval(%v, %d, %d) is true", p, from, to)
				}
			}
		}
	}
}

func TestIntervalsOf(t *testing.T) {
	cases := []struct {
		p    []int
		want [][]int
	}{
		{nil, nil},
		{[]int{}, nil},
		{[]int{1}, nil},
		{[]int{1, 2}, nil},
		{[]int{2, 1}, nil},
		{[]int{1, 2, 3}, [][]int{{1, 2}, {2, 3}}},
		{[]int{2, 3, 1}, [][]int{{1, 2}}},
		{[]int{3, 1, 2}, [][]int{{2, 3}}},
		{[]int{2, 4, 1, 3}, nil},
		{[]int{4, 3, 2, 1}, [][]int{{1, 2}, {1, 3}, {2, 3}, {2, 4}, {3, 4}}},
		{[]int{2, 1, 4, 3}, [][]int{{1, 2}, {3, 4}}},
		{[]int{1, 4, 2, 3, 5}, [][]int{{1, 4}, {2, 4}, {2, 5}, {3, 4}}},
		{[]int{2, 5, 4, 6, 1, 3}, [][]int{{2, 3}, {2, 4}}},
		{[]int{2, 4, 6, 8, 1, 3, 5, 7}, nil},
		{[]int{3, 8, 1, 6, 5, 2, 7, 4}, [][]int{{4, 5}}},
		{[]int{8, 2, 4, 6, 1, 3, 5, 7}, [][]int{{2, 7}, {2, 8}}},
	}
	for _, c := range cases {
		checkPerms(t, impl.IntervalsOf(c.p), c.want, "IntervalsOf", c.p)
	}
	for _, c := range nearlySimple() {
		checkPerms(t, impl.IntervalsOf(c.p), [][]int{c.only}, "IntervalsOf", c.p)
	}
	for _, p := range notPerms() {
		checkPerms(t, impl.IntervalsOf(p), nil, "IntervalsOf", p)
	}
}

func TestIntervalsOfListsAll(t *testing.T) {
	for _, p := range append(permsUpTo(6), longPerms()...) {
		var want [][]int
		all := 0
		for from := 1; from <= len(p); from++ {
			for to := from; to <= len(p); to++ {
				if !follow(p, from, to) {
					continue
				}
				all++
				if from < to && (from > 1 || to < len(p)) {
					want = append(want, []int{from, to})
				}
			}
		}
		checkPerms(t, impl.IntervalsOf(p), want, "IntervalsOf", p)
		if got := impl.CountIntervals(p); got != all {
			t.Errorf("CountIntervals(%v) is %d, not %d", p, got, all)
		}
	}
}

func TestIsSimple(t *testing.T) {
	for _, p := range [][]int{{1}, {1, 2}, {2, 1}, {2, 4, 1, 3}, {3, 1, 4, 2}, {2, 5, 3, 1, 4}, {4, 1, 3, 5, 2}, {2, 4, 6, 1, 3, 5}, {3, 7, 1, 5, 2, 6, 4}, {2, 4, 6, 8, 1, 3, 5, 7}, {4, 8, 3, 7, 2, 6, 1, 5}, {3, 8, 1, 6, 4, 2, 7, 5}} {
		if !impl.IsSimple(p) {
			t.Errorf("IsSimple(%v) is false", p)
		}
	}
	for _, p := range append(notPerms(), nil, []int{}, []int{1, 2, 3}, []int{2, 3, 1}, []int{3, 2, 1}, []int{2, 1, 4, 3}, []int{3, 8, 1, 6, 5, 2, 7, 4}, []int{1, 2, 3, 4, 5, 6, 7, 8}) {
		if impl.IsSimple(p) {
			t.Errorf("IsSimple(%v) is true", p)
		}
	}
	for _, c := range nearlySimple() {
		if impl.IsSimple(c.p) {
			t.Errorf("IsSimple(%v) is true", c.p)
		}
	}
	for n, want := range []int{0, 1, 2, 0, 2, 6, 46} {
		got := 0
		for _, p := range impl.PermsOf(n) {
			if impl.IsSimple(p) {
				got++
			}
		}
		if got != want {
			t.Errorf("%d simple permutations have length %d, not %d", got, n, want)
		}
	}
}

func TestInflateBy(t *testing.T) {
	one := []int{1}
	cases := []struct {
		p    []int
		list [][]int
		want []int
	}{
		{nil, nil, nil},
		{[]int{}, [][]int{}, nil},
		{one, [][]int{{1}}, one},
		{one, [][]int{{2, 3, 1}}, []int{2, 3, 1}},
		{one, [][]int{{3, 8, 1, 6, 5, 2, 7, 4}}, []int{3, 8, 1, 6, 5, 2, 7, 4}},
		{[]int{1, 2}, [][]int{{2, 1}, {1, 3, 2}}, []int{2, 1, 3, 5, 4}},
		{[]int{2, 1}, [][]int{{1, 2}, {1}}, []int{2, 3, 1}},
		{[]int{2, 1}, [][]int{{2, 1}, {1, 3, 2}}, []int{5, 4, 1, 3, 2}},
		{[]int{2, 3, 1}, [][]int{{1, 2}, {2, 1}, {1, 3, 2}}, []int{4, 5, 7, 6, 1, 3, 2}},
		{[]int{3, 1, 2}, [][]int{{1, 2}, {2, 1}, {1, 3, 2}}, []int{6, 7, 2, 1, 3, 5, 4}},
		{[]int{2, 4, 1, 3}, [][]int{{1}, {1, 2}, {1}, {1}}, []int{2, 4, 5, 1, 3}},
		{[]int{2, 4, 1, 3}, [][]int{{2, 1}, {1, 2}, {1, 2}, {2, 1}}, []int{4, 3, 7, 8, 1, 2, 6, 5}},
		{[]int{2, 4, 1, 3}, [][]int{{1}, {3, 2, 4, 1, 5}, {1}, {1}}, []int{2, 6, 5, 7, 4, 8, 1, 3}},
		{[]int{1, 2}, [][]int{{7, 6, 5, 4, 3, 2, 1}, {1}}, []int{7, 6, 5, 4, 3, 2, 1, 8}},
		{[]int{2, 1}, [][]int{{1}, {1, 2, 3, 4, 5, 6, 7}}, []int{8, 1, 2, 3, 4, 5, 6, 7}},
		{[]int{3, 7, 1, 5, 2, 6, 4}, [][]int{one, one, one, {2, 1}, one, one, one}, []int{3, 8, 1, 6, 5, 2, 7, 4}},
		{[]int{3, 8, 1, 6, 5, 2, 7, 4}, [][]int{one, one, one, one, one, one, one, one}, []int{3, 8, 1, 6, 5, 2, 7, 4}},
	}
	for _, c := range cases {
		got, ok := impl.InflateBy(c.p, c.list)
		checkListOK(t, got, ok, c.want, true, "InflateBy", c.p, c.list)
	}
}

// onesFor returns as many permutations of one number as p has numbers.
func onesFor(p []int) [][]int {
	var list [][]int
	for range p {
		list = append(list, []int{1})
	}
	return list
}

func TestInflateByOnesIsThePermutation(t *testing.T) {
	for _, p := range append(permsUpTo(6), longPerms()...) {
		got, ok := impl.InflateBy(p, onesFor(p))
		checkListOK(t, got, ok, p, true, "InflateBy", p, onesFor(p))
	}
}

func TestInflateByRejectsTheLength(t *testing.T) {
	cases := []struct {
		p    []int
		list [][]int
	}{
		{nil, [][]int{{1}}},
		{nil, [][]int{nil}},
		{[]int{1}, nil},
		{[]int{1}, [][]int{{1}, {1}}},
		{[]int{2, 1}, [][]int{{1}}},
		{[]int{2, 1}, [][]int{{1}, {1}, {1}}},
		{[]int{2, 1}, [][]int{{1, 2, 3, 4}, {1, 2, 3, 4, 5}}},
		{[]int{1, 2}, [][]int{{1, 2, 3, 4, 5, 6, 7, 8}, {1}}},
		{[]int{2, 1}, [][]int{{1}, {8, 7, 6, 5, 4, 3, 2, 1}}},
		{[]int{2, 4, 1, 3}, [][]int{{2, 1}, {1, 2, 3}, {1, 2}, {2, 1}}},
		{[]int{2, 4, 1, 3}, [][]int{{1}, {1}, {1}, {1, 2, 3, 4, 5, 6}}},
		{[]int{1, 2, 3}, make([][]int, 1000)},
	}
	for _, c := range cases {
		got, ok := impl.InflateBy(c.p, c.list)
		checkListOK(t, got, ok, nil, false, "InflateBy", c.p, c.list)
	}
	for _, p := range append(permsUpTo(4), longPerms()...) {
		ones := onesFor(p)
		if len(p) > 0 {
			got, ok := impl.InflateBy(p, ones[1:])
			checkListOK(t, got, ok, nil, false, "InflateBy", p, ones[1:])
		}
		ones = append(ones, []int{1})
		got, ok := impl.InflateBy(p, ones)
		checkListOK(t, got, ok, nil, false, "InflateBy", p, ones)
	}
}

func TestInflateByRejectsTheElements(t *testing.T) {
	for _, wrong := range append(notPerms(), nil, []int{}) {
		for _, p := range append(permsUpTo(4), longPerms()...) {
			for i := range p {
				list := onesFor(p)
				list[i] = wrong
				got, ok := impl.InflateBy(p, list)
				checkListOK(t, got, ok, nil, false, "InflateBy", p, list)
			}
		}
	}
	for _, p := range notPerms() {
		for _, list := range [][][]int{nil, {{1}}, {{1}, {1}}, onesFor(p)} {
			got, ok := impl.InflateBy(p, list)
			checkListOK(t, got, ok, nil, false, "InflateBy", p, list)
		}
	}
	// Here the numbers would be a permutation all the same.
	for _, c := range []struct {
		p    []int
		list [][]int
	}{
		{[]int{1, 2}, [][]int{{2}, {0}}},
		{[]int{1, 2}, [][]int{{1}, {2, 0}, nil}},
		{[]int{1, 2}, [][]int{{1, 3}, {0}}},
		{[]int{2, 1, 3}, [][]int{{2, 1}, nil, {1}}},
		{[]int{1, 3}, [][]int{{1}, {1}}},
		{[]int{0, 1}, [][]int{{1}, {1}}},
	} {
		got, ok := impl.InflateBy(c.p, c.list)
		checkListOK(t, got, ok, nil, false, "InflateBy", c.p, c.list)
	}
}

// listsFor returns all lists of n permutations of 1 to 3 numbers.
func listsFor(n int) [][][]int {
	lists := [][][]int{{}}
	for range n {
		var longer [][][]int
		for _, list := range lists {
			for _, part := range permsUpTo(3)[1:] {
				longer = append(longer, append(slices.Clone(list), part))
			}
		}
		lists = longer
	}
	return lists
}

// blockFits tells whether the numbers of both blocks stand to each other as v and w.
func blockFits(a []int, b []int, v int, w int) bool {
	for _, x := range a {
		for _, y := range b {
			if (x < y) != (v < w) {
				return false
			}
		}
	}
	return true
}

func checkInflated(t *testing.T, p []int, list [][]int, inflated []int) {
	t.Helper()
	var blocks [][]int
	rest := inflated
	for i, part := range list {
		block := rest[:len(part)]
		rest = rest[len(part):]
		pattern, _ := impl.PatternOf(block)
		checkList(t, pattern, part, "the pattern of a part of InflateBy", p, list, i)
		for j, before := range blocks {
			if !blockFits(before, block, p[j], p[i]) {
				t.Errorf("InflateBy(%v, %v) is %v", p, list, inflated)
			}
		}
		blocks = append(blocks, block)
		from := len(inflated) - len(rest) - len(part) + 1
		if !impl.IsInterval(inflated, from, from+len(part)-1) {
			t.Errorf("part %d of InflateBy(%v, %v) is no interval of %v", i, p, list, inflated)
		}
	}
}

func TestInflateByMakesIntervals(t *testing.T) {
	for _, p := range permsUpTo(4) {
		for _, list := range listsFor(len(p)) {
			length := 0
			for _, part := range list {
				length += len(part)
			}
			got, ok := impl.InflateBy(p, list)
			if length > 8 {
				checkListOK(t, got, ok, nil, false, "InflateBy", p, list)
				continue
			}
			if !ok || len(got) != length || !impl.IsPerm(got) {
				t.Fatalf("InflateBy(%v, %v) is %v, %t", p, list, got, ok)
			}
			checkInflated(t, p, list, got)
		}
	}
}

func TestCountIntervals(t *testing.T) {
	cases := []struct {
		p    []int
		want int
	}{
		{nil, 0},
		{[]int{}, 0},
		{[]int{1}, 1},
		{[]int{1, 2}, 3},
		{[]int{2, 1}, 3},
		{[]int{1, 2, 3}, 6},
		{[]int{2, 3, 1}, 5},
		{[]int{2, 4, 1, 3}, 5},
		{[]int{2, 1, 4, 3}, 7},
		{[]int{2, 4, 5, 1, 3}, 7},
		{[]int{3, 8, 1, 6, 5, 2, 7, 4}, 10},
		{[]int{2, 4, 6, 8, 1, 3, 5, 7}, 9},
		{[]int{1, 2, 3, 4, 5, 6, 7, 8}, 36},
		{[]int{8, 7, 6, 5, 4, 3, 2, 1}, 36},
	}
	for _, c := range cases {
		if got := impl.CountIntervals(c.p); got != c.want {
			t.Errorf("CountIntervals(%v) is %d, not %d", c.p, got, c.want)
		}
	}
	for _, p := range notPerms() {
		if got := impl.CountIntervals(p); got != -1 {
			t.Errorf("CountIntervals(%v) is %d, not -1", p, got)
		}
	}
}

func TestClosureOf(t *testing.T) {
	cases := []struct {
		p        []int
		from, to int
		want     []int
	}{
		{[]int{1}, 1, 1, []int{1, 1}},
		{[]int{2, 1}, 1, 2, []int{1, 2}},
		{[]int{2, 1}, 2, 1, []int{1, 2}},
		{[]int{2, 1}, 2, 2, []int{2, 2}},
		{[]int{2, 3, 1}, 2, 1, []int{1, 2}},
		{[]int{2, 3, 1}, 2, 3, []int{1, 3}},
		{[]int{2, 4, 1, 3}, 1, 2, []int{1, 4}},
		{[]int{2, 4, 1, 3}, 3, 2, []int{1, 4}},
		{[]int{2, 4, 1, 3}, 4, 1, []int{1, 4}},
		{[]int{2, 4, 1, 3}, 3, 3, []int{3, 3}},
		{[]int{2, 4, 5, 1, 3}, 2, 3, []int{2, 3}},
		{[]int{2, 4, 5, 1, 3}, 3, 4, []int{1, 5}},
		{[]int{1, 4, 2, 3, 5}, 2, 3, []int{2, 4}},
		{[]int{1, 4, 2, 3, 5}, 1, 3, []int{1, 4}},
		{[]int{1, 4, 2, 3, 5}, 4, 5, []int{2, 5}},
		{[]int{2, 5, 4, 6, 1, 3}, 4, 3, []int{2, 4}},
		// Here the places of the numbers between two have numbers between which there are others.
		{[]int{1, 6, 3, 5, 2, 4, 7, 8}, 3, 4, []int{3, 6}},
		{[]int{1, 6, 3, 5, 2, 4, 7, 8}, 4, 2, []int{2, 6}},
		{[]int{1, 6, 3, 5, 2, 4, 7, 8}, 1, 8, []int{1, 8}},
		{[]int{1, 6, 3, 5, 2, 4, 7, 8}, 7, 7, []int{7, 7}},
		{[]int{1, 6, 3, 5, 2, 4, 7, 8}, 7, 8, []int{7, 8}},
		{[]int{1, 6, 3, 5, 2, 4, 7, 8}, 7, 6, []int{2, 7}},
	}
	for _, c := range cases {
		got, ok := impl.ClosureOf(c.p, c.from, c.to)
		checkListOK(t, got, ok, c.want, true, "ClosureOf", c.p, c.from, c.to)
	}
}

func TestClosureOfRejects(t *testing.T) {
	for _, p := range append(permsUpTo(4), longPerms()...) {
		for _, from := range placesAround(len(p)) {
			for _, to := range placesAround(len(p)) {
				if min(from, to) >= 1 && max(from, to) <= len(p) {
					continue
				}
				got, ok := impl.ClosureOf(p, from, to)
				checkListOK(t, got, ok, nil, false, "ClosureOf", p, from, to)
			}
		}
	}
	for _, p := range notPerms() {
		for _, from := range placesAround(min(len(p), 9)) {
			for _, to := range placesAround(min(len(p), 9)) {
				got, ok := impl.ClosureOf(p, from, to)
				checkListOK(t, got, ok, nil, false, "ClosureOf", p, from, to)
			}
		}
	}
}

// checkClosure tells by each interval whether the one found is the least one with both places.
func checkClosure(t *testing.T, p []int, from int, to int) {
	t.Helper()
	closure, ok := impl.ClosureOf(p, from, to)
	if !ok || len(closure) != 2 {
		t.Fatalf("ClosureOf(%v, %d, %d) is %v, %t", p, from, to, closure, ok)
	}
	first, last := closure[0], closure[1]
	if first < 1 || first > min(from, to) || last < max(from, to) || last > len(p) || !follow(p, first, last) {
		t.Fatalf("ClosureOf(%v, %d, %d) is %v", p, from, to, closure)
	}
	for i := 1; i <= min(from, to); i++ {
		for j := max(from, to); j <= len(p); j++ {
			if follow(p, i, j) && (first < i || last > j) {
				t.Errorf("ClosureOf(%v, %d, %d) is %v, which is not in %d to %d", p, from, to, closure, i, j)
			}
		}
	}
	again, ok := impl.ClosureOf(p, first, last)
	checkListOK(t, again, ok, closure, true, "ClosureOf", p, first, last)
	if impl.IsInterval(p, from, to) != slices.Equal(closure, []int{from, to}) {
		t.Errorf("ClosureOf(%v, %d, %d) is %v, and IsInterval is %t", p, from, to, closure, impl.IsInterval(p, from, to))
	}
}

// TestIntervalsHaveClosures is promise 5.
func TestIntervalsHaveClosures(t *testing.T) {
	all := append(permsUpTo(6), longPerms()...)
	for _, c := range nearlySimple() {
		all = append(all, c.p)
	}
	for _, p := range all {
		for from := 1; from <= len(p); from++ {
			for to := 1; to <= len(p); to++ {
				checkClosure(t, p, from, to)
			}
		}
	}
}

func TestIntervalsLeaveTheirArguments(t *testing.T) {
	for _, list := range append(notPerms(), nil, []int{1}, []int{2, 1}, []int{2, 4, 1, 3}, []int{1, 4, 2, 3, 5}, []int{3, 8, 1, 6, 5, 2, 7, 4}) {
		p := guard(list)
		impl.IsSimple(p.list)
		impl.CountIntervals(p.list)
		for _, found := range impl.IntervalsOf(p.list) {
			spoil(found)
		}
		for from := range 10 {
			for to := range 10 {
				impl.IsInterval(p.list, from, to)
				closure, _ := impl.ClosureOf(p.list, from, to)
				spoil(closure)
			}
		}
		p.check(t, "a function of chapter 5")
	}
}

func TestInflateByLeavesItsArguments(t *testing.T) {
	for _, list := range append(notPerms(), nil, []int{1}, []int{2, 1}, []int{2, 3, 1}, []int{1, 3, 2, 4}, []int{3, 8, 1, 6, 5, 2, 7, 4}) {
		for _, root := range [][]int{nil, {1}, {1, 2}, {2, 1}, {2, 3, 1}, {2, 4, 1, 3}, {2, 2}, list} {
			// The same memory at each place, and one more element in the unused capacity.
			p, part := guard(root), guard(list)
			var whole, want [][]int
			for range root {
				whole, want = append(whole, part.list), append(want, list)
			}
			whole, want = append(whole, []int{3, 2, 1}), append(want, []int{3, 2, 1})
			for _, elements := range [][][]int{whole, whole[:len(root)]} {
				inflated, _ := impl.InflateBy(p.list, elements)
				spoil(inflated)
			}
			p.check(t, "InflateBy")
			part.check(t, "InflateBy")
			checkPerms(t, whole, want, "the argument of InflateBy")
		}
	}
}

func TestIntervalsAreNewMemory(t *testing.T) {
	for _, p := range [][]int{{1, 2, 3}, {2, 3, 1}, {1, 4, 2, 3, 5}, {8, 7, 6, 5, 4, 3, 2, 1}} {
		want := impl.IntervalsOf(p)
		found := impl.IntervalsOf(p)
		for i, list := range found {
			spoil(list)
			checkPerms(t, found[i+1:], want[i+1:], "the later intervals of", p)
		}
		checkPerms(t, impl.IntervalsOf(p), want, "the intervals, found again, of", p)
		closure, _ := impl.ClosureOf(p, 1, 1)
		spoil(closure)
		closure, ok := impl.ClosureOf(p, 1, 1)
		checkListOK(t, closure, ok, []int{1, 1}, true, "ClosureOf", p, 1, 1)
		inflated, _ := impl.InflateBy(p, onesFor(p))
		spoil(inflated)
		inflated, ok = impl.InflateBy(p, onesFor(p))
		checkListOK(t, inflated, ok, p, true, "InflateBy", p, onesFor(p))
	}
}
