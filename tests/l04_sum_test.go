package tests

import (
	"slices"
	"testing"

	"loop.example/g03101/impl"
)

// sumOf puts q above and to the right of p, or below and to the right of it, whatever the lists are.
func sumOf(skew bool, p []int, q []int) []int {
	sum := []int{}
	for _, v := range p {
		if skew {
			v += len(q)
		}
		sum = append(sum, v)
	}
	for _, v := range q {
		if !skew {
			v += len(p)
		}
		sum = append(sum, v)
	}
	return sum
}

// isSumOfTwo tries every place to cut p into two.
func isSumOfTwo(skew bool, p []int) bool {
	for cut := 1; cut < len(p); cut++ {
		left, _ := impl.PatternOf(p[:cut])
		right, _ := impl.PatternOf(p[cut:])
		if slices.Equal(p, sumOf(skew, left, right)) {
			return true
		}
	}
	return false
}

func partsOf(skew bool, p []int) [][]int {
	if skew {
		return impl.SkewParts(p)
	}
	return impl.SumParts(p)
}

func checkBothSums(t *testing.T, p []int, q []int, sum []int, skew []int, ok bool) {
	t.Helper()
	got, gotOK := impl.SumOf(p, q)
	checkListOK(t, got, gotOK, sum, ok, "SumOf", p, q)
	got, gotOK = impl.SkewSumOf(p, q)
	checkListOK(t, got, gotOK, skew, ok, "SkewSumOf", p, q)
}

func TestSumOfAndSkewSumOf(t *testing.T) {
	cases := []struct{ p, q, sum, skew []int }{
		{nil, nil, nil, nil},
		{[]int{}, nil, nil, nil},
		{nil, []int{1}, []int{1}, []int{1}},
		{[]int{1}, nil, []int{1}, []int{1}},
		{[]int{}, []int{2, 3, 1}, []int{2, 3, 1}, []int{2, 3, 1}},
		{[]int{2, 3, 1}, []int{}, []int{2, 3, 1}, []int{2, 3, 1}},
		{[]int{1}, []int{1}, []int{1, 2}, []int{2, 1}},
		{[]int{2, 1}, []int{1}, []int{2, 1, 3}, []int{3, 2, 1}},
		{[]int{1}, []int{1, 2}, []int{1, 2, 3}, []int{3, 1, 2}},
		{[]int{2, 1}, []int{2, 3, 1}, []int{2, 1, 4, 5, 3}, []int{5, 4, 2, 3, 1}},
		{[]int{1, 3, 2}, []int{2, 1}, []int{1, 3, 2, 5, 4}, []int{3, 5, 4, 2, 1}},
		{[]int{1, 2, 3, 4, 5, 6, 7}, []int{1}, []int{1, 2, 3, 4, 5, 6, 7, 8}, []int{2, 3, 4, 5, 6, 7, 8, 1}},
		{[]int{1}, []int{7, 6, 5, 4, 3, 2, 1}, []int{1, 8, 7, 6, 5, 4, 3, 2}, []int{8, 7, 6, 5, 4, 3, 2, 1}},
		{[]int{2, 4, 1, 3}, []int{3, 1, 4, 2}, []int{2, 4, 1, 3, 7, 5, 8, 6}, []int{6, 8, 5, 7, 3, 1, 4, 2}},
		{nil, []int{3, 8, 1, 6, 5, 2, 7, 4}, []int{3, 8, 1, 6, 5, 2, 7, 4}, []int{3, 8, 1, 6, 5, 2, 7, 4}},
		{[]int{3, 8, 1, 6, 5, 2, 7, 4}, nil, []int{3, 8, 1, 6, 5, 2, 7, 4}, []int{3, 8, 1, 6, 5, 2, 7, 4}},
	}
	for _, c := range cases {
		checkBothSums(t, c.p, c.q, c.sum, c.skew, true)
	}
	for _, p := range append(permsUpTo(4), longPerms()...) {
		for _, q := range append(permsUpTo(4), longPerms()...) {
			if len(p)+len(q) > 8 {
				checkBothSums(t, p, q, nil, nil, false)
			} else {
				checkBothSums(t, p, q, sumOf(false, p, q), sumOf(true, p, q), true)
			}
		}
	}
}

func TestSumsReject(t *testing.T) {
	long := []struct{ p, q []int }{
		{[]int{1, 2, 3, 4, 5, 6, 7, 8}, []int{1}},
		{[]int{1}, []int{1, 2, 3, 4, 5, 6, 7, 8}},
		{[]int{1, 2, 3, 4, 5}, []int{1, 2, 3, 4}},
		{[]int{8, 7, 6, 5, 4, 3, 2, 1}, []int{8, 7, 6, 5, 4, 3, 2, 1}},
	}
	for _, c := range long {
		checkBothSums(t, c.p, c.q, nil, nil, false)
	}
	for _, p := range notPerms() {
		for _, q := range append(longPerms(), nil, []int{1}, []int{2, 1}, []int{1, 3, 4, 2}, p) {
			checkBothSums(t, p, q, nil, nil, false)
			checkBothSums(t, q, p, nil, nil, false)
		}
	}
	// Here the numbers of both together would be a permutation.
	for _, c := range []struct{ p, q []int }{{[]int{2}, []int{0}}, {[]int{0}, []int{1}}, {[]int{1, 3}, []int{0}}, {[]int{3}, []int{0, 1}}} {
		checkBothSums(t, c.p, c.q, nil, nil, false)
	}
}

func TestParts(t *testing.T) {
	cases := []struct {
		p         []int
		sum, skew [][]int
	}{
		{nil, nil, nil},
		{[]int{}, nil, nil},
		{[]int{1}, [][]int{{1}}, [][]int{{1}}},
		{[]int{1, 2}, [][]int{{1}, {1}}, [][]int{{1, 2}}},
		{[]int{2, 1}, [][]int{{2, 1}}, [][]int{{1}, {1}}},
		{[]int{1, 3, 2}, [][]int{{1}, {2, 1}}, [][]int{{1, 3, 2}}},
		{[]int{2, 1, 3}, [][]int{{2, 1}, {1}}, [][]int{{2, 1, 3}}},
		{[]int{3, 1, 2}, [][]int{{3, 1, 2}}, [][]int{{1}, {1, 2}}},
		{[]int{2, 3, 1}, [][]int{{2, 3, 1}}, [][]int{{1, 2}, {1}}},
		{[]int{2, 1, 4, 3}, [][]int{{2, 1}, {2, 1}}, [][]int{{2, 1, 4, 3}}},
		{[]int{3, 4, 1, 2}, [][]int{{3, 4, 1, 2}}, [][]int{{1, 2}, {1, 2}}},
		{[]int{2, 4, 1, 3}, [][]int{{2, 4, 1, 3}}, [][]int{{2, 4, 1, 3}}},
		{[]int{3, 1, 4, 2}, [][]int{{3, 1, 4, 2}}, [][]int{{3, 1, 4, 2}}},
		{[]int{2, 5, 3, 1, 4}, [][]int{{2, 5, 3, 1, 4}}, [][]int{{2, 5, 3, 1, 4}}},
		{[]int{2, 4, 1, 3, 5}, [][]int{{2, 4, 1, 3}, {1}}, [][]int{{2, 4, 1, 3, 5}}},
		{[]int{5, 3, 1, 4, 2}, [][]int{{5, 3, 1, 4, 2}}, [][]int{{1}, {3, 1, 4, 2}}},
		{[]int{6, 4, 5, 2, 3, 1}, [][]int{{6, 4, 5, 2, 3, 1}}, [][]int{{1}, {1, 2}, {1, 2}, {1}}},
		{[]int{1, 3, 4, 2, 5, 8, 7, 6}, [][]int{{1}, {2, 3, 1}, {1}, {3, 2, 1}}, [][]int{{1, 3, 4, 2, 5, 8, 7, 6}}},
		{[]int{8, 1, 2, 3, 4, 5, 6, 7}, [][]int{{8, 1, 2, 3, 4, 5, 6, 7}}, [][]int{{1}, {1, 2, 3, 4, 5, 6, 7}}},
		{[]int{1, 2, 3, 4, 5, 6, 7, 8}, [][]int{{1}, {1}, {1}, {1}, {1}, {1}, {1}, {1}}, [][]int{{1, 2, 3, 4, 5, 6, 7, 8}}},
		{[]int{8, 7, 6, 5, 4, 3, 2, 1}, [][]int{{8, 7, 6, 5, 4, 3, 2, 1}}, [][]int{{1}, {1}, {1}, {1}, {1}, {1}, {1}, {1}}},
		{[]int{3, 8, 1, 6, 5, 2, 7, 4}, [][]int{{3, 8, 1, 6, 5, 2, 7, 4}}, [][]int{{3, 8, 1, 6, 5, 2, 7, 4}}},
	}
	for _, c := range cases {
		checkPerms(t, impl.SumParts(c.p), c.sum, "SumParts", c.p)
		checkPerms(t, impl.SkewParts(c.p), c.skew, "SkewParts", c.p)
	}
	for _, p := range notPerms() {
		checkPerms(t, impl.SumParts(p), nil, "SumParts", p)
		checkPerms(t, impl.SkewParts(p), nil, "SkewParts", p)
	}
}

// TestPartsAreJoinedAgain is promise 4.
func TestPartsAreJoinedAgain(t *testing.T) {
	for _, p := range append(permsUpTo(6), longPerms()...) {
		for _, skew := range []bool{false, true} {
			parts := partsOf(skew, p)
			whole := []int{}
			for _, part := range parts {
				if len(part) == 0 || isSumOfTwo(skew, part) {
					t.Errorf("the parts of %v (skew: %t) are %v", p, skew, parts)
				}
				whole = sumOf(skew, whole, part)
			}
			checkList(t, whole, p, "the sum of the parts of", p, skew)
			joined, ok := impl.JoinParts(parts, skew)
			checkListOK(t, joined, ok, p, true, "JoinParts", parts, skew)
		}
	}
}

// listsOfParts returns all lists of permutations that are no sum of two, of n numbers together.
func listsOfParts(skew bool, n int) [][][]int {
	if n == 0 {
		return [][][]int{{}}
	}
	var all [][][]int
	for k := 1; k <= n; k++ {
		for _, part := range impl.PermsOf(k) {
			if isSumOfTwo(skew, part) {
				continue
			}
			for _, rest := range listsOfParts(skew, n-k) {
				all = append(all, append([][]int{part}, rest...))
			}
		}
	}
	return all
}

// TestListsOfPartsAreFoundAgain is the other direction of promise 4.
func TestListsOfPartsAreFoundAgain(t *testing.T) {
	for n, want := range []int{1, 1, 2, 6, 24, 120, 720} {
		for _, skew := range []bool{false, true} {
			lists := listsOfParts(skew, n)
			if len(lists) != want {
				t.Fatalf("%d lists of parts have %d numbers together", len(lists), n)
			}
			for _, list := range lists {
				joined, ok := impl.JoinParts(list, skew)
				if !ok {
					t.Errorf("JoinParts(%v, %t) is false", list, skew)
				}
				checkPerms(t, partsOf(skew, joined), list, "the parts of", joined, skew)
			}
		}
	}
}

func TestJoinParts(t *testing.T) {
	cases := []struct {
		list      [][]int
		sum, skew []int
	}{
		{nil, nil, nil},
		{[][]int{}, nil, nil},
		{[][]int{nil}, nil, nil},
		{[][]int{{}, nil, {}}, nil, nil},
		{make([][]int, 100), nil, nil},
		{[][]int{{1}}, []int{1}, []int{1}},
		{[][]int{{2, 1}}, []int{2, 1}, []int{2, 1}},
		{[][]int{{2, 1}, {1}}, []int{2, 1, 3}, []int{3, 2, 1}},
		{[][]int{{}, {2, 1}, nil, {1, 2}, {}}, []int{2, 1, 3, 4}, []int{4, 3, 1, 2}},
		// The elements may be sums themselves.
		{[][]int{{1, 2}, {1, 3, 2}}, []int{1, 2, 3, 5, 4}, []int{4, 5, 1, 3, 2}},
		{[][]int{{2, 1}, {2, 3, 1}, {1}}, []int{2, 1, 4, 5, 3, 6}, []int{6, 5, 3, 4, 2, 1}},
		{[][]int{{1}, {1}, {1}, {1}, {1}, {1}, {1}, {1}}, []int{1, 2, 3, 4, 5, 6, 7, 8}, []int{8, 7, 6, 5, 4, 3, 2, 1}},
		{[][]int{{1, 2}, {2, 4, 1, 3}, {2, 1}}, []int{1, 2, 4, 6, 3, 5, 8, 7}, []int{7, 8, 4, 6, 3, 5, 2, 1}},
		{[][]int{{3, 8, 1, 6, 5, 2, 7, 4}}, []int{3, 8, 1, 6, 5, 2, 7, 4}, []int{3, 8, 1, 6, 5, 2, 7, 4}},
		{[][]int{nil, {8, 7, 6, 5, 4, 3, 2, 1}, nil}, []int{8, 7, 6, 5, 4, 3, 2, 1}, []int{8, 7, 6, 5, 4, 3, 2, 1}},
	}
	for _, c := range cases {
		got, ok := impl.JoinParts(c.list, false)
		checkListOK(t, got, ok, c.sum, true, "JoinParts", c.list, false)
		got, ok = impl.JoinParts(c.list, true)
		checkListOK(t, got, ok, c.skew, true, "JoinParts", c.list, true)
	}
}

func TestJoinPartsRejects(t *testing.T) {
	eight := []int{1, 2, 3, 4, 5, 6, 7, 8}
	lists := [][][]int{
		{eight, {1}}, {{1}, eight}, {eight, eight}, {{1}, {}, eight},
		{{1, 2, 3, 4, 5}, {1, 2, 3, 4}}, {{1, 2, 3}, {1, 2, 3}, {1, 2, 3}},
		{{1}, {1}, {1}, {1}, {1}, {1}, {1}, {1}, {1}},
		{{2}, {0}}, {{0}, {1}}, {{3}, {}, {0, 1}}, {{1, 2, 4}, {0}},
	}
	for _, p := range notPerms() {
		lists = append(lists,
			[][]int{p}, [][]int{p, nil}, [][]int{nil, p}, [][]int{{1}, p}, [][]int{p, {1}}, [][]int{{2, 1}, p, {1}}, [][]int{p, p},
			[][]int{p, eight, {1}}, [][]int{eight, p, {1}}, [][]int{eight, {1}, p}, [][]int{{1}, p, eight})
	}
	for _, list := range lists {
		for _, skew := range []bool{false, true} {
			got, ok := impl.JoinParts(list, skew)
			checkListOK(t, got, ok, nil, false, "JoinParts", list, skew)
		}
	}
}

func TestJoinPartsTakesTheElementsInOrder(t *testing.T) {
	short := permsUpTo(3)
	for _, p := range short {
		for _, q := range short {
			for _, r := range short {
				for _, skew := range []bool{false, true} {
					list := [][]int{p, q, r}
					want := sumOf(skew, sumOf(skew, p, q), r)
					got, ok := impl.JoinParts(list, skew)
					if len(want) > 8 {
						want = nil
					}
					checkListOK(t, got, ok, want, len(p)+len(q)+len(r) <= 8, "JoinParts", list, skew)
				}
			}
		}
	}
}

// hasPattern tells by each choice of three places whether p has a pattern of length 3.
func hasPattern(p []int, pattern []int) bool {
	for i := range p {
		for j := i + 1; j < len(p); j++ {
			for k := j + 1; k < len(p); k++ {
				if got, _ := impl.PatternOf([]int{p[i], p[j], p[k]}); slices.Equal(got, pattern) {
					return true
				}
			}
		}
	}
	return false
}

func TestIsLayered(t *testing.T) {
	for _, p := range [][]int{nil, {}, {1}, {1, 2}, {2, 1}, {2, 1, 3, 5, 4}, {2, 1, 4, 3}, {3, 2, 1, 4}, {1, 2, 3, 4, 5, 6, 7, 8}, {8, 7, 6, 5, 4, 3, 2, 1}, {2, 1, 4, 3, 6, 5, 8, 7}, {3, 2, 1, 4, 6, 5, 8, 7}} {
		if !impl.IsLayered(p) {
			t.Errorf("IsLayered(%v) is false", p)
		}
	}
	for _, p := range append(notPerms(), []int{3, 1, 2}, []int{2, 3, 1}, []int{1, 4, 2, 3}, []int{2, 3, 1, 4}, []int{3, 4, 1, 2}, []int{2, 4, 1, 3}, []int{2, 1, 3, 4, 5, 8, 6, 7}, []int{2, 3, 1, 4, 5, 6, 8, 7}, []int{8, 7, 6, 5, 4, 3, 1, 2}) {
		if impl.IsLayered(p) {
			t.Errorf("IsLayered(%v) is true", p)
		}
	}
	for n, want := range []int{1, 1, 2, 4, 8, 16, 32} {
		got := 0
		for _, p := range impl.PermsOf(n) {
			layered := impl.IsLayered(p)
			if layered {
				got++
			}
			if layered == (hasPattern(p, []int{2, 3, 1}) || hasPattern(p, []int{3, 1, 2})) {
				t.Errorf("IsLayered(%v) is %t", p, layered)
			}
		}
		if got != want {
			t.Errorf("%d layered permutations have length %d, not %d", got, n, want)
		}
	}
}

func TestSumsLeaveTheirArguments(t *testing.T) {
	for _, list := range append(notPerms(), nil, []int{1}, []int{2, 1}, []int{1, 3, 2, 4}, []int{2, 4, 1, 3}, []int{3, 8, 1, 6, 5, 2, 7, 4}) {
		for _, other := range [][]int{nil, {1}, {2, 1, 3}, {2}} {
			p, q := guard(list), guard(other)
			whole := [][]int{p.list, q.list, p.list, {3, 2, 1}}
			for _, skew := range []bool{false, true} {
				for n := range 4 {
					joined, _ := impl.JoinParts(whole[:n], skew)
					spoil(joined)
				}
				for _, part := range partsOf(skew, p.list) {
					spoil(part)
				}
			}
			sum, _ := impl.SumOf(p.list, q.list)
			spoil(sum)
			sum, _ = impl.SkewSumOf(p.list, q.list)
			spoil(sum)
			impl.IsLayered(p.list)
			p.check(t, "a function of chapter 4")
			q.check(t, "a function of chapter 4")
			checkPerms(t, whole, [][]int{list, other, list, {3, 2, 1}}, "the argument of JoinParts")
		}
	}
}

func TestPartsAreNewMemory(t *testing.T) {
	for _, p := range [][]int{{1}, {1, 2, 3}, {3, 2, 1}, {1, 3, 2, 5, 4}, {6, 4, 5, 2, 3, 1}, {3, 8, 1, 6, 5, 2, 7, 4}} {
		for _, skew := range []bool{false, true} {
			want := partsOf(skew, p)
			parts := partsOf(skew, p)
			for i, part := range parts {
				spoil(part)
				checkPerms(t, parts[i+1:], want[i+1:], "the later parts of", p, skew)
			}
			checkPerms(t, partsOf(skew, p), want, "the parts, found again, of", p, skew)
		}
	}
}
