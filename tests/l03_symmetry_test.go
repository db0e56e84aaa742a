package tests

import (
	"math"
	"slices"
	"testing"

	"loop.example/g03101/impl"
)

// longPerms lists permutations of the greatest lengths, whose number is too great to try all.
func longPerms() [][]int {
	return [][]int{
		{1, 2, 3, 4, 5, 6, 7}, {7, 6, 5, 4, 3, 2, 1}, {3, 7, 1, 5, 2, 6, 4},
		{1, 2, 3, 4, 5, 6, 7, 8}, {8, 7, 6, 5, 4, 3, 2, 1}, {8, 1, 2, 3, 4, 5, 6, 7},
		{2, 1, 4, 3, 6, 5, 8, 7}, {3, 8, 1, 6, 5, 2, 7, 4}, {2, 4, 6, 8, 1, 3, 5, 7},
	}
}

// imageOf moves each point of the picture of p, so that it knows nothing of the order in which the steps are taken.
func imageOf(p []int, k int) []int {
	image := make([]int, len(p))
	for i, v := range p {
		place := i + 1
		if k == 1 || k == 3 || k == 5 || k == 7 {
			place, v = v, place
		}
		if k == 2 || k == 3 || k == 6 || k == 7 {
			place = len(p) + 1 - place
		}
		if k == 4 || k == 5 || k == 6 || k == 7 {
			v = len(p) + 1 - v
		}
		image[place-1] = v
	}
	return image
}

// checkPerms compares lists of lists; nil and empty ones are the same.
func checkPerms(t *testing.T, got [][]int, want [][]int, name string, args ...any) {
	t.Helper()
	if !slices.EqualFunc(got, want, slices.Equal) {
		t.Errorf("%s%v is %v, not %v", name, args, got, want)
	}
}

func TestReverseAndComplement(t *testing.T) {
	cases := []struct{ p, reverse, complement []int }{
		{nil, nil, nil},
		{[]int{}, nil, nil},
		{[]int{1}, []int{1}, []int{1}},
		{[]int{1, 2}, []int{2, 1}, []int{2, 1}},
		{[]int{1, 3, 2}, []int{2, 3, 1}, []int{3, 1, 2}},
		{[]int{2, 1, 3}, []int{3, 1, 2}, []int{2, 3, 1}},
		{[]int{2, 4, 1, 3}, []int{3, 1, 4, 2}, []int{3, 1, 4, 2}},
		{[]int{1, 3, 4, 2}, []int{2, 4, 3, 1}, []int{4, 2, 1, 3}},
		{[]int{8, 1, 2, 3, 4, 5, 6, 7}, []int{7, 6, 5, 4, 3, 2, 1, 8}, []int{1, 8, 7, 6, 5, 4, 3, 2}},
		{[]int{3, 8, 1, 6, 5, 2, 7, 4}, []int{4, 7, 2, 5, 6, 1, 8, 3}, []int{6, 1, 8, 3, 4, 7, 2, 5}},
	}
	for _, c := range cases {
		checkList(t, impl.ReversePerm(c.p), c.reverse, "ReversePerm", c.p)
		checkList(t, impl.ComplementPerm(c.p), c.complement, "ComplementPerm", c.p)
	}
	for _, p := range append(permsUpTo(6), longPerms()...) {
		checkList(t, impl.ReversePerm(p), imageOf(p, 2), "ReversePerm", p)
		checkList(t, impl.ComplementPerm(p), imageOf(p, 4), "ComplementPerm", p)
	}
	for _, p := range notPerms() {
		checkList(t, impl.ReversePerm(p), nil, "ReversePerm", p)
		checkList(t, impl.ComplementPerm(p), nil, "ComplementPerm", p)
	}
}

func TestSymmetryOf(t *testing.T) {
	cases := []struct {
		p    []int
		want [8][]int
	}{
		{nil, [8][]int{}},
		{[]int{1}, [8][]int{{1}, {1}, {1}, {1}, {1}, {1}, {1}, {1}}},
		{[]int{1, 2}, [8][]int{{1, 2}, {1, 2}, {2, 1}, {2, 1}, {2, 1}, {2, 1}, {1, 2}, {1, 2}}},
		{[]int{2, 3, 1}, [8][]int{{2, 3, 1}, {3, 1, 2}, {1, 3, 2}, {2, 1, 3}, {2, 1, 3}, {1, 3, 2}, {3, 1, 2}, {2, 3, 1}}},
		{[]int{1, 3, 4, 2}, [8][]int{{1, 3, 4, 2}, {1, 4, 2, 3}, {2, 4, 3, 1}, {3, 2, 4, 1}, {4, 2, 1, 3}, {4, 1, 3, 2}, {3, 1, 2, 4}, {2, 3, 1, 4}}},
		{[]int{8, 1, 2, 3, 4, 5, 6, 7}, [8][]int{
			{8, 1, 2, 3, 4, 5, 6, 7}, {2, 3, 4, 5, 6, 7, 8, 1}, {7, 6, 5, 4, 3, 2, 1, 8}, {1, 8, 7, 6, 5, 4, 3, 2},
			{1, 8, 7, 6, 5, 4, 3, 2}, {7, 6, 5, 4, 3, 2, 1, 8}, {2, 3, 4, 5, 6, 7, 8, 1}, {8, 1, 2, 3, 4, 5, 6, 7},
		}},
	}
	for _, c := range cases {
		for k, want := range c.want {
			got, ok := impl.SymmetryOf(c.p, k)
			checkListOK(t, got, ok, want, true, "SymmetryOf", c.p, k)
		}
	}
	for _, p := range append(permsUpTo(6), longPerms()...) {
		for k := range 8 {
			got, ok := impl.SymmetryOf(p, k)
			checkListOK(t, got, ok, imageOf(p, k), true, "SymmetryOf", p, k)
		}
	}
}

func TestSymmetryOfRejects(t *testing.T) {
	outside := []int{-1, 8, -2, -7, -8, 9, 10, 12, 15, 16, 255, 256, 1 << 32, 1<<32 + 1, math.MaxInt, math.MinInt, math.MinInt + 1}
	for _, p := range append(longPerms(), nil, []int{1}, []int{2, 1}, []int{1, 3, 4, 2}) {
		for _, k := range outside {
			got, ok := impl.SymmetryOf(p, k)
			checkListOK(t, got, ok, nil, false, "SymmetryOf", p, k)
		}
	}
	for _, p := range notPerms() {
		for _, k := range []int{0, 1, 2, 3, 4, 5, 6, 7, 8, -1} {
			got, ok := impl.SymmetryOf(p, k)
			checkListOK(t, got, ok, nil, false, "SymmetryOf", p, k)
		}
	}
}

func TestSymmetryClass(t *testing.T) {
	cases := []struct {
		p    []int
		want [][]int
	}{
		{nil, [][]int{{}}},
		{[]int{}, [][]int{{}}},
		{[]int{1}, [][]int{{1}}},
		{[]int{1, 2}, [][]int{{1, 2}, {2, 1}}},
		{[]int{2, 1}, [][]int{{1, 2}, {2, 1}}},
		{[]int{3, 1, 2}, [][]int{{1, 3, 2}, {2, 1, 3}, {2, 3, 1}, {3, 1, 2}}},
		{[]int{3, 2, 1}, [][]int{{1, 2, 3}, {3, 2, 1}}},
		{[]int{2, 4, 1, 3}, [][]int{{2, 4, 1, 3}, {3, 1, 4, 2}}},
		{[]int{2, 1, 4, 3}, [][]int{{2, 1, 4, 3}, {3, 4, 1, 2}}},
		{[]int{4, 2, 1, 3}, [][]int{{1, 3, 4, 2}, {1, 4, 2, 3}, {2, 3, 1, 4}, {2, 4, 3, 1}, {3, 1, 2, 4}, {3, 2, 4, 1}, {4, 1, 3, 2}, {4, 2, 1, 3}}},
		{[]int{2, 5, 3, 1, 4}, [][]int{{2, 5, 3, 1, 4}, {4, 1, 3, 5, 2}}},
		{[]int{8, 1, 2, 3, 4, 5, 6, 7}, [][]int{{1, 8, 7, 6, 5, 4, 3, 2}, {2, 3, 4, 5, 6, 7, 8, 1}, {7, 6, 5, 4, 3, 2, 1, 8}, {8, 1, 2, 3, 4, 5, 6, 7}}},
	}
	for _, c := range cases {
		checkPerms(t, impl.SymmetryClass(c.p), c.want, "SymmetryClass", c.p)
		checkList(t, impl.LeastSymmetry(c.p), c.want[0], "LeastSymmetry", c.p)
	}
	for _, p := range notPerms() {
		checkPerms(t, impl.SymmetryClass(p), nil, "SymmetryClass", p)
		checkList(t, impl.LeastSymmetry(p), nil, "LeastSymmetry", p)
	}
}

func TestSymmetryClassHasTheImages(t *testing.T) {
	for _, p := range append(permsUpTo(5), longPerms()...) {
		class := impl.SymmetryClass(p)
		for i := 1; i < len(class); i++ {
			if slices.Compare(class[i-1], class[i]) >= 0 {
				t.Errorf("SymmetryClass(%v) has %v before %v", p, class[i-1], class[i])
			}
		}
		found := map[string]bool{}
		for k := range 8 {
			image := imageOf(p, k)
			found[impl.PermText(image)] = true
			if !slices.ContainsFunc(class, func(q []int) bool { return slices.Equal(q, image) }) {
				t.Errorf("SymmetryClass(%v) is without %v", p, image)
			}
		}
		if len(class) != len(found) {
			t.Errorf("SymmetryClass(%v) has %d elements, not %d", p, len(class), len(found))
		}
	}
}

// TestSymmetryClassesAreTheSameForTheirElements is promise 3.
func TestSymmetryClassesAreTheSameForTheirElements(t *testing.T) {
	for _, p := range append(permsUpTo(6), longPerms()...) {
		class := impl.SymmetryClass(p)
		least := impl.LeastSymmetry(p)
		if !slices.ContainsFunc(class, func(q []int) bool { return slices.Equal(q, p) }) {
			t.Fatalf("SymmetryClass(%v) is %v", p, class)
		}
		for _, q := range class {
			checkPerms(t, impl.SymmetryClass(q), class, "SymmetryClass", q)
			checkList(t, impl.LeastSymmetry(q), least, "LeastSymmetry", q)
			if impl.BeforePerm(q, least) {
				t.Errorf("LeastSymmetry(%v) is %v, but %v is less", p, least, q)
			}
		}
	}
}

func TestNumberOfSymmetryClasses(t *testing.T) {
	for n, want := range []int{1, 1, 1, 2, 7, 23, 115} {
		found := map[string]bool{}
		total := 0
		for _, p := range impl.PermsOf(n) {
			least := impl.PermText(impl.LeastSymmetry(p))
			if !found[least] {
				total += len(impl.SymmetryClass(p))
			}
			found[least] = true
		}
		if len(found) != want || total != len(impl.PermsOf(n)) {
			t.Errorf("the permutations of length %d have %d classes with %d elements, not %d", n, len(found), total, want)
		}
	}
}

func TestIsInvolution(t *testing.T) {
	for _, p := range [][]int{nil, {}, {1}, {1, 2}, {2, 1}, {3, 2, 1}, {2, 1, 4, 3}, {1, 2, 3, 4, 5, 6, 7, 8}, {8, 7, 6, 5, 4, 3, 2, 1}, {2, 1, 4, 3, 6, 5, 8, 7}} {
		if !impl.IsInvolution(p) {
			t.Errorf("IsInvolution(%v) is false", p)
		}
	}
	for _, p := range append(notPerms(), []int{2, 3, 1}, []int{3, 1, 2}, []int{2, 4, 1, 3}, []int{8, 1, 2, 3, 4, 5, 6, 7}, []int{1, 2, 3, 4, 5, 7, 8, 6}) {
		if impl.IsInvolution(p) {
			t.Errorf("IsInvolution(%v) is true", p)
		}
	}
	for n, want := range []int{1, 1, 2, 4, 10, 26, 76} {
		got := 0
		for _, p := range impl.PermsOf(n) {
			if impl.IsInvolution(p) {
				got++
			}
			if impl.IsInvolution(p) != slices.Equal(p, imageOf(p, 1)) {
				t.Errorf("IsInvolution(%v) is %t", p, impl.IsInvolution(p))
			}
		}
		if got != want {
			t.Errorf("%d involutions have length %d, not %d", got, n, want)
		}
	}
}

func TestOrderPerms(t *testing.T) {
	cases := []struct{ list, want [][]int }{
		{nil, nil},
		{[][]int{}, nil},
		{[][]int{nil}, [][]int{{}}},
		{[][]int{{}, nil, {}}, [][]int{{}}},
		{[][]int{{1}}, [][]int{{1}}},
		{[][]int{{2, 1}, {1}, {2, 1}}, [][]int{{1}, {2, 1}}},
		{[][]int{{1}, {2, 1}, {2, 1}, {1}}, [][]int{{1}, {2, 1}}},
		{[][]int{{2, 1}, {}, {1, 2, 3}, {1}, {1, 2}}, [][]int{{}, {1}, {1, 2}, {2, 1}, {1, 2, 3}}},
		{[][]int{{1, 2, 3}, {1, 2}, {1}}, [][]int{{1}, {1, 2}, {1, 2, 3}}},
		{[][]int{{1, 2, 3, 4, 5, 6, 7, 8}, {7, 6, 5, 4, 3, 2, 1}}, [][]int{{7, 6, 5, 4, 3, 2, 1}, {1, 2, 3, 4, 5, 6, 7, 8}}},
		{[][]int{{8, 7, 6, 5, 4, 3, 2, 1}, {8, 7, 6, 5, 4, 3, 1, 2}, {8, 7, 6, 5, 4, 3, 2, 1}}, [][]int{{8, 7, 6, 5, 4, 3, 1, 2}, {8, 7, 6, 5, 4, 3, 2, 1}}},
	}
	for _, c := range cases {
		checkPerms(t, impl.OrderPerms(c.list), c.want, "OrderPerms", c.list)
	}
	for _, p := range notPerms() {
		for _, list := range [][][]int{{p}, {p, {1}}, {{1}, p}, {{1}, {2, 1}, p, {1, 2}, nil}, {p, p}, {{2, 1}, {2, 1}, p}} {
			checkPerms(t, impl.OrderPerms(list), nil, "OrderPerms", list)
		}
	}
}

func TestOrderPermsOrdersAll(t *testing.T) {
	all := permsUpTo(5)
	backward := slices.Clone(all)
	slices.Reverse(backward)
	// 89 and the number of permutations have no common divisor, so that each one is taken once.
	var mixed [][]int
	for i := range all {
		mixed = append(mixed, all[i*89%len(all)])
	}
	twice := slices.Concat(mixed, backward)
	for _, list := range [][][]int{all, backward, mixed, twice} {
		if got := impl.OrderPerms(list); !slices.EqualFunc(got, all, slices.Equal) {
			t.Errorf("OrderPerms of all permutations up to length 5 has %d elements, not in order each once", len(got))
		}
	}
}

func TestSymmetriesLeaveTheirArguments(t *testing.T) {
	for _, list := range append(notPerms(), nil, []int{1}, []int{2, 4, 1, 3}, []int{1, 3, 4, 2}, []int{3, 8, 1, 6, 5, 2, 7, 4}) {
		p := guard(list)
		impl.IsInvolution(p.list)
		spoil(impl.ReversePerm(p.list))
		spoil(impl.ComplementPerm(p.list))
		spoil(impl.LeastSymmetry(p.list))
		for k := -1; k <= 8; k++ {
			image, _ := impl.SymmetryOf(p.list, k)
			spoil(image)
		}
		for _, q := range impl.SymmetryClass(p.list) {
			spoil(q)
		}
		p.check(t, "a function of chapter 3")
	}
}

func TestOrderPermsLeavesItsArgument(t *testing.T) {
	elements := []guarded{guard([]int{2, 1}), guard([]int{1}), guard([]int{2, 1}), guard(nil), guard([]int{1, 2})}
	var whole [][]int
	for _, g := range elements {
		whole = append(whole, g.list)
	}
	// The same memory twice, and one more permutation in the unused capacity.
	whole = append(whole, elements[0].list, []int{4, 3, 2, 1})
	got := impl.OrderPerms(whole[:len(whole)-1])
	checkPerms(t, got, [][]int{{}, {1}, {1, 2}, {2, 1}}, "OrderPerms")
	for _, p := range got {
		spoil(p)
	}
	clear(got[:cap(got)])
	for i, g := range elements {
		g.check(t, "OrderPerms")
		checkList(t, whole[i], g.list, "the argument of OrderPerms", i)
	}
	checkList(t, whole[5], []int{2, 1}, "the argument of OrderPerms", 5)
	checkList(t, whole[6], []int{4, 3, 2, 1}, "the argument of OrderPerms", 6)
	broken := [][]int{{2, 1}, {1}, {2}}
	impl.OrderPerms(broken)
	checkPerms(t, broken, [][]int{{2, 1}, {1}, {2}}, "the argument of OrderPerms")
}

func TestSymmetryClassIsNewMemory(t *testing.T) {
	for _, p := range [][]int{{1}, {2, 1}, {1, 3, 4, 2}, {3, 8, 1, 6, 5, 2, 7, 4}} {
		class := impl.SymmetryClass(p)
		for i, q := range class {
			spoil(q)
			for _, r := range class[i+1:] {
				if slices.Contains(r, spareNumber) {
					t.Fatalf("two elements of SymmetryClass(%v) share memory", p)
				}
			}
		}
		again := impl.SymmetryClass(p)
		for _, q := range again {
			if slices.Contains(q, spareNumber) {
				t.Fatalf("a later SymmetryClass(%v) is %v", p, again)
			}
		}
	}
}
