package tests

import (
	"math"
	"slices"
	"testing"

	"loop.example/g03101/impl"
)

func labelByAll(basis [][]int, p []int) int { return len(activeByAll(basis, p)) }

// childLabelsByAll is for permutations of the class up to length 6.
func childLabelsByAll(basis [][]int, p []int) []int {
	var labels []int
	for _, child := range childrenAt(p, activeByAll(basis, p)) {
		labels = append(labels, labelByAll(basis, child))
	}
	slices.Sort(labels)
	return labels
}

// ruleByAll looks for two permutations with the same label and different labels of their children.
func ruleByAll(basis [][]int, n int) ([][]int, bool) {
	children := map[int][]int{}
	for _, p := range permsUpTo(n) {
		if !inClassByAll(basis, p) {
			continue
		}
		label, labels := labelByAll(basis, p), childLabelsByAll(basis, p)
		if known, ok := children[label]; ok && !slices.Equal(known, labels) {
			return nil, false
		}
		children[label] = labels
	}
	var rule [][]int
	for label := 0; label <= n+1; label++ {
		if labels, ok := children[label]; ok {
			rule = append(rule, append([]int{label}, labels...))
		}
	}
	return rule, true
}

// ruleCountsByAll is for valid rules and keeps no list: it counts how often a label stands in it.
func ruleCountsByAll(rule [][]int, label int, n int) []int {
	times := map[int]int{label: 1}
	counts := []int{1}
	for range n {
		next, sum := map[int]int{}, 0
		for known, count := range times {
			first := slices.IndexFunc(rule, func(element []int) bool { return element[0] == known })
			if first < 0 {
				continue
			}
			for _, follower := range rule[first][1:] {
				next[follower] += count
				sum += count
			}
		}
		if sum > 5000 {
			return nil
		}
		times = next
		counts = append(counts, sum)
	}
	return counts
}

func checkLabel(t *testing.T, basis [][]int, p []int, want int) {
	t.Helper()
	checkNumber(t, impl.LabelOf(basis, p), want, "LabelOf", basis, p)
}

func checkLabelsAt(t *testing.T, basis [][]int, n int, want []int) {
	t.Helper()
	checkList(t, impl.LabelsAt(basis, n), want, "LabelsAt", basis, n)
}

func checkChildLabels(t *testing.T, basis [][]int, p []int, want []int) {
	t.Helper()
	checkList(t, impl.ChildLabels(basis, p), want, "ChildLabels", basis, p)
}

func checkRule(t *testing.T, basis [][]int, n int, want [][]int, wantOK bool) {
	t.Helper()
	got, ok := impl.RuleUpTo(basis, n)
	checkPermsOK(t, got, ok, want, wantOK, "RuleUpTo", basis, n)
}

func checkRuleCounts(t *testing.T, rule [][]int, label int, n int, want []int) {
	t.Helper()
	checkList(t, impl.RuleCounts(rule, label, n), want, "RuleCounts", rule, label, n)
}

// repeated returns a list of one label and then another one some times.
func repeated(label int, follower int, times int) []int {
	return append([]int{label}, slices.Repeat([]int{follower}, times)...)
}

func TestLabelOf(t *testing.T) {
	cases := []struct {
		basis, p string
		want     int
	}{
		// Every class has the empty permutation, that without 1 nothing else.
		{"", "", 1},
		{"1", "", 0},
		{"12", "", 1},
		{"12 21", "", 1},
		{"12345678", "", 1},
		{"", "1", 2},
		{"12", "1", 1},
		{"21", "1", 1},
		{"12 21", "1", 0},
		{"231", "1", 2},
		{"", "2413", 5},
		{"12", "21", 1},
		{"12 321", "21", 0},
		{"231", "12", 3},
		{"231", "21", 2},
		{"231", "2143", 3},
		{"321", "2143", 2},
		{"123 321", "132", 0},
		{"123 321", "213", 2},
		{"2413 3142", "213", 3},
		{"2413 3142", "2143", 4},
		{"132 213 231 312", "321", 1},
		// A label that MaxLen - 1 still has, and MaxLen no more.
		{"", "3715264", 8},
		{"12345678", "1234567", 7},
		{"12", "7654321", 1},
		{"12 87654321", "7654321", 0},
		{"", "12345678", -1},
		{"12", "87654321", -1},
		{"2413", "21436587", -1},
		// These are not in the class.
		{"1", "1", -1},
		{"231", "231", -1},
		{"231", "2413", -1},
		{"12", "123", -1},
		{"12 21", "21", -1},
		{"12", "12345678", -1},
		{"12345678", "12345678", -1},
	}
	for _, c := range cases {
		checkLabel(t, listOf(c.basis), digits(c.p), c.want)
	}
}

// TestLabelsByAll tries all sites, and compares with ActiveSites.
func TestLabelsByAll(t *testing.T) {
	for _, basis := range append(someBases(), shortBases()...) {
		for _, p := range append(permsUpTo(4), longPerms()...) {
			if len(p) == impl.MaxLen || !inClassByAll(basis, p) {
				checkLabel(t, basis, p, -1)
				continue
			}
			checkLabel(t, basis, p, labelByAll(basis, p))
			checkLabel(t, basis, p, len(impl.ActiveSites(basis, p)))
		}
	}
}

// TestLabelZero tells a permutation without children from one without a label.
func TestLabelZero(t *testing.T) {
	for _, basis := range append(someBases(), shortBases()...) {
		for n := 0; n <= 5; n++ {
			leaves := 0
			for _, p := range impl.PermsOf(n) {
				if impl.LabelOf(basis, p) == 0 {
					checkChildLabels(t, basis, p, nil)
					leaves++
				}
			}
			checkLeaves(t, basis, n, leaves)
		}
	}
}

func TestLabelsAt(t *testing.T) {
	cases := []struct {
		basis string
		want  []string
	}{
		{"", []string{"1", "2", "33", "444444", "555555555555555555555555"}},
		{"1", []string{"0", "", "", "", "", "", ""}},
		{"12", []string{"1", "1", "1", "1", "1", "1", "1"}},
		{"21", []string{"1", "1", "1", "1", "1", "1", "1"}},
		{"12 21", []string{"1", "0", "", "", "", "", ""}},
		{"12 321", []string{"1", "1", "0", "", "", "", ""}},
		{"12 7654321", []string{"1", "1", "1", "1", "1", "1", "0"}},
		{"12 87654321", []string{"1", "1", "1", "1", "1", "1", "1"}},
		{"123 321", []string{"1", "2", "22", "0022", "0000", "", ""}},
		{"231", []string{"1", "2", "23", "22334", "22222333334445"}},
		{"123 132", []string{"1", "2", "13", "1124", "11112235"}},
		{"132 231", []string{"1", "2", "22", "2222", "22222222"}},
		{"132 321", []string{"1", "2", "22", "1222", "1112222", "11111122222", "1111111111222222"}},
		{"231 312 321", []string{"1", "2", "12", "122", "11222", "11122222", "1111122222222"}},
		{"132 213 321", []string{"1", "2", "12", "112", "1112", "11112", "111112"}},
		{"1324", []string{"1", "2", "33", "344444", "33344444455555555555555"}},
		{"2413 3142", []string{"1", "2", "33", "334444", "3333334444444455555555"}},
	}
	for _, c := range cases {
		for n, want := range c.want {
			checkLabelsAt(t, listOf(c.basis), n, digits(want))
		}
	}
	checkLabelsAt(t, nil, 5, slices.Repeat([]int{6}, 120))
	checkLabelsAt(t, [][]int{}, 6, slices.Repeat([]int{7}, 720))
	checkLabelsAt(t, listOf("12345678"), 6, slices.Repeat([]int{7}, 720))
}

// TestLabelsAtByLabelOf compares with the labels of all permutations, in ascending order; all together, they are as many as the permutations that are longer by one.
func TestLabelsAtByLabelOf(t *testing.T) {
	for _, basis := range append(someBases(), shortBases()...) {
		counts := impl.ClassCounts(basis, 6)
		for n := 0; n <= 6; n++ {
			var want []int
			for _, p := range impl.ClassOf(basis, n) {
				want = append(want, impl.LabelOf(basis, p))
			}
			slices.Sort(want)
			got := impl.LabelsAt(basis, n)
			checkList(t, got, want, "LabelsAt", basis, n)
			checkTruth(t, slices.IsSorted(got), true, "whether there is the order of LabelsAt", basis, n)
			checkNumber(t, len(got), counts[n], "the number of LabelsAt", basis, n)
			sum := 0
			for _, label := range got {
				sum += label
			}
			if n < 6 {
				checkNumber(t, sum, counts[n+1], "the sum of LabelsAt", basis, n)
			}
		}
	}
}

func TestLabelsAtByAll(t *testing.T) {
	for _, basis := range append(someBases(), shortBases()...) {
		for n := 0; n <= 4; n++ {
			var want []int
			for _, p := range classByAll(basis, n) {
				want = append(want, labelByAll(basis, p))
			}
			slices.Sort(want)
			checkLabelsAt(t, basis, n, want)
		}
	}
}

func TestChildLabels(t *testing.T) {
	cases := []struct{ basis, p, want string }{
		{"", "", "2"},
		{"", "1", "33"},
		{"", "21", "444"},
		{"", "2413", "66666"},
		{"1", "", ""},
		{"12", "", "1"},
		{"12", "321", "1"},
		{"12 21", "", "0"},
		{"12 21", "1", ""},
		{"12 321", "", "1"},
		{"12 321", "1", "0"},
		{"12 321", "21", ""},
		{"123 321", "1", "22"},
		{"123 321", "12", "02"},
		{"123 321", "213", "00"},
		{"123 321", "132", ""},
		{"231", "1", "23"},
		{"231", "21", "23"},
		{"231", "12", "234"},
		{"132 321", "12", "22"},
		{"132 321", "21", "12"},
		{"1324", "12", "344"},
		{"1324", "21", "444"},
		// Lengths MaxLen - 2, MaxLen - 1 and MaxLen.
		{"", "246135", "8888888"},
		{"12", "654321", "1"},
		{"12 7654321", "654321", ""},
		{"12 87654321", "654321", "0"},
		{"12345678", "123456", "7888888"},
		{"", "1234567", ""},
		{"12", "7654321", ""},
		{"21", "1234567", ""},
		{"", "12345678", ""},
		{"12", "87654321", ""},
		// These are not in the class.
		{"1", "1", ""},
		{"231", "231", ""},
		{"12", "123", ""},
		{"12", "123456", ""},
		{"2413 3142", "35142", ""},
	}
	for _, c := range cases {
		checkChildLabels(t, listOf(c.basis), digits(c.p), digits(c.want))
	}
}

// TestChildLabelsByLabelOf compares with LabelOf over ChildrenOf, in ascending order, up to MaxLen - 2.
func TestChildLabelsByLabelOf(t *testing.T) {
	perms := append(permsUpTo(4), longPerms()...)
	perms = append(perms, digitLists("123456", "654321", "135246", "246135", "362514")...)
	for _, basis := range append(someBases(), shortBases()...) {
		for _, p := range perms {
			var want []int
			for _, child := range impl.ChildrenOf(basis, p) {
				if len(p) <= impl.MaxLen-2 {
					want = append(want, impl.LabelOf(basis, child))
				}
			}
			slices.Sort(want)
			checkChildLabels(t, basis, p, want)
			if len(p) <= impl.MaxLen-2 {
				checkNumber(t, len(want), max(0, impl.LabelOf(basis, p)), "the number of ChildLabels", basis, p)
			}
		}
	}
}

func TestChildLabelsByAll(t *testing.T) {
	for _, basis := range append(fewBases(), shortBases()...) {
		for _, p := range permsUpTo(4) {
			if inClassByAll(basis, p) {
				checkChildLabels(t, basis, p, childLabelsByAll(basis, p))
			} else {
				checkChildLabels(t, basis, p, nil)
			}
		}
	}
}

// ruleCase is a basis with the elements that each length, from 0 on, adds to its rule; "no" stands for the first length with which there is none.
type ruleCase struct {
	basis string
	added []string
}

func ruleCases() []ruleCase {
	all := []string{"12", "233", "3444", "45555", "566666", "6777777"}
	catalan := []string{"12", "223", "3234", "42345", "523456", "6234567"}
	return []ruleCase{
		{"", all},
		{"12345678", all},
		{"38165274", all},
		{"1", []string{"0"}},
		{"12", []string{"11"}},
		{"21", []string{"11"}},
		{"12 87654321", []string{"11"}},
		// The permutation 1 adds the least label behind that of the empty one.
		{"12 21", []string{"10", "0"}},
		{"123", catalan},
		{"132", catalan},
		{"213", catalan},
		{"231", catalan},
		{"312", catalan},
		{"321", catalan},
		{"123 132", []string{"12", "213", "3114", "41115", "511116", "6111117"}},
		{"132 231", []string{"12", "222"}},
		{"231 312", []string{"12", "222"}},
		{"231 312 321", []string{"12", "212"}},
		{"2413 3142", []string{"12", "233", "3344", "43455", "534566", "6345677"}},
		{"12 321", []string{"11", "no"}},
		{"21 123", []string{"11", "no"}},
		{"12 4321", []string{"11", "", "no"}},
		{"12 54321", []string{"11", "", "", "no"}},
		{"12 7654321", []string{"11", "", "", "", "", "no"}},
		{"123 321", []string{"12", "222", "no"}},
		{"132 321", []string{"12", "222", "no"}},
		{"132 213 321", []string{"12", "212", "no"}},
		{"1324", []string{"12", "233", "no"}},
		{"2413", []string{"12", "233", "no"}},
		{"123 3412", []string{"12", "223", "no"}},
		{"132 4321", []string{"12", "223", "3233", "no"}},
		{"2143 3412", []string{"12", "233", "3344", "no"}},
		{"25314", []string{"12", "233", "3444", "no"}},
		{"7654321 12345678", []string{"12", "233", "3444", "45555", "566666", "no"}},
		{"3715264 24681357", []string{"12", "233", "3444", "45555", "566666", "no"}},
	}
}

func TestRuleUpTo(t *testing.T) {
	for _, c := range ruleCases() {
		var rule [][]int
		holds := true
		for n := 0; n <= 5; n++ {
			if n < len(c.added) {
				holds = c.added[n] != "no"
				rule = append(rule, listOf(c.added[n])...)
			}
			slices.SortFunc(rule, slices.Compare)
			if holds {
				checkRule(t, listOf(c.basis), n, rule, true)
			} else {
				checkRule(t, listOf(c.basis), n, nil, false)
			}
		}
	}
}

func TestRulesByAll(t *testing.T) {
	for _, basis := range append(someBases(), shortBases()...) {
		for n := 0; n <= 3; n++ {
			want, ok := ruleByAll(basis, n)
			checkRule(t, basis, n, want, ok)
		}
	}
	for _, basis := range fewBases() {
		want, ok := ruleByAll(basis, 4)
		checkRule(t, basis, 4, want, ok)
	}
	for _, text := range []string{"231", "12 21", "12 321", "132 321", "231 312 321", "12 7654321"} {
		want, ok := ruleByAll(listOf(text), 5)
		checkRule(t, listOf(text), 5, want, ok)
	}
}

// TestRulesByLabels compares with LabelOf and ChildLabels of all permutations of the class, at every n.
func TestRulesByLabels(t *testing.T) {
	for _, basis := range append(someBases(), shortBases()...) {
		holds := true
		children := map[int][]int{}
		for n := 0; n <= 5; n++ {
			for _, p := range impl.ClassOf(basis, n) {
				label, labels := impl.LabelOf(basis, p), impl.ChildLabels(basis, p)
				known, ok := children[label]
				holds = holds && (!ok || slices.Equal(known, labels))
				children[label] = labels
			}
			var want [][]int
			for label := 0; holds && label <= impl.MaxLen; label++ {
				if labels, ok := children[label]; ok {
					want = append(want, append([]int{label}, labels...))
				}
			}
			checkRule(t, basis, n, want, holds)
		}
	}
}

// TestRuleTellsTheCounts is promise 15: a rule that holds up to n tells the counts up to n + 1.
func TestRuleTellsTheCounts(t *testing.T) {
	hold, fail := 0, 0
	for _, basis := range append(someBases(), shortBases()...) {
		for n := 0; n <= 5; n++ {
			rule, ok := impl.RuleUpTo(basis, n)
			if !ok {
				fail++
				continue
			}
			hold++
			checkRuleCounts(t, rule, impl.LabelOf(basis, nil), n+1, impl.ClassCounts(basis, n+1))
			// From a permutation further down, it tells the counts below.
			if n > 0 && impl.InClass(basis, []int{1}) {
				checkRuleCounts(t, rule, impl.LabelOf(basis, []int{1}), n, impl.ClassCounts(basis, n+1)[1:])
			}
		}
	}
	checkTruth(t, hold > 100 && fail > 100, true, "whether there are rules of both kinds: ", hold, fail)
}

func TestRuleCounts(t *testing.T) {
	catalan := listOf("12 223 3234 42345 523456 6234567 72345678 823456789")
	schroeder := listOf("12 233 3344 43455 534566 6345677 73456788 834567899")
	all := listOf("12 233 3444 45555 566666 6777777 78888888 899999999")
	cases := []struct {
		rule  [][]int
		label int
		want  []int
	}{
		{catalan, 1, []int{1, 1, 2, 5, 14, 42, 132, 429, 1430}},
		// No element begins with 9, which comes after 7 steps.
		{catalan, 2, []int{1, 2, 5, 14, 42, 132, 429, 1430, 4853}},
		{schroeder, 1, []int{1, 1, 2, 6, 22, 90, 394, 1806}},
		{all, 1, []int{1, 1, 2, 6, 24, 120, 720}},
		{listOf("11"), 1, []int{1, 1, 1, 1, 1, 1, 1, 1, 1}},
		{listOf("12 222"), 1, []int{1, 1, 2, 4, 8, 16, 32, 64, 128}},
		{listOf("12 212"), 1, []int{1, 1, 2, 3, 5, 8, 13, 21, 34}},
		// A label without children, and one that no element begins with, leave nothing.
		{listOf("0"), 0, []int{1, 0, 0, 0, 0, 0, 0, 0, 0}},
		{listOf("10 0"), 1, []int{1, 1, 0, 0, 0, 0, 0, 0, 0}},
		{listOf("10"), 1, []int{1, 1, 0, 0, 0, 0, 0, 0, 0}},
		{listOf("3"), 3, []int{1, 0, 0, 0, 0, 0, 0, 0, 0}},
		{nil, 0, []int{1, 0, 0, 0, 0, 0, 0, 0, 0}},
		{nil, 5, []int{1, 0, 0, 0, 0, 0, 0, 0, 0}},
		{catalan, 0, []int{1, 0, 0, 0, 0, 0, 0, 0, 0}},
		{catalan, 9, []int{1, 0, 0, 0, 0, 0, 0, 0, 0}},
		{listOf("12 223 3234"), 1, []int{1, 1, 2, 5, 10, 20, 40, 80, 160}},
		{listOf("1919 2"), 1, []int{1, 3, 3, 3, 3, 3, 3, 3, 3}},
		// The first element with a label counts, also if it has no labels behind it.
		{listOf("11 122"), 1, []int{1, 1, 1, 1, 1, 1, 1, 1, 1}},
		{listOf("111 11"), 1, []int{1, 2, 4, 8, 16, 32, 64, 128, 256}},
		{listOf("1 111"), 1, []int{1, 0, 0, 0, 0, 0, 0, 0, 0}},
		{listOf("12 2 212 12345"), 1, []int{1, 1, 0, 0, 0, 0, 0, 0, 0}},
		{listOf("322 2 233 321"), 3, []int{1, 2, 0, 0, 0, 0, 0, 0, 0}},
		// The labels stand in any order, and a label has any number of them behind it.
		{listOf("3432 2 433 9"), 4, []int{1, 2, 6, 10, 22, 42, 86, 170, 342}},
		{[][]int{{-1, -1, math.MinInt}, {math.MinInt, math.MaxInt}, {math.MaxInt, -1, 0}}, -1, []int{1, 2, 3, 5, 7, 10, 15, 22, 32}},
		{[][]int{{1 << 32, 0}, {0, 1 << 32, 0}}, 0, []int{1, 2, 3, 5, 8, 13, 21, 34, 55}},
	}
	for _, c := range cases {
		for n := range c.want {
			checkRuleCounts(t, c.rule, c.label, n, c.want[:n+1])
		}
		for n := len(c.want); n <= 8; n++ {
			checkRuleCounts(t, c.rule, c.label, n, nil)
		}
	}
}

// growing is a rule by which the label 1 gives lists of 10, 100, 1000 and 5000 labels, the last ones 5, which are followed by themselves as often as asked for.
func growing(follow int) [][]int {
	return [][]int{repeated(1, 2, 10), repeated(2, 3, 10), repeated(3, 4, 10), repeated(4, 5, 5), repeated(5, 5, follow)}
}

func TestRuleCountsUpTo5000(t *testing.T) {
	counts := []int{1, 10, 100, 1000, 5000}
	stays := append(counts, 5000, 5000, 5000, 5000)
	ends := append(counts, 0, 0, 0, 0)
	for n := 0; n <= 8; n++ {
		checkRuleCounts(t, growing(1), 1, n, stays[:n+1])
		checkRuleCounts(t, growing(0), 1, n, ends[:n+1])
		if n < len(counts) {
			// The list that would be too long is not reached.
			checkRuleCounts(t, growing(2), 1, n, counts[:n+1])
		} else {
			checkRuleCounts(t, growing(2), 1, n, nil)
		}
	}
	// One label more beside these stays, so that the lists have 11, 101, 1001 and 5001.
	oneMore := append(growing(0), []int{9, 9})
	oneMore[0] = append(oneMore[0], 9)
	for n := 0; n <= 8; n++ {
		if n <= 3 {
			checkRuleCounts(t, oneMore, 1, n, []int{1, 11, 101, 1001}[:n+1])
		} else {
			// Too long a list counts, also if a later one is short again.
			checkRuleCounts(t, oneMore, 1, n, nil)
		}
	}
	for n := 0; n <= 8; n++ {
		most := [][]int{repeated(1, 1, 19)}
		if n <= 2 {
			checkRuleCounts(t, most, 1, n, []int{1, 19, 361}[:n+1])
		} else {
			checkRuleCounts(t, most, 1, n, nil)
		}
		// What the label doesn't reach doesn't grow.
		checkRuleCounts(t, most, 2, n, repeated(1, 0, n))
	}
}

// ruleOf has as many elements as asked for, each with one label more than the one before.
func ruleOf(elements int) [][]int {
	var rule [][]int
	for label := 1; label <= elements; label++ {
		rule = append(rule, []int{label, label + 1})
	}
	return rule
}

func TestRulesOf20(t *testing.T) {
	for n := 0; n <= 8; n++ {
		checkRuleCounts(t, ruleOf(20), 1, n, slices.Repeat([]int{1}, n+1))
		checkRuleCounts(t, ruleOf(20), 20, n, []int{1, 1, 0, 0, 0, 0, 0, 0, 0}[:n+1])
		checkRuleCounts(t, ruleOf(20), 21, n, repeated(1, 0, n))
		for _, label := range []int{0, 1, 20, 21, 22} {
			checkRuleCounts(t, ruleOf(21), label, n, nil)
		}
		checkRuleCounts(t, slices.Repeat([][]int{{1}}, 20), 1, n, repeated(1, 0, n))
		checkRuleCounts(t, slices.Repeat([][]int{{1}}, 21), 1, n, nil)
		checkRuleCounts(t, slices.Repeat([][]int{{1}}, 1000), 2, n, nil)
		// An element of 20 numbers, the label among them, and one of 21.
		checkRuleCounts(t, [][]int{repeated(1, 2, 19)}, 1, n, []int{1, 19, 0, 0, 0, 0, 0, 0, 0}[:n+1])
		for _, label := range []int{1, 2, 3} {
			checkRuleCounts(t, [][]int{repeated(1, 2, 20)}, label, n, nil)
			checkRuleCounts(t, [][]int{{3, 3}, {2}, repeated(1, 2, 20)}, label, n, nil)
			checkRuleCounts(t, [][]int{{1, 1}, repeated(1, 2, 20)}, label, n, nil)
			checkRuleCounts(t, [][]int{repeated(1, 2, 1000)}, label, n, nil)
		}
	}
	most := slices.Repeat([][]int{repeated(1, 2, 19)}, 20)
	checkRuleCounts(t, most, 1, 8, []int{1, 19, 0, 0, 0, 0, 0, 0, 0})
	checkRuleCounts(t, append(most, []int{1}), 1, 8, nil)
}

// TestRuleCountsByAll takes all rules of at most 3 elements from a few ones.
func TestRuleCountsByAll(t *testing.T) {
	elements := [][]int{{0}, {0, 1}, {1}, {1, 0, 2}, {1, 2, 1, 1}, {2, 0, 1, 2}, {2, 2}, repeated(2, 1, 19)}
	for _, places := range listsUpTo(3, 0, len(elements)-1) {
		var rule [][]int
		for _, i := range places {
			rule = append(rule, elements[i])
		}
		for label := -1; label <= 3; label++ {
			for n := 0; n <= 8; n++ {
				checkRuleCounts(t, rule, label, n, ruleCountsByAll(rule, label, n))
			}
		}
	}
}

// TestRuleCountsTellTheClass writes out rules that hold at all lengths, and compares with the class as far as it is counted.
func TestRuleCountsTellTheClass(t *testing.T) {
	for _, c := range []struct {
		basis string
		rule  func(label int) []int
	}{
		{"", func(label int) []int { return repeated(label, label+1, label) }},
		{"12", func(label int) []int { return []int{label, 1} }},
		{"231", func(label int) []int { return append([]int{label}, countUp(2, label+1)...) }},
		{"132 231", func(label int) []int { return repeated(label, 2, label) }},
		{"123 132", func(label int) []int { return append(repeated(label, 1, label-1), label+1) }},
	} {
		var rule [][]int
		for label := 1; label <= 9; label++ {
			rule = append(rule, c.rule(label))
		}
		for n := 0; n <= 6; n++ {
			checkRuleCounts(t, rule, 1, n, impl.ClassCounts(listOf(c.basis), n))
		}
		for n := 0; n <= 8; n++ {
			checkRuleCounts(t, rule, 1, n, ruleCountsByAll(rule, 1, n))
		}
	}
}

func TestRulesRejectLists(t *testing.T) {
	for _, wrong := range notBases() {
		for _, p := range append(append(permsUpTo(3), longPerms()...), notPerms()...) {
			checkLabel(t, wrong, p, -1)
			checkChildLabels(t, wrong, p, nil)
		}
		for _, n := range append(numbersAround(), 0, 1, 3, 5, 6, 7) {
			checkLabelsAt(t, wrong, n, nil)
			checkRule(t, wrong, n, nil, false)
		}
	}
}

func TestRulesRejectPerms(t *testing.T) {
	for _, basis := range someBases() {
		for _, wrong := range notPerms() {
			checkLabel(t, basis, wrong, -1)
			checkChildLabels(t, basis, wrong, nil)
		}
		for _, p := range basis {
			checkLabel(t, basis, p, -1)
			checkChildLabels(t, basis, p, nil)
		}
	}
}

func TestRulesRejectNumbers(t *testing.T) {
	rule := listOf("12 222")
	for _, basis := range someBases() {
		for _, n := range append(numbersAround(), 7, 8, 9) {
			checkLabelsAt(t, basis, n, nil)
			checkRule(t, basis, n, nil, false)
		}
		checkRule(t, basis, 6, nil, false)
	}
	for _, n := range append(numbersAround(), 9, 10, 11) {
		for _, label := range []int{-1, 0, 1, 2, 3} {
			checkRuleCounts(t, rule, label, n, nil)
			checkRuleCounts(t, nil, label, n, nil)
		}
	}
	// Any number is a label.
	for _, label := range append(numbersAround(), 0, 3) {
		checkRuleCounts(t, rule, label, 8, repeated(1, 0, 8))
		checkRuleCounts(t, [][]int{{label, label, label}}, label, 8, []int{1, 2, 4, 8, 16, 32, 64, 128, 256})
	}
}

func TestRulesRejectEmptyElements(t *testing.T) {
	for _, wrong := range [][][]int{
		{{}}, {nil}, {{}, {}}, {{}, {1, 1}}, {{1, 1}, {}}, {{1, 1}, nil, {2, 1}}, {{1, 1}, {1, 2}, {}}, append(ruleOf(19), nil), make([][]int, 20), make([][]int, 21), make([][]int, 1000),
	} {
		for _, label := range append(numbersAround(), 0, 1, 2, 3) {
			for n := -1; n <= 9; n++ {
				checkRuleCounts(t, wrong, label, n, nil)
			}
		}
	}
}

func TestRulesLeaveTheirArguments(t *testing.T) {
	lists := append(fewBases(), listOf("321 12"), listOf("1 12"), [][]int{{}, {1}}, [][]int{{2, 2}}, impl.PermsOf(4)[:8], impl.PermsOf(4)[:9], ruleOf(20), ruleOf(21), growing(1), growing(2), listOf("11 122"))
	for _, list := range lists {
		g := guardLists(list)
		for _, p := range append(digitLists("", "1", "21", "213", "2413", "22", "246135"), longPerms()...) {
			alone := guard(p)
			impl.LabelOf(g.lists, alone.list)
			spoil(impl.ChildLabels(g.lists, alone.list))
			alone.check(t, "a function of chapter 15")
		}
		for _, n := range []int{-1, 0, 1, 3, 4, 5, 7, 9} {
			spoil(impl.LabelsAt(g.lists, n))
			rule, _ := impl.RuleUpTo(g.lists, n)
			spoilAll(rule)
			for label := -1; label <= 3; label++ {
				spoil(impl.RuleCounts(g.lists, label, n))
			}
		}
		if len(g.lists) > 0 {
			// The same memory in both arguments.
			impl.LabelOf(g.lists, g.lists[0][:0])
			spoil(impl.ChildLabels(g.lists, g.lists[0][:0]))
		}
		g.check(t, "a function of chapter 15")
	}
}

func TestRulesAreNewMemory(t *testing.T) {
	for _, basis := range fewBases() {
		for _, n := range []int{0, 2, 4} {
			checkNewMemory(t, "LabelsAt", func() [][]int { return [][]int{impl.LabelsAt(basis, n), impl.LabelsAt(basis, n)} })
			checkNewMemory(t, "RuleUpTo", func() [][]int {
				rule, _ := impl.RuleUpTo(basis, n)
				return rule
			})
		}
		for _, p := range append(permsUpTo(3), longPerms()...) {
			checkNewMemory(t, "ChildLabels", func() [][]int { return [][]int{impl.ChildLabels(basis, p), impl.ChildLabels(basis, p)} })
		}
	}
	for _, rule := range [][][]int{nil, listOf("11"), listOf("12 223 3234"), ruleOf(20), growing(1)} {
		checkNewMemory(t, "RuleCounts", func() [][]int { return [][]int{impl.RuleCounts(rule, 1, 3), impl.RuleCounts(rule, 1, 4)} })
	}
}
