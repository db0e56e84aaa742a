package tests

import (
	"math"
	"slices"
	"strings"
	"testing"

	"loop.example/g03101/impl"
)

// nearOf reads a perm and a list of joined numbers with one digit each.
func nearOf(perm string, joined string) impl.Near {
	return impl.Near{Perm: digits(perm), Joined: digits(joined)}
}

// listsJoined returns all lists that may be joined in a permutation of length n.
func listsJoined(n int) [][]int {
	var lists [][]int
	for k := 0; k <= max(n-1, 0); k++ {
		lists = append(lists, choicesByBits(max(n-1, 0), k)...)
	}
	return lists
}

// nearsWith returns all with this perm.
func nearsWith(perm []int) []impl.Near {
	var nears []impl.Near
	for _, joined := range listsJoined(len(perm)) {
		nears = append(nears, impl.Near{Perm: perm, Joined: joined})
	}
	return nears
}

// nearsUpTo returns all whose perm has at most n numbers.
func nearsUpTo(n int) []impl.Near {
	var nears []impl.Near
	for _, perm := range permsUpTo(n) {
		nears = append(nears, nearsWith(perm)...)
	}
	return nears
}

// longNears returns all whose perm is one of the longest ones.
func longNears() []impl.Near {
	var nears []impl.Near
	for _, perm := range longPerms() {
		nears = append(nears, nearsWith(perm)...)
	}
	return nears
}

// notNears lists values that are no Near.
func notNears() []impl.Near {
	var nears []impl.Near
	for _, wrong := range notPerms() {
		nears = append(nears, impl.Near{Perm: wrong}, impl.Near{Perm: wrong, Joined: []int{1}}, impl.Near{Perm: wrong, Joined: countUp(1, min(len(wrong), 9)-1)})
	}
	for _, joined := range [][]int{{0}, {1}, {-1}, {2}, {0, 0}, {1, 2}, {math.MinInt}, {math.MaxInt}} {
		nears = append(nears, impl.Near{Joined: joined}, impl.Near{Perm: []int{1}, Joined: joined})
	}
	wrong := [][]int{
		{4}, {5}, {0}, {-1}, {64}, {65}, {-63}, {1 << 32}, {1<<32 + 1}, {-1 << 32}, {math.MinInt}, {math.MinInt + 1}, {math.MaxInt},
		{0, 1}, {-1, 1}, {1, 4}, {1, 2, 3, 4}, {0, 1, 2, 3}, {1, 1}, {2, 2}, {3, 3}, {2, 1}, {3, 1}, {3, 2, 1}, {1, 3, 2}, {2, 1, 3},
		{1, 1, 2}, {1, 2, 2}, {1, 2, 3, 3}, {1, 2, 3, 1}, {1, 65}, {1, math.MaxInt}, {math.MinInt, 1}, {4, 1}, {5, 1}, make([]int, 1000),
	}
	for _, joined := range wrong {
		nears = append(nears, impl.Near{Perm: []int{2, 4, 1, 3}, Joined: joined})
	}
	for _, joined := range [][]int{{8}, {0}, {9}, countUp(1, 8), countUp(0, 7), countDown(7, 1), {7, 7}, {7, 8}, {64}} {
		nears = append(nears, impl.Near{Perm: countUp(1, 8), Joined: joined}, impl.Near{Perm: digits("38165274"), Joined: joined})
	}
	return nears
}

// follows tells whether the places with the numbers in joined, counted from 1, have the next one behind them.
func follows(places []int, joined []int) bool {
	for _, i := range joined {
		if places[i]-places[i-1] != 1 {
			return false
		}
	}
	return true
}

func countNearByAll(p []int, x impl.Near) int {
	n := 0
	for _, places := range occurrencesByAll(p, x.Perm) {
		if follows(places, x.Joined) {
			n++
		}
	}
	return n
}

func checkCount(t *testing.T, p []int, x impl.Near, want int) {
	t.Helper()
	if got := impl.CountNear(p, x); got != want {
		t.Errorf("CountNear(%v, %v) is %d, not %d", p, x, got, want)
	}
}

// checkNear compares a result that is a Near; nil and empty lists are the same.
func checkNear(t *testing.T, got impl.Near, gotOK bool, want impl.Near, wantOK bool, name string, args ...any) {
	t.Helper()
	if gotOK != wantOK || !slices.Equal(got.Perm, want.Perm) || !slices.Equal(got.Joined, want.Joined) {
		t.Errorf("%s%v is %v, %t, not %v, %t", name, args, got, gotOK, want, wantOK)
	}
}

func TestIsNear(t *testing.T) {
	for _, x := range append(nearsUpTo(4), longNears()...) {
		if !impl.IsNear(x) {
			t.Errorf("IsNear(%v) is false", x)
		}
	}
	for _, x := range notNears() {
		if impl.IsNear(x) {
			t.Errorf("IsNear(%v) is true", x)
		}
	}
	if !impl.IsNear(impl.Near{}) || !impl.IsNear(impl.Near{Perm: []int{}, Joined: []int{}}) {
		t.Error("IsNear of the zero Near is false")
	}
}

func TestIsNearOfAllLists(t *testing.T) {
	lists := listsUpTo(4, -1, 5)
	for _, perm := range digitLists("", "1", "21", "132", "2413", "35142") {
		allowed := listsJoined(len(perm))
		for _, joined := range lists {
			want := slices.ContainsFunc(allowed, func(list []int) bool { return slices.Equal(list, joined) })
			if got := impl.IsNear(impl.Near{Perm: perm, Joined: joined}); got != want {
				t.Errorf("IsNear of %v with %v joined is %t", perm, joined, got)
			}
		}
	}
}

func TestCountNear(t *testing.T) {
	cases := []struct {
		p, perm, joined string
		want            int
	}{
		{"", "", "", 1},
		{"", "1", "", 0},
		{"", "21", "", 0},
		{"", "21", "1", 0},
		{"1", "", "", 1},
		{"1", "1", "", 1},
		{"1", "12", "1", 0},
		{"21", "", "", 1},
		{"21", "1", "", 2},
		{"21", "21", "", 1},
		{"21", "21", "1", 1},
		{"21", "12", "1", 0},
		{"2413", "", "", 1},
		{"2413", "1", "", 4},
		{"2413", "21", "", 3},
		{"2413", "21", "1", 1},
		{"2413", "12", "", 3},
		{"2413", "12", "1", 2},
		{"2413", "213", "", 1},
		{"2413", "213", "1", 0},
		{"2413", "213", "2", 1},
		{"2413", "213", "12", 0},
		{"2413", "132", "", 1},
		{"2413", "132", "1", 1},
		{"2413", "132", "2", 0},
		{"2413", "132", "12", 0},
		{"2413", "231", "12", 1},
		{"2413", "312", "12", 1},
		{"2413", "123", "", 0},
		{"2413", "123", "12", 0},
		{"2413", "2413", "", 1},
		{"2413", "2413", "2", 1},
		{"2413", "2413", "123", 1},
		{"2413", "3142", "123", 0},
		{"2413", "24135", "1", 0},
		{"2413", "12345678", "7", 0},
		{"35142", "231", "", 3},
		{"35142", "231", "1", 2},
		{"35142", "231", "2", 2},
		{"35142", "231", "12", 1},
		{"52341", "4231", "", 3},
		{"52341", "4231", "1", 2},
		{"52341", "4231", "2", 2},
		{"52341", "4231", "3", 2},
		{"52341", "4231", "12", 1},
		{"52341", "4231", "13", 1},
		{"52341", "4231", "23", 1},
		{"52341", "4231", "123", 0},
		{"214365", "2143", "", 3},
		{"214365", "2143", "1", 3},
		{"214365", "2143", "2", 2},
		{"214365", "2143", "3", 3},
		{"214365", "2143", "123", 2},
		{"38165274", "38165274", "1234567", 1},
		{"38165274", "37165284", "1", 0},
		{"3715264", "38165274", "7", 0},
	}
	for _, c := range cases {
		checkCount(t, digits(c.p), nearOf(c.perm, c.joined), c.want)
	}
}

func TestCountNearRejects(t *testing.T) {
	for _, x := range notNears() {
		for _, p := range append(permsUpTo(3), digitLists("2413", "12345678", "38165274")...) {
			checkCount(t, p, x, -1)
		}
		for _, p := range append(notPerms(), x.Perm) {
			if !isPermByCount(p) {
				checkCount(t, p, x, -1)
			}
		}
	}
	for _, p := range notPerms() {
		for _, x := range append(nearsUpTo(3), impl.Near{}, nearOf("38165274", ""), nearOf("12345678", "1234567")) {
			checkCount(t, p, x, -1)
		}
	}
}

func TestCountNearByAll(t *testing.T) {
	for _, p := range append(permsUpTo(5), longPerms()...) {
		for _, perm := range append(permsUpTo(4), longPerms()...) {
			found := occurrencesByAll(p, perm)
			for _, x := range nearsWith(perm) {
				want := 0
				for _, places := range found {
					if follows(places, x.Joined) {
						want++
					}
				}
				checkCount(t, p, x, want)
			}
		}
	}
}

func TestCountNearWithNoneJoined(t *testing.T) {
	perms := append(permsUpTo(4), longPerms()...)
	for _, p := range perms {
		for _, perm := range perms {
			want := impl.CountPattern(p, perm)
			checkCount(t, p, impl.Near{Perm: perm}, want)
			checkCount(t, p, impl.Near{Perm: perm, Joined: []int{}}, want)
		}
	}
}

// TestCountNearWithAllJoined looks at each row of neighboring places.
func TestCountNearWithAllJoined(t *testing.T) {
	perms := append(permsUpTo(4), longPerms()...)
	for _, p := range append(permsUpTo(5), longPerms()...) {
		for _, perm := range perms {
			want := 0
			for first := 1; first+len(perm)-1 <= len(p); first++ {
				if len(perm) > 0 && numbersStandAs(perm, p, countUp(first, first+len(perm)-1)) {
					want++
				}
			}
			if len(perm) == 0 {
				want = 1
			}
			x, ok := impl.ConsecutiveOf(perm)
			checkNear(t, x, ok, impl.Near{Perm: perm, Joined: countUp(1, len(perm)-1)}, true, "ConsecutiveOf", perm)
			checkCount(t, p, x, want)
		}
	}
}

func TestCountNearOfLongPatterns(t *testing.T) {
	for _, p := range append(permsUpTo(5), longPerms()...) {
		for _, x := range nearsWith(p) {
			checkCount(t, p, x, 1)
		}
		longer := [][]int{append(slices.Clone(p), len(p)+1), append([]int{len(p) + 1}, p...)}
		for _, perm := range longer {
			if len(perm) > 8 {
				continue
			}
			for _, x := range nearsWith(perm) {
				checkCount(t, p, x, 0)
			}
		}
	}
	for _, p := range permsUpTo(4) {
		for _, perm := range impl.PermsOf(len(p)) {
			for _, x := range nearsWith(perm) {
				checkCount(t, p, x, countNearByAll(p, x))
			}
		}
	}
}

// TestCountNearInAscendingAndDescending knows the number: what is joined moves as one.
func TestCountNearInAscendingAndDescending(t *testing.T) {
	for n := 0; n <= 8; n++ {
		up, down := countUp(1, n), countDown(n, 1)
		for k := 0; k <= 8; k++ {
			for _, joined := range listsJoined(k) {
				all := 0
				if k <= n {
					all = countChoices(n-len(joined), k-len(joined))
				}
				other := all
				if k > 1 {
					other = 0
				}
				checkCount(t, up, impl.Near{Perm: countUp(1, k), Joined: joined}, all)
				checkCount(t, down, impl.Near{Perm: countDown(k, 1), Joined: joined}, all)
				checkCount(t, up, impl.Near{Perm: countDown(k, 1), Joined: joined}, other)
				checkCount(t, down, impl.Near{Perm: countUp(1, k), Joined: joined}, other)
			}
		}
	}
}

func nearTextCases() []struct{ perm, joined, text string } {
	return []struct{ perm, joined, text string }{
		{"", "", "-"},
		{"1", "", "1"},
		{"12", "", "1_2"},
		{"12", "1", "12"},
		{"21", "", "2_1"},
		{"21", "1", "21"},
		{"213", "", "2_1_3"},
		{"213", "1", "21_3"},
		{"213", "2", "2_13"},
		{"213", "12", "213"},
		{"2413", "", "2_4_1_3"},
		{"2413", "1", "24_1_3"},
		{"2413", "2", "2_41_3"},
		{"2413", "3", "2_4_13"},
		{"2413", "12", "241_3"},
		{"2413", "13", "24_13"},
		{"2413", "23", "2_413"},
		{"2413", "123", "2413"},
		{"38165274", "", "3_8_1_6_5_2_7_4"},
		{"38165274", "1", "38_1_6_5_2_7_4"},
		{"38165274", "7", "3_8_1_6_5_2_74"},
		{"38165274", "17", "38_1_6_5_2_74"},
		{"38165274", "246", "3_81_65_27_4"},
		{"38165274", "1357", "38_16_52_74"},
		{"38165274", "1234567", "38165274"},
	}
}

func TestNearText(t *testing.T) {
	for _, c := range nearTextCases() {
		x := nearOf(c.perm, c.joined)
		if got := impl.NearText(x); got != c.text {
			t.Errorf("NearText(%v) is %q, not %q", x, got, c.text)
		}
		got, ok := impl.ParseNear(c.text)
		checkNear(t, got, ok, x, true, "ParseNear", c.text)
	}
	if got := impl.NearText(impl.Near{}); got != "-" {
		t.Errorf("NearText of the zero Near is %q", got)
	}
	for _, x := range notNears() {
		if got := impl.NearText(x); got != "" {
			t.Errorf("NearText(%v) is %q", x, got)
		}
	}
}

// nearTextByNumbers writes the numbers one by one.
func nearTextByNumbers(x impl.Near) string {
	if len(x.Perm) == 0 {
		return "-"
	}
	text := ""
	for i, v := range x.Perm {
		text += string(rune('0' + v))
		if i+1 < len(x.Perm) && !slices.Contains(x.Joined, i+1) {
			text += "_"
		}
	}
	return text
}

func TestTextsTellNears(t *testing.T) {
	for _, x := range append(nearsUpTo(5), longNears()...) {
		text := impl.NearText(x)
		if want := nearTextByNumbers(x); text != want {
			t.Errorf("NearText(%v) is %q, not %q", x, text, want)
		}
		got, ok := impl.ParseNear(text)
		checkNear(t, got, ok, x, true, "ParseNear", text)
	}
}

func TestParseNearRejects(t *testing.T) {
	rejected := []string{
		"", "_", "__", "_1", "1_", "_1_", "__1", "1__", "_21", "21_", "_2_1", "2_1_", "_2_1_", "2__1", "2___1", "2__13", "2_1__3", "21__3", "__21", "21__",
		"_-", "-_", "_-_", "-_-", "--", "-1", "1-", "-_1", "1_-", "2-1", "2_-1",
		"x", "2x1", "x21", "21x", "2 1", " 21", "21 ", "2_1 ", "2_ 1", "2_1\n", "2,1", "2\x001", "2\xff1", "_x", "\uff3f", "2\uff3f1", "2\u20131", "\u0661", "+1", "1_+2",
		"0", "2", "9", "01", "0_1", "1_0", "11", "1_1", "2_2", "22", "13", "1_3", "2_3_4", "1_2_4", "21_4", "1_2_2", "12_12",
		"123456789", "1_2_3_4_5_6_7_8_9", "12345678_9", "1234567_9", "12345678_8", "1_10", "1234567_8_", "_12345678", "1_2_3_4_5_6_7_8_", "1_2_3_4_5_6_7__8",
		strings.Repeat("_", 1000), strings.Repeat("1_", 1000), "1" + strings.Repeat("_", 1000) + "2", strings.Repeat("_", 9) + "12345678",
	}
	for _, text := range rejected {
		got, ok := impl.ParseNear(text)
		checkNear(t, got, ok, impl.Near{}, false, "ParseNear", text)
	}
	for b := range 256 {
		for _, text := range []string{"2" + string([]byte{byte(b)}) + "1", string([]byte{byte(b)}) + "21", "2_1" + string([]byte{byte(b)})} {
			if text == "2_1" || b == '3' {
				continue
			}
			got, ok := impl.ParseNear(text)
			checkNear(t, got, ok, impl.Near{}, false, "ParseNear", text)
		}
	}
}

// TestParseNearOfAllTexts knows all texts of a Near from the texts of all of them.
func TestParseNearOfAllTexts(t *testing.T) {
	known := map[string]impl.Near{}
	for _, x := range nearsUpTo(4) {
		known[nearTextByNumbers(x)] = x
	}
	for _, text := range textsUpTo(6, "1234_-") {
		want, wantOK := known[text]
		got, ok := impl.ParseNear(text)
		checkNear(t, got, ok, want, wantOK, "ParseNear", text)
	}
}

func TestReverseNear(t *testing.T) {
	cases := []struct{ x, want string }{
		{"-", "-"},
		{"1", "1"},
		{"21", "12"},
		{"2_1", "1_2"},
		{"21_3", "3_12"},
		{"2_13", "31_2"},
		{"1_3_2", "2_3_1"},
		{"132", "231"},
		{"24_1_3", "3_1_42"},
		{"2_41_3", "3_14_2"},
		{"2_4_13", "31_4_2"},
		{"241_3", "3_142"},
		{"24_13", "31_42"},
		{"38_1_6_5_2_7_4", "4_7_2_5_6_1_83"},
		{"3_8_1_6_5_2_74", "47_2_5_6_1_8_3"},
		{"3816_527_4", "4_725_6183"},
		{"12345678", "87654321"},
	}
	for _, c := range cases {
		x, _ := impl.ParseNear(c.x)
		want, _ := impl.ParseNear(c.want)
		got, ok := impl.ReverseNear(x)
		checkNear(t, got, ok, want, true, "ReverseNear", c.x)
	}
	got, ok := impl.ReverseNear(impl.Near{})
	checkNear(t, got, ok, impl.Near{}, true, "ReverseNear", impl.Near{})
	for _, x := range notNears() {
		got, ok := impl.ReverseNear(x)
		checkNear(t, got, ok, impl.Near{}, false, "ReverseNear", x)
	}
}

func TestReverseNearTwice(t *testing.T) {
	for _, x := range append(nearsUpTo(5), longNears()...) {
		var want impl.Near
		for place := len(x.Perm); place >= 1; place-- {
			want.Perm = append(want.Perm, x.Perm[place-1])
			if slices.Contains(x.Joined, place) {
				want.Joined = append(want.Joined, len(x.Perm)-place)
			}
		}
		reverse, ok := impl.ReverseNear(x)
		checkNear(t, reverse, ok, want, true, "ReverseNear", x)
		again, ok := impl.ReverseNear(reverse)
		checkNear(t, again, ok, x, true, "ReverseNear", reverse)
	}
}

// TestImagesKeepTheNumberOfNears takes the two symmetries that keep places neighbors.
func TestImagesKeepTheNumberOfNears(t *testing.T) {
	nears := nearsUpTo(4)
	for _, p := range append(permsUpTo(5)[120:], longPerms()...) {
		for _, x := range nears {
			want := impl.CountNear(p, x)
			reverse, _ := impl.ReverseNear(x)
			checkCount(t, imageOf(p, 2), reverse, want)
			checkCount(t, imageOf(p, 4), impl.Near{Perm: imageOf(x.Perm, 4), Joined: x.Joined}, want)
		}
	}
}

func TestConsecutiveOf(t *testing.T) {
	cases := []struct{ q, joined string }{
		{"", ""},
		{"1", ""},
		{"12", "1"},
		{"21", "1"},
		{"132", "12"},
		{"2413", "123"},
		{"38165274", "1234567"},
	}
	for _, c := range cases {
		got, ok := impl.ConsecutiveOf(digits(c.q))
		checkNear(t, got, ok, nearOf(c.q, c.joined), true, "ConsecutiveOf", c.q)
	}
	for _, q := range append(permsUpTo(5), longPerms()...) {
		x, _ := impl.ConsecutiveOf(q)
		if got, want := impl.NearText(x), impl.PermText(q); got != want {
			t.Errorf("NearText of ConsecutiveOf(%v) is %q", q, got)
		}
	}
	for _, wrong := range notPerms() {
		got, ok := impl.ConsecutiveOf(wrong)
		checkNear(t, got, ok, impl.Near{}, false, "ConsecutiveOf", wrong)
	}
}

// TestNeighboringPatternsAreFewer is promise 8.
func TestNeighboringPatternsAreFewer(t *testing.T) {
	perms := permsUpTo(4)
	for _, p := range append(permsUpTo(5), longPerms()...) {
		for _, perm := range perms {
			counts := map[int]int{}
			for bits := range 1 << max(len(perm)-1, 0) {
				var joined []int
				for i := 1; i < len(perm); i++ {
					if bits>>(i-1)&1 == 1 {
						joined = append(joined, i)
					}
				}
				counts[bits] = impl.CountNear(p, impl.Near{Perm: perm, Joined: joined})
			}
			if counts[0] != impl.CountPattern(p, perm) {
				t.Errorf("%v occurs %d times in %v with no joined places", perm, counts[0], p)
			}
			for bits, n := range counts {
				for fewer := range bits {
					if bits&fewer == fewer && (n < 0 || n > counts[fewer]) {
						t.Errorf("%v occurs %d times in %v with the bits %b joined, but %d times with %b", perm, n, p, bits, counts[fewer], fewer)
					}
				}
			}
		}
	}
}

// TestNearsOfEachPerm counts the choices of places that are joined in the same way.
func TestNearsOfEachPerm(t *testing.T) {
	for _, p := range append(permsUpTo(5), longPerms()...) {
		for k := 0; k <= min(len(p), 4); k++ {
			for _, joined := range listsJoined(k) {
				sum := 0
				for _, perm := range impl.PermsOf(k) {
					sum += impl.CountNear(p, impl.Near{Perm: perm, Joined: joined})
				}
				if want := countChoices(len(p)-len(joined), k-len(joined)); sum != want {
					t.Errorf("those of length %d with %v joined occur %d times in %v, not %d", k, joined, sum, p, want)
				}
			}
		}
	}
}

// TestHowManyHaveNoNear compares with numbers that are known.
func TestHowManyHaveNoNear(t *testing.T) {
	bell := []int{1, 1, 2, 5, 15, 52, 203, 877}
	catalan := []int{1, 1, 2, 5, 14, 42, 132, 429}
	cases := []struct {
		texts []string
		want  []int
	}{
		{[]string{"-"}, []int{0, 0, 0}},
		{[]string{"1"}, []int{1, 0, 0}},
		{[]string{"21", "2_1", "12", "1_2"}, []int{1, 1, 1, 1, 1, 1}},
		{[]string{"1_23", "1_32", "3_21", "3_12", "12_3", "21_3", "32_1", "23_1"}, bell},
		{[]string{"2_13", "2_31", "13_2", "31_2", "1_2_3", "1_3_2"}, catalan},
		{[]string{"123", "321"}, []int{1, 1, 2, 5, 17, 70, 349, 2017}},
		{[]string{"132", "213", "231", "312"}, []int{1, 1, 2, 5, 16, 63, 296, 1623}},
		{[]string{"1234", "4321"}, []int{1, 1, 2, 6, 23, 111, 642, 4326}},
	}
	for _, c := range cases {
		for _, text := range c.texts {
			x, _ := impl.ParseNear(text)
			for n, want := range c.want {
				got := 0
				for _, p := range allOfLength(n) {
					if impl.CountNear(p, x) == 0 {
						got++
					}
				}
				if got != want {
					t.Errorf("%q does not occur in %d permutations of length %d, not %d", text, got, n, want)
				}
			}
		}
	}
}

func spoilNear(x impl.Near) {
	spoil(x.Perm)
	spoil(x.Joined)
}

func TestNearsLeaveTheirArguments(t *testing.T) {
	lists := append(notPerms(), nil, []int{1}, []int{2, 1}, digits("2413"), digits("38165274"))
	for _, x := range append(notNears(), append(nearsUpTo(3), nearOf("2413", "13"), nearOf("38165274", "1234567"))...) {
		perm, joined := guard(x.Perm), guard(x.Joined)
		near := impl.Near{Perm: perm.list, Joined: joined.list}
		for _, list := range lists {
			p := guard(list)
			impl.CountNear(p.list, near)
			p.check(t, "CountNear")
			impl.CountNear(p.list, impl.Near{Perm: p.list, Joined: joined.list})
			p.check(t, "CountNear")
		}
		impl.IsNear(near)
		impl.NearText(near)
		reverse, _ := impl.ReverseNear(near)
		spoilNear(reverse)
		perm.check(t, "a function of chapter 8")
		joined.check(t, "a function of chapter 8")
	}
	for _, list := range lists {
		q := guard(list)
		x, _ := impl.ConsecutiveOf(q.list)
		spoilNear(x)
		q.check(t, "ConsecutiveOf")
	}
}

func TestNearsAreNewMemory(t *testing.T) {
	for _, x := range append(nearsUpTo(4), longNears()...) {
		lists := func(x impl.Near, _ bool) [][]int { return [][]int{x.Perm, x.Joined} }
		checkNewMemory(t, "ParseNear", func() [][]int { return lists(impl.ParseNear(nearTextByNumbers(x))) })
		checkNewMemory(t, "ReverseNear", func() [][]int { return lists(impl.ReverseNear(x)) })
		checkNewMemory(t, "ConsecutiveOf", func() [][]int { return lists(impl.ConsecutiveOf(x.Perm)) })
	}
}
