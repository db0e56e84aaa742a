package tests

import (
	"math"
	"slices"
	"testing"

	"loop.example/g03101/impl"
)

// meshOf reads a perm with one digit for each number, and boxes with one for the column and one for the row.
func meshOf(perm string, boxes ...string) impl.Mesh {
	return impl.Mesh{Perm: digits(perm), Shaded: digitLists(boxes...)}
}

// boxesFor returns all boxes for a perm of length k, in order.
func boxesFor(k int) [][]int {
	var boxes [][]int
	for x := 0; x <= k; x++ {
		for y := 0; y <= k; y++ {
			boxes = append(boxes, []int{x, y})
		}
	}
	return boxes
}

// shadedBy returns the boxes whose bits are set; the bit 0 stands for the first one in order.
func shadedBy(k int, bits int) [][]int {
	var boxes [][]int
	for i, b := range boxesFor(k) {
		if bits>>i&1 == 1 {
			boxes = append(boxes, b)
		}
	}
	return boxes
}

func meshBy(perm []int, bits int) impl.Mesh {
	return impl.Mesh{Perm: perm, Shaded: shadedBy(len(perm), bits)}
}

func allBits(k int) int { return 1<<((k+1)*(k+1)) - 1 }

// someBits returns the bits of all shadings up to length 2, and for longer perms those of none, one, all but one and all boxes, of columns, rows, corners and of mixed ones.
func someBits(k int) []int {
	all := allBits(k)
	if k <= 2 {
		return countUp(0, all)
	}
	bits := []int{0, all, all & 0x155555, all & 0x0f0f0f0, all & 0x1234567, all & 0x0081021}
	column := 1<<(k+1) - 1
	row := 0
	for x := range k + 1 {
		row |= 1 << (x * (k + 1))
	}
	for i := range k + 1 {
		bits = append(bits, column<<(i*(k+1)), row<<i, column<<(i*(k+1))|row<<i)
	}
	for i := range (k + 1) * (k + 1) {
		bits = append(bits, 1<<i, all&^(1<<i))
	}
	return bits
}

// someMeshes returns, for each perm up to length 4, those of someBits.
func someMeshes() []impl.Mesh {
	var meshes []impl.Mesh
	for _, perm := range permsUpTo(4) {
		for _, bits := range someBits(len(perm)) {
			meshes = append(meshes, meshBy(perm, bits))
		}
	}
	return meshes
}

// fewMeshes returns, for each perm up to length 4, the ones with no, all and the outer boxes.
func fewMeshes() []impl.Mesh {
	var meshes []impl.Mesh
	for _, perm := range permsUpTo(4) {
		meshes = append(meshes, meshBy(perm, 0), meshBy(perm, allBits(len(perm))), meshBy(perm, 1), meshBy(perm, allBits(len(perm))&^1))
	}
	return meshes
}

// notMeshes lists values that are no Mesh.
func notMeshes() []impl.Mesh {
	var meshes []impl.Mesh
	for _, wrong := range append(notPerms(), countUp(1, 5), countDown(5, 1), digits("24135"), digits("214365"), countUp(1, 7), digits("38165274")) {
		meshes = append(meshes, impl.Mesh{Perm: wrong}, impl.Mesh{Perm: wrong, Shaded: [][]int{{0, 0}}}, impl.Mesh{Perm: wrong, Shaded: boxesFor(min(len(wrong), 5))})
	}
	for _, boxes := range [][][]int{{nil}, {{}}, {{0}}, {{0, 0, 0}}, {{0, 1}}, {{1, 0}}, {{1, 1}}, {{-1, 0}}, {{0, -1}}, {{0, 0}, {0, 0}}, {{0, 0}, {0, 1}}, {{0, 0}, {}}} {
		meshes = append(meshes, impl.Mesh{Shaded: boxes}, impl.Mesh{Perm: []int{}, Shaded: boxes})
	}
	wrong := [][][]int{
		{nil}, {{}}, {{0}}, {{1}}, {{0, 1, 2}}, {{0, 0, 0}}, {{0, 1}, {1}}, {{1}, {1, 0}}, {{0, 1}, {0, 1, 2}}, {{0, 1}, nil}, {make([]int, 1000)},
		{{-1, 0}}, {{0, -1}}, {{-1, -1}}, {{3, 0}}, {{0, 3}}, {{3, 3}}, {{2, 3}}, {{3, 2}}, {{0, 0}, {3, 0}}, {{-1, 0}, {0, 0}}, {{0, -1}, {0, 0}}, {{0, 0}, {0, 3}, {1, 0}},
		{{math.MinInt, 0}}, {{0, math.MinInt}}, {{math.MaxInt, 0}}, {{0, math.MaxInt}}, {{1 << 32, 0}}, {{0, 1 << 32}}, {{1<<32 + 1, 1}}, {{1, 1<<8 + 1}},
		{{0, 0}, {0, 0}}, {{1, 2}, {1, 2}}, {{2, 2}, {2, 2}}, {{0, 1}, {1, 0}, {1, 0}}, {{0, 1}, {1, 0}, {0, 1}},
		{{1, 0}, {0, 0}}, {{1, 0}, {0, 2}}, {{2, 0}, {1, 2}}, {{0, 0}, {2, 0}, {1, 0}},
		{{0, 1}, {0, 0}}, {{1, 2}, {1, 1}}, {{0, 0}, {2, 2}, {2, 0}}, {{0, 2}, {0, 0}, {1, 0}},
		append(boxesFor(2), []int{2, 2}), append([][]int{{0, 0}}, boxesFor(2)...), boxesFor(3), boxesFor(1000)[:1001],
	}
	for _, boxes := range wrong {
		meshes = append(meshes, impl.Mesh{Perm: []int{1, 2}, Shaded: boxes}, impl.Mesh{Perm: []int{2, 1}, Shaded: boxes})
	}
	for _, boxes := range [][][]int{{{5, 0}}, {{0, 5}}, {{4, 5}}, {{5, 4}}, {{4, 4}, {4, 4}}, {{4, 4}, {4, 3}}, {{4, 0}, {3, 4}}, {{4}}, {{4, 4, 4}}, boxesFor(5), slices.Repeat([][]int{{4, 4}}, 1000)} {
		meshes = append(meshes, impl.Mesh{Perm: digits("2413"), Shaded: boxes}, impl.Mesh{Perm: countUp(1, 4), Shaded: boxes})
	}
	return meshes
}

// isEmptyBox tells whether no place strictly between the limits of the column has a number strictly between those of the row.
func isEmptyBox(p []int, places []int, x int, y int) bool {
	columns, rows := []int{0}, []int{0}
	for _, place := range places {
		columns, rows = append(columns, place), append(rows, p[place-1])
	}
	slices.Sort(rows)
	columns, rows = append(columns, len(p)+1), append(rows, len(p)+1)
	for place := columns[x] + 1; place < columns[x+1]; place++ {
		if v := p[place-1]; v > rows[y] && v < rows[y+1] {
			return false
		}
	}
	return true
}

// fullBoxes returns, for each occurrence of the perm in p, the bits of the boxes that are not empty.
func fullBoxes(p []int, perm []int) []int {
	var list []int
	for _, places := range occurrencesByAll(p, perm) {
		full := 0
		for i, b := range boxesFor(len(perm)) {
			if !isEmptyBox(p, places, b[0], b[1]) {
				full |= 1 << i
			}
		}
		list = append(list, full)
	}
	return list
}

// countFree counts the occurrences that have nothing in the boxes whose bits are set.
func countFree(full []int, bits int) int {
	n := 0
	for _, f := range full {
		if f&bits == 0 {
			n++
		}
	}
	return n
}

func checkMeshCount(t *testing.T, p []int, m impl.Mesh, want int) {
	t.Helper()
	if got := impl.CountMesh(p, m); got != want {
		t.Errorf("CountMesh(%v, %v) is %d, not %d", p, m, got, want)
	}
}

// checkMesh compares a result that is a Mesh; nil and empty lists are the same.
func checkMesh(t *testing.T, got impl.Mesh, gotOK bool, want impl.Mesh, wantOK bool, name string, args ...any) {
	t.Helper()
	if gotOK != wantOK || !slices.Equal(got.Perm, want.Perm) || !slices.EqualFunc(got.Shaded, want.Shaded, slices.Equal) {
		t.Errorf("%s%v is %v, %t, not %v, %t", name, args, got, gotOK, want, wantOK)
	}
}

func TestIsMesh(t *testing.T) {
	for _, m := range someMeshes() {
		if !impl.IsMesh(m) {
			t.Errorf("IsMesh(%v) is false", m)
		}
	}
	for _, m := range notMeshes() {
		if impl.IsMesh(m) {
			t.Errorf("IsMesh(%v) is true", m)
		}
	}
	if !impl.IsMesh(impl.Mesh{}) || !impl.IsMesh(impl.Mesh{Perm: []int{}, Shaded: [][]int{}}) {
		t.Error("IsMesh of the zero Mesh is false")
	}
}

// TestIsMeshOfAllLists tries each list of up to three boxes, some of which are none.
func TestIsMeshOfAllLists(t *testing.T) {
	for _, perm := range digitLists("", "1", "21") {
		allowed := map[string]bool{}
		for _, bits := range someBits(len(perm)) {
			allowed[boxesText(shadedBy(len(perm), bits))] = true
		}
		boxes := [][]int{nil, {0}, {0, 0, 0}, {-1, 0}, {0, -1}}
		for x := range 4 {
			for y := range 4 {
				boxes = append(boxes, []int{x, y})
			}
		}
		for _, chosen := range listsUpTo(3, 0, len(boxes)-1) {
			var shaded [][]int
			for _, i := range chosen {
				shaded = append(shaded, boxes[i])
			}
			if got := impl.IsMesh(impl.Mesh{Perm: perm, Shaded: shaded}); got != allowed[boxesText(shaded)] {
				t.Errorf("IsMesh of %v with %v shaded is %t", perm, shaded, got)
			}
		}
	}
}

func boxesText(boxes [][]int) string {
	text := ""
	for _, b := range boxes {
		for _, v := range b {
			text += string(rune('5' + v))
		}
		text += " "
	}
	return text
}

type meshCase struct {
	p    string
	m    impl.Mesh
	want int
}

func meshCases() []meshCase {
	return []meshCase{
		{"", meshOf(""), 1},
		{"", meshOf("", "00"), 1},
		{"1", meshOf(""), 1},
		{"1", meshOf("", "00"), 0},
		{"2413", meshOf(""), 1},
		{"2413", meshOf("", "00"), 0},
		{"", meshOf("1"), 0},
		{"", meshOf("1", "00", "01", "10", "11"), 0},
		{"1", meshOf("1"), 1},
		{"1", meshOf("1", "00", "01", "10", "11"), 1},
		{"12", meshOf("1", "00", "01", "10", "11"), 0},
		{"21", meshOf("1", "00", "01", "10", "11"), 0},
		{"12", meshOf("1", "00"), 1},
		{"12", meshOf("1", "01"), 2},
		{"12", meshOf("1", "10"), 2},
		{"12", meshOf("1", "11"), 1},
		{"12", meshOf("1", "00", "11"), 0},
		{"12", meshOf("1", "01", "10"), 2},
		{"21", meshOf("1", "00"), 2},
		{"21", meshOf("1", "01"), 1},
		{"21", meshOf("1", "10"), 1},
		{"21", meshOf("1", "11"), 2},
		{"231", meshOf("1"), 3},
		{"231", meshOf("1", "00"), 2},
		{"231", meshOf("1", "01"), 2},
		{"231", meshOf("1", "10"), 1},
		{"231", meshOf("1", "11"), 2},
		{"231", meshOf("1", "00", "01"), 1},
		{"231", meshOf("1", "10", "11"), 1},
		{"231", meshOf("1", "00", "10"), 1},
		{"231", meshOf("1", "01", "11"), 1},
		{"231", meshOf("21"), 2},
		{"231", meshOf("21", "10", "11", "12"), 1},
		{"231", meshOf("21", "12"), 1},
		{"231", meshOf("21", "02"), 2},
		{"231", meshOf("21", "01"), 1},
		{"231", meshOf("21", "22"), 2},
		{"2413", meshOf("12"), 3},
		{"2413", meshOf("12", "00"), 3},
		{"2413", meshOf("12", "02"), 2},
		{"2413", meshOf("12", "10"), 2},
		{"2413", meshOf("12", "12"), 2},
		{"2413", meshOf("12", "20"), 2},
		{"2413", meshOf("12", "21"), 2},
		{"2413", meshOf("12", "11"), 3},
		{"2413", meshOf("12", "01"), 2},
		{"2413", meshOf("12", "22"), 3},
		{"2413", meshOf("12", "10", "11", "12"), 2},
		{"2413", meshOf("12", "01", "11", "21"), 1},
		{"2413", meshOf("21", "00", "01", "02"), 1},
		{"2413", meshOf("213", "31"), 1},
		{"2413", meshOf("213", "13"), 0},
		{"2413", meshOf("2413"), 1},
		{"2413", meshOf("2413", "00", "04", "40", "44"), 1},
		{"2413", impl.Mesh{Perm: digits("2413"), Shaded: boxesFor(4)}, 1},
		{"2413", impl.Mesh{Perm: digits("3142"), Shaded: boxesFor(4)}, 0},
		{"2413", impl.Mesh{Perm: digits("231"), Shaded: boxesFor(3)}, 0},
		{"231", meshOf("2413"), 0},
		{"231", meshOf("2413", "22"), 0},
		{"25314", meshOf("2413"), 1},
		{"25314", meshOf("2413", "22"), 0},
		{"25314", meshOf("2413", "21", "23"), 1},
		{"25314", meshOf("2413", "12", "32"), 1},
		{"25314", meshOf("2413", "00", "04", "40", "44"), 1},
		{"2413", meshOf("12", "00", "10"), 2},
		{"35241", meshOf("3241"), 1},
		{"35241", meshOf("3241", "14"), 0},
		{"35241", meshOf("3241", "13"), 1},
		{"53241", meshOf("3241", "14"), 1},
		{"53241", meshOf("3241", "04"), 0},
		{"32415", meshOf("3241", "44"), 0},
		{"32415", meshOf("3241", "34", "43"), 1},
		{"43521", meshOf("3241"), 2},
		{"43521", meshOf("3241", "40"), 1},
		{"43521", meshOf("3241", "31"), 1},
		{"43521", meshOf("3241", "31", "40"), 0},
		{"14352", meshOf("3241", "00"), 0},
		{"14352", meshOf("3241", "01", "10"), 1},
		{"38165274", meshOf("1", "00"), 2},
		{"38165274", meshOf("1", "01"), 2},
		{"38165274", meshOf("1", "10"), 3},
		{"38165274", meshOf("1", "11"), 3},
		{"12345678", meshOf("1", "01", "10"), 8},
		{"87654321", meshOf("1", "00", "11"), 8},
	}
}

func TestCountMesh(t *testing.T) {
	for _, c := range meshCases() {
		checkMeshCount(t, digits(c.p), c.m, c.want)
	}
}

func TestCountMeshRejects(t *testing.T) {
	perms := append(permsUpTo(3), digitLists("2413", "12345678", "38165274")...)
	for _, m := range notMeshes() {
		for _, p := range append(perms, m.Perm) {
			checkMeshCount(t, p, m, -1)
		}
		for _, wrong := range notPerms() {
			checkMeshCount(t, wrong, m, -1)
		}
	}
	for _, wrong := range notPerms() {
		for _, m := range append(fewMeshes(), impl.Mesh{}) {
			checkMeshCount(t, wrong, m, -1)
		}
	}
}

// TestCountMeshByAll looks into each box of each choice of places.
func TestCountMeshByAll(t *testing.T) {
	for _, p := range append(permsUpTo(4), longPerms()...) {
		for _, perm := range permsUpTo(4) {
			full := fullBoxes(p, perm)
			for _, bits := range someBits(len(perm)) {
				checkMeshCount(t, p, meshBy(perm, bits), countFree(full, bits))
			}
		}
	}
}

func TestCountMeshInLongerPerms(t *testing.T) {
	for _, p := range slices.Concat(impl.PermsOf(5), allOfLength(6)) {
		for _, perm := range digitLists("1", "12", "231", "3241") {
			full := fullBoxes(p, perm)
			bits := someBits(len(perm))
			for i := 0; i < len(bits); i += 1 + len(bits)/12 {
				checkMeshCount(t, p, meshBy(perm, bits[i]), countFree(full, bits[i]))
			}
		}
	}
}

func TestCountMeshWithNoBoxes(t *testing.T) {
	for _, p := range append(permsUpTo(5), longPerms()...) {
		for _, perm := range permsUpTo(4) {
			want := impl.CountPattern(p, perm)
			checkMeshCount(t, p, impl.Mesh{Perm: perm}, want)
			checkMeshCount(t, p, impl.Mesh{Perm: perm, Shaded: [][]int{}}, want)
		}
		checkMeshCount(t, p, impl.Mesh{}, 1)
	}
}

func TestCountMeshWithAllBoxes(t *testing.T) {
	for _, p := range append(permsUpTo(5), longPerms()...) {
		for _, perm := range permsUpTo(4) {
			want := 0
			if slices.Equal(p, perm) {
				want = 1
			}
			checkMeshCount(t, p, impl.Mesh{Perm: perm, Shaded: boxesFor(len(perm))}, want)
		}
	}
}

func TestCountMeshOfLongPatterns(t *testing.T) {
	for _, perm := range permsUpTo(4) {
		for _, bits := range someBits(len(perm)) {
			m := meshBy(perm, bits)
			// With as many numbers, no place is left for a box.
			checkMeshCount(t, perm, m, 1)
			for k := range len(perm) {
				checkMeshCount(t, countUp(1, k), m, 0)
				checkMeshCount(t, countDown(k, 1), m, 0)
			}
		}
	}
	for _, p := range impl.PermsOf(4) {
		for _, perm := range impl.PermsOf(4) {
			want := 0
			if slices.Equal(p, perm) {
				want = 1
			}
			checkMeshCount(t, p, meshBy(perm, 0x0f0f0f0), want)
		}
	}
}

// gapsFilled returns the number of ways to leave n things to k + 1 gaps of which some are shut.
func gapsFilled(n int, k int, shut int) int {
	switch open := k + 1 - shut; {
	case n < 0:
		return 0
	case open == 0 && n == 0:
		return 1
	case open == 0:
		return 0
	default:
		return countChoices(n+open-1, open-1)
	}
}

// TestCountMeshInAscendingAndDescending knows the number: all other places are in the boxes on a diagonal.
func TestCountMeshInAscendingAndDescending(t *testing.T) {
	for n := 0; n <= 8; n++ {
		up, down := countUp(1, n), countDown(n, 1)
		for k := 0; k <= 4; k++ {
			for _, bits := range someBits(k) {
				rising, falling := 0, 0
				for _, b := range shadedBy(k, bits) {
					if b[0] == b[1] {
						rising++
					}
					if b[0] == k-b[1] {
						falling++
					}
				}
				checkMeshCount(t, up, meshBy(countUp(1, k), bits), gapsFilled(n-k, k, rising))
				checkMeshCount(t, down, meshBy(countDown(k, 1), bits), gapsFilled(n-k, k, falling))
				if k > 1 {
					checkMeshCount(t, up, meshBy(countDown(k, 1), bits), 0)
					checkMeshCount(t, down, meshBy(countUp(1, k), bits), 0)
				}
			}
		}
	}
}

// TestShadingLeavesFewerOccurrences is promise 9.
func TestShadingLeavesFewerOccurrences(t *testing.T) {
	for _, p := range append(permsUpTo(4), longPerms()...) {
		for _, perm := range permsUpTo(2) {
			counts := make([]int, allBits(len(perm))+1)
			for bits := range counts {
				counts[bits] = impl.CountMesh(p, meshBy(perm, bits))
				if counts[bits] < 0 || counts[bits] > impl.CountPattern(p, perm) {
					t.Errorf("%v with the bits %b shaded occurs %d times in %v", perm, bits, counts[bits], p)
				}
			}
			for bits, n := range counts {
				for i := range (len(perm) + 1) * (len(perm) + 1) {
					if bits>>i&1 == 1 && n > counts[bits^1<<i] {
						t.Errorf("%v with the bits %b shaded occurs %d times in %v, but %d times without %d", perm, bits, n, p, counts[bits^1<<i], i)
					}
				}
			}
		}
	}
}

// TestShadingLongPermsLeavesFewerOccurrences shades one box after the other.
func TestShadingLongPermsLeavesFewerOccurrences(t *testing.T) {
	for _, p := range append(impl.PermsOf(5), longPerms()...) {
		for _, perm := range digitLists("123", "231", "321", "1234", "2413", "3241", "4321") {
			last := impl.CountPattern(p, perm)
			bits := 0
			for i := range (len(perm) + 1) * (len(perm) + 1) {
				bits |= 1 << (i * 7 % ((len(perm) + 1) * (len(perm) + 1)))
				n := impl.CountMesh(p, meshBy(perm, bits))
				if n < 0 || n > last {
					t.Errorf("%v with %d boxes shaded occurs %d times in %v, but %d times with one less", perm, i+1, n, p, last)
				}
				last = n
			}
		}
	}
}

func TestMeshOf(t *testing.T) {
	cases := []struct {
		x    impl.Near
		want impl.Mesh
	}{
		{impl.Near{}, meshOf("")},
		{nearOf("1", ""), meshOf("1")},
		{nearOf("12", ""), meshOf("12")},
		{nearOf("12", "1"), meshOf("12", "10", "11", "12")},
		{nearOf("21", "1"), meshOf("21", "10", "11", "12")},
		{nearOf("132", ""), meshOf("132")},
		{nearOf("132", "1"), meshOf("132", "10", "11", "12", "13")},
		{nearOf("132", "2"), meshOf("132", "20", "21", "22", "23")},
		{nearOf("132", "12"), meshOf("132", "10", "11", "12", "13", "20", "21", "22", "23")},
		{nearOf("2413", ""), meshOf("2413")},
		{nearOf("2413", "2"), meshOf("2413", "20", "21", "22", "23", "24")},
		{nearOf("2413", "13"), meshOf("2413", "10", "11", "12", "13", "14", "30", "31", "32", "33", "34")},
		{nearOf("2413", "123"), meshOf("2413", "10", "11", "12", "13", "14", "20", "21", "22", "23", "24", "30", "31", "32", "33", "34")},
	}
	for _, c := range cases {
		got, ok := impl.MeshOf(c.x)
		checkMesh(t, got, ok, c.want, true, "MeshOf", c.x)
	}
	for _, x := range notNears() {
		got, ok := impl.MeshOf(x)
		checkMesh(t, got, ok, impl.Mesh{}, false, "MeshOf", x)
	}
	for _, x := range append(nearsWith(digits("24135")), append(nearsWith(countUp(1, 5)), longNears()...)...) {
		got, ok := impl.MeshOf(x)
		checkMesh(t, got, ok, impl.Mesh{}, false, "MeshOf", x)
	}
}

func TestMeshOfHasTheSameOccurrences(t *testing.T) {
	perms := append(permsUpTo(5), longPerms()...)
	for _, x := range nearsUpTo(4) {
		m, ok := impl.MeshOf(x)
		var boxes [][]int
		for _, b := range boxesFor(len(x.Perm)) {
			if slices.Contains(x.Joined, b[0]) {
				boxes = append(boxes, b)
			}
		}
		checkMesh(t, m, ok, impl.Mesh{Perm: x.Perm, Shaded: boxes}, true, "MeshOf", x)
		for _, p := range perms {
			checkMeshCount(t, p, m, impl.CountNear(p, x))
		}
	}
}

func TestInverseMesh(t *testing.T) {
	cases := []struct{ m, want impl.Mesh }{
		{impl.Mesh{}, impl.Mesh{}},
		{meshOf("", "00"), meshOf("", "00")},
		{meshOf("1"), meshOf("1")},
		{meshOf("1", "01"), meshOf("1", "10")},
		{meshOf("1", "00", "01"), meshOf("1", "00", "10")},
		{meshOf("12", "01"), meshOf("12", "10")},
		{meshOf("21", "02", "10"), meshOf("21", "01", "20")},
		{meshOf("21", "10", "11", "12"), meshOf("21", "01", "11", "21")},
		{meshOf("231"), meshOf("312")},
		{meshOf("231", "03", "12", "30"), meshOf("312", "03", "21", "30")},
		{meshOf("231", "02", "03", "10"), meshOf("312", "01", "20", "30")},
		{meshOf("2413", "04", "14", "31", "40", "44"), meshOf("3142", "04", "13", "40", "41", "44")},
		{meshOf("3241", "14"), meshOf("4213", "41")},
	}
	for _, c := range cases {
		got, ok := impl.InverseMesh(c.m)
		checkMesh(t, got, ok, c.want, true, "InverseMesh", c.m)
	}
	for _, m := range notMeshes() {
		got, ok := impl.InverseMesh(m)
		checkMesh(t, got, ok, impl.Mesh{}, false, "InverseMesh", m)
	}
}

func TestInverseMeshTwice(t *testing.T) {
	for _, m := range someMeshes() {
		want := impl.Mesh{Perm: imageOf(m.Perm, 1)}
		for _, b := range boxesFor(len(m.Perm)) {
			if slices.ContainsFunc(m.Shaded, func(c []int) bool { return c[0] == b[1] && c[1] == b[0] }) {
				want.Shaded = append(want.Shaded, b)
			}
		}
		inverse, ok := impl.InverseMesh(m)
		checkMesh(t, inverse, ok, want, true, "InverseMesh", m)
		again, ok := impl.InverseMesh(inverse)
		checkMesh(t, again, ok, m, true, "InverseMesh", inverse)
	}
}

func TestInverseMeshOccursInTheInverse(t *testing.T) {
	perms := append(digitLists("", "1", "12", "21", "132", "231", "2413", "3241", "24153", "35142", "415263"), longPerms()...)
	for _, m := range someMeshes() {
		inverse, _ := impl.InverseMesh(m)
		for _, p := range perms {
			checkMeshCount(t, imageOf(p, 1), inverse, impl.CountMesh(p, m))
		}
	}
}

// imageOfBox moves a box as imageOf moves the points.
func imageOfBox(b []int, n int, k int) []int {
	x, y := b[0], b[1]
	if k%2 == 1 {
		x, y = y, x
	}
	if k == 2 || k == 3 || k == 6 || k == 7 {
		x = n - x
	}
	if k >= 4 {
		y = n - y
	}
	return []int{x, y}
}

func TestSymmetriesKeepTheNumberOfMeshes(t *testing.T) {
	meshes := []impl.Mesh{meshOf("", "00"), meshOf("1", "00"), meshOf("1", "01", "10"), meshOf("12", "00", "12", "21"), meshOf("231", "03", "11", "20"), meshOf("3241", "14"), meshOf("2413", "00", "13", "22", "41")}
	for _, m := range meshes {
		for k := range 8 {
			image := impl.Mesh{Perm: imageOf(m.Perm, k)}
			for _, b := range m.Shaded {
				image.Shaded = append(image.Shaded, imageOfBox(b, len(m.Perm), k))
			}
			slices.SortFunc(image.Shaded, slices.Compare)
			for _, p := range append(permsUpTo(5)[34:], longPerms()...) {
				checkMeshCount(t, imageOf(p, k), image, impl.CountMesh(p, m))
			}
		}
	}
}

func TestCanShade(t *testing.T) {
	cases := []struct {
		m    impl.Mesh
		can  string
		cant string
	}{
		{impl.Mesh{}, "", "00"},
		{meshOf("", "00"), "", "00"},
		{meshOf("1"), "00 01 10 11", ""},
		{meshOf("1", "00"), "01 10", "00 11"},
		{meshOf("1", "11"), "01 10", "00 11"},
		{meshOf("1", "01"), "00 11", "01 10"},
		{meshOf("1", "10"), "00 11", "01 10"},
		{meshOf("1", "00", "01"), "", "00 01 10 11"},
		{meshOf("12"), "00 01 10 11 12 21 22", "02 20"},
		{meshOf("21"), "01 02 10 11 12 20 21", "00 22"},
		{meshOf("1", "00", "01", "10", "11"), "", "00 01 10 11"},
	}
	for _, c := range cases {
		for _, b := range digitLists(fields(c.can)...) {
			if !impl.CanShade(c.m, b[0], b[1]) {
				t.Errorf("CanShade(%v, %d, %d) is false", c.m, b[0], b[1])
			}
		}
		for _, b := range digitLists(fields(c.cant)...) {
			if impl.CanShade(c.m, b[0], b[1]) {
				t.Errorf("CanShade(%v, %d, %d) is true", c.m, b[0], b[1])
			}
		}
	}
}

func fields(text string) []string {
	if text == "" {
		return nil
	}
	return impl.SplitByte(text, ' ')
}

func TestCanShadeRejects(t *testing.T) {
	numbers := []int{math.MinInt, -1 << 32, -2, -1, 0, 1, 2, 3, 4, 5, 6, 1 << 32, 1<<32 + 1, math.MaxInt}
	for _, m := range notMeshes() {
		for _, x := range numbers {
			if impl.CanShade(m, x, 0) || impl.CanShade(m, 0, x) || impl.CanShade(m, x, x) {
				t.Errorf("CanShade(%v, %d, 0), its exchange or that of %d twice is true", m, x, x)
			}
		}
	}
	for _, m := range fewMeshes() {
		for _, x := range numbers {
			for _, y := range numbers {
				outside := min(x, y) < 0 || max(x, y) > len(m.Perm)
				if outside && impl.CanShade(m, x, y) {
					t.Errorf("CanShade(%v, %d, %d) is true", m, x, y)
				}
			}
		}
	}
	for _, m := range someMeshes() {
		for _, b := range m.Shaded {
			if impl.CanShade(m, b[0], b[1]) {
				t.Errorf("CanShade(%v, %d, %d) is true", m, b[0], b[1])
			}
		}
	}
}

// fullInAll returns fullBoxes of the perm for each permutation of the lengths 0 to 5 in which it occurs.
func fullInAll(perm []int) [][]int {
	var lists [][]int
	for _, p := range permsUpTo(5) {
		if full := fullBoxes(p, perm); len(full) > 0 {
			lists = append(lists, full)
		}
	}
	return lists
}

func checkCanShade(t *testing.T, lists [][]int, perm []int, bits int) {
	t.Helper()
	m := meshBy(perm, bits)
	for i, b := range boxesFor(len(perm)) {
		want := bits>>i&1 == 0
		for _, full := range lists {
			if (countFree(full, bits) > 0) != (countFree(full, bits|1<<i) > 0) {
				want = false
			}
		}
		if got := impl.CanShade(m, b[0], b[1]); got != want {
			t.Errorf("CanShade(%v, %d, %d) is %t", m, b[0], b[1], got)
		}
	}
}

func TestCanShadeByAll(t *testing.T) {
	for _, perm := range permsUpTo(2) {
		lists := fullInAll(perm)
		for _, bits := range someBits(len(perm)) {
			checkCanShade(t, lists, perm, bits)
		}
	}
	for _, perm := range digitLists("123", "132", "231", "321", "1234", "2413", "3241", "4321") {
		lists := fullInAll(perm)
		for _, bits := range someBits(len(perm)) {
			checkCanShade(t, lists, perm, bits)
		}
	}
}

// TestHowManyHaveNoMesh compares with numbers that are known.
func TestHowManyHaveNoMesh(t *testing.T) {
	cases := []struct {
		meshes []impl.Mesh
		want   []int
	}{
		{[]impl.Mesh{meshOf("")}, []int{0, 0, 0, 0}},
		{[]impl.Mesh{meshOf("", "00")}, []int{0, 1, 2, 6, 24}},
		{[]impl.Mesh{meshOf("1", "00"), meshOf("1", "00", "01"), meshOf("1", "10", "11")}, []int{1, 0, 0, 0, 0}},
		{[]impl.Mesh{meshOf("1", "01", "10"), meshOf("1", "00", "11")}, []int{1, 0, 1, 3, 14, 77, 497, 3676}},
		{[]impl.Mesh{meshOf("12", "01", "10", "11", "12", "21"), meshOf("21", "01", "10", "11", "12", "21")}, []int{1, 1, 1, 3, 11, 53, 309, 2119}},
		{[]impl.Mesh{meshOf("12", "11"), meshOf("12", "10", "11", "12"), meshOf("21", "01", "11", "21")}, []int{1, 1, 1, 1, 1, 1, 1}},
		{[]impl.Mesh{meshOf("132", "20", "21", "22", "23"), meshOf("132", "02", "12", "22", "32")}, []int{1, 1, 2, 5, 15, 52, 203, 877}},
		{[]impl.Mesh{meshOf("132", "10", "11", "12", "13"), meshOf("132", "01", "11", "21", "31")}, []int{1, 1, 2, 5, 14, 42, 132, 429}},
	}
	for _, c := range cases {
		for _, m := range c.meshes {
			for n, want := range c.want {
				if got := countWithout(allOfLength(n), m); got != want {
					t.Errorf("%v does not occur in %d permutations of length %d, not %d", m, got, n, want)
				}
			}
		}
	}
	// Those that two passes of a stack sort.
	for n, want := range []int{1, 1, 2, 6, 22, 91, 408, 1938} {
		if got := countWithout(allOfLength(n), meshOf("2341"), meshOf("3241", "14")); got != want {
			t.Errorf("2341 and 3241 without a greater number behind 3 do not occur in %d permutations of length %d, not %d", got, n, want)
		}
	}
}

func countWithout(perms [][]int, meshes ...impl.Mesh) int {
	n := 0
	for _, p := range perms {
		if !slices.ContainsFunc(meshes, func(m impl.Mesh) bool { return impl.CountMesh(p, m) > 0 }) {
			n++
		}
	}
	return n
}

// TestMeshesOfOneNumber counts the numbers that are less or greater than all before or behind: as many permutations have k of them as have k cycles.
func TestMeshesOfOneNumber(t *testing.T) {
	want := [][]int{{1}, {0, 1}, {0, 1, 1}, {0, 2, 3, 1}, {0, 6, 11, 6, 1}, {0, 24, 50, 35, 10, 1}, {0, 120, 274, 225, 85, 15, 1}}
	for _, m := range []impl.Mesh{meshOf("1", "00"), meshOf("1", "01"), meshOf("1", "10"), meshOf("1", "11")} {
		for n, row := range want {
			got := make([]int, n+1)
			for _, p := range impl.PermsOf(n) {
				got[impl.CountMesh(p, m)]++
			}
			checkList(t, got, row, "the row of", m, n)
		}
	}
}

func spoilMesh(m impl.Mesh) {
	spoil(m.Perm)
	spoilAll(m.Shaded)
}

func TestMeshesLeaveTheirArguments(t *testing.T) {
	meshes := append(notMeshes(), fewMeshes()...)
	meshes = append(meshes, meshOf("1", "00", "11"), meshOf("21", "02", "10"), meshOf("3241", "14", "41"))
	for _, m := range meshes {
		perm := guard(m.Perm)
		var boxes []guarded
		var whole [][]int
		for _, b := range m.Shaded {
			boxes = append(boxes, guard(b))
			whole = append(whole, boxes[len(boxes)-1].list)
		}
		// One more box in the unused capacity.
		whole = append(whole, []int{4, 4})
		mesh := impl.Mesh{Perm: perm.list, Shaded: whole[:len(whole)-1]}
		for _, list := range [][]int{nil, {1}, {2}, digits("2413"), digits("35241"), perm.list} {
			p := guard(list)
			impl.CountMesh(p.list, mesh)
			p.check(t, "CountMesh")
		}
		impl.CountMesh(perm.list, mesh)
		impl.IsMesh(mesh)
		for x := -1; x <= 5; x++ {
			impl.CanShade(mesh, x, 0)
			impl.CanShade(mesh, 2, x)
		}
		inverse, _ := impl.InverseMesh(mesh)
		spoilMesh(inverse)
		perm.check(t, "a function of chapter 9")
		for i, b := range boxes {
			b.check(t, "a function of chapter 9")
			checkList(t, whole[i], b.list, "a box after a function of chapter 9", i)
		}
		checkList(t, whole[len(whole)-1], []int{4, 4}, "what is behind the boxes after a function of chapter 9")
	}
}

func TestMeshOfLeavesItsArgument(t *testing.T) {
	for _, x := range append(notNears(), append(nearsUpTo(3), nearOf("2413", "13"), nearOf("38165274", "1234567"))...) {
		perm, joined := guard(x.Perm), guard(x.Joined)
		m, _ := impl.MeshOf(impl.Near{Perm: perm.list, Joined: joined.list})
		spoilMesh(m)
		perm.check(t, "MeshOf")
		joined.check(t, "MeshOf")
	}
}

func TestMeshesAreNewMemory(t *testing.T) {
	lists := func(m impl.Mesh, _ bool) [][]int { return append([][]int{m.Perm}, m.Shaded...) }
	for _, x := range nearsUpTo(4) {
		checkNewMemory(t, "MeshOf", func() [][]int { return lists(impl.MeshOf(x)) })
	}
	for _, m := range someMeshes() {
		checkNewMemory(t, "InverseMesh", func() [][]int { return lists(impl.InverseMesh(m)) })
	}
}
