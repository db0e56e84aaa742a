package tests

import (
	"slices"
	"testing"
)

// spareNumber fills the unused capacity of a guarded list.
const spareNumber = -4711

// guarded is a list with unused capacity, of which a test can tell whether a function changed it.
type guarded struct {
	list  []int
	whole []int
}

func guard(list []int) guarded {
	whole := slices.Clone(list)
	for range 4 {
		whole = append(whole, spareNumber)
	}
	return guarded{whole[:len(list)], slices.Clone(whole)}
}

func (g guarded) check(t *testing.T, name string) {
	t.Helper()
	if got := g.list[:len(g.whole)]; !slices.Equal(got, g.whole) {
		t.Errorf("%s changed its argument %v to %v", name, g.whole, got)
	}
}

// guardedLists are guarded lists in a list that has one more of them in its unused capacity.
type guardedLists struct {
	lists    [][]int
	elements []guarded
}

func guardLists(lists [][]int) guardedLists {
	g := guardedLists{}
	for _, list := range append(slices.Clone(lists), []int{spareNumber}) {
		element := guard(list)
		g.elements = append(g.elements, element)
		g.lists = append(g.lists, element.list)
	}
	g.lists = g.lists[:len(lists)]
	return g
}

func (g guardedLists) check(t *testing.T, name string) {
	t.Helper()
	for i, list := range g.lists[:len(g.elements)] {
		g.elements[i].check(t, name)
		checkList(t, list, g.elements[i].list, "an element of the argument of "+name, i)
	}
}

// checkList compares lists; nil and empty ones are the same.
func checkList(t *testing.T, got []int, want []int, name string, args ...any) {
	t.Helper()
	if !slices.Equal(got, want) {
		t.Errorf("%s%v is %v, not %v", name, args, got, want)
	}
}

func checkListOK(t *testing.T, got []int, gotOK bool, want []int, wantOK bool, name string, args ...any) {
	t.Helper()
	if gotOK != wantOK || !slices.Equal(got, want) {
		t.Errorf("%s%v is %v, %t, not %v, %t", name, args, got, gotOK, want, wantOK)
	}
}

// spoil changes a result and its unused capacity, so that a later result shows whether it shares this memory.
func spoil(list []int) {
	list = list[:cap(list)]
	for i := range list {
		list[i] = spareNumber
	}
}

// listsUpTo returns all lists of at most n numbers from low to high.
func listsUpTo(n int, low int, high int) [][]int {
	all := [][]int{{}}
	last := all
	for range n {
		var next [][]int
		for _, list := range last {
			for v := low; v <= high; v++ {
				next = append(next, append(slices.Clone(list), v))
			}
		}
		all = append(all, next...)
		last = next
	}
	return all
}
