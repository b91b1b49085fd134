package tests

import (
	"slices"
	"testing"
	"unsafe"
)

// guarded lays a list in a greater array, so that a write into the list, ahead of it or into the spare room behind it shows.
type guarded struct {
	name        string
	array, want []int
	list        []int
}

const (
	guardBefore = -77001
	guardSpare  = -77002
)

func guard(name string, list []int) *guarded {
	array := append([]int{guardBefore, guardBefore}, list...)
	array = append(array, guardSpare, guardSpare, guardSpare, guardSpare)
	return &guarded{name: name, array: array, want: slices.Clone(array), list: array[2 : 2+len(list)]}
}

func (g *guarded) unchanged(t *testing.T, call string) {
	t.Helper()
	if !slices.Equal(g.array, g.want) {
		t.Fatalf("%s wrote into %s: %v became %v", call, g.name, g.want, g.array)
	}
}

// ownMemory writes into an answer and the room behind it, and then into the arguments, and looks whether one shows in the other.
func ownMemory(t *testing.T, call string, answer []int, args ...*guarded) {
	t.Helper()
	whole := answer[:cap(answer)]
	for i := range whole {
		whole[i] = 987654 + i
	}
	for _, a := range args {
		a.unchanged(t, call+", then a write into its answer,")
	}
	kept := slices.Clone(whole)
	for _, a := range args {
		for i := range a.array {
			a.array[i] = -5
		}
	}
	if !slices.Equal(whole, kept) {
		t.Fatalf("%s: its answer shares memory with an argument", call)
	}
}

// within tells whether the bytes of part lie in those of s.
func within(part, s string) bool {
	if part == "" || s == "" {
		return false
	}
	p := uintptr(unsafe.Pointer(unsafe.StringData(part)))
	from := uintptr(unsafe.Pointer(unsafe.StringData(s)))
	return p >= from && p < from+uintptr(len(s))
}
