package tests

import (
	"slices"
	"testing"
	"unsafe"

	"loop.example/g00485/impl"
)

// guarded lays a list in a greater array, so that a write into the list, ahead of it or into the spare room behind it shows.
type guarded struct {
	name        string
	array, want []int
	list        []int
}

const (
	guardBefore = -77001
	guardSpare  = -77002
)

func guard(name string, list []int) *guarded {
	array := append([]int{guardBefore, guardBefore}, list...)
	array = append(array, guardSpare, guardSpare, guardSpare, guardSpare)
	return &guarded{name: name, array: array, want: slices.Clone(array), list: array[2 : 2+len(list)]}
}

func (g *guarded) unchanged(t *testing.T, call string) {
	t.Helper()
	if !slices.Equal(g.array, g.want) {
		t.Fatalf("%s wrote into %s: %v became %v", call, g.name, g.want, g.array)
	}
}

// ownMemory writes into an answer and the room behind it, and then into the arguments, and looks whether one shows in the other.
func ownMemory(t *testing.T, call string, answer []int, args ...*guarded) {
	t.Helper()
	whole := answer[:cap(answer)]
	for i := range whole {
		whole[i] = 987654 + i
	}
	for _, a := range args {
		a.unchanged(t, call+", then a write into its answer,")
	}
	kept := slices.Clone(whole)
	for _, a := range args {
		for i := range a.array {
			a.array[i] = -5
		}
	}
	if !slices.Equal(whole, kept) {
		t.Fatalf("%s: its answer shares memory with an argument", call)
	}
}

// within tells whether the bytes of part lie in those of s.
func within(part, s string) bool {
	if part == "" || s == "" {
		return false
	}
	p := uintptr(unsafe.Pointer(unsafe.StringData(part)))
	from := uintptr(unsafe.Pointer(unsafe.StringData(s)))
	return p >= from && p < from+uintptr(len(s))
}

// guardedGram is a grammar whose lists all have spare room behind them, so that a write into any of them shows.
type guardedGram struct {
	gram  impl.Gram
	parts [][][]int    // with the room behind them
	alts  [][][]int    // of each part, with the room behind them
	rows  [][]*guarded // of each part
	want  impl.Gram
}

func guardGram(g impl.Gram) *guardedGram {
	out := &guardedGram{want: copyOfGram(g)}
	for _, alts := range g.Parts {
		var room [][]int
		var rows []*guarded
		for _, row := range alts {
			kept := guard("a row of a grammar", row)
			rows = append(rows, kept)
			room = append(room, kept.list)
		}
		room = append(room, []int{guardSpare}, []int{guardSpare})
		out.rows = append(out.rows, rows)
		out.alts = append(out.alts, room)
		out.parts = append(out.parts, room[:len(alts)])
	}
	out.parts = append(out.parts, [][]int{{guardSpare}}, [][]int{{guardSpare}})
	out.gram = impl.Gram{Parts: out.parts[:len(g.Parts)]}
	return out
}

func copyOfGram(g impl.Gram) impl.Gram {
	var out impl.Gram
	for _, alts := range g.Parts {
		var rows [][]int
		for _, row := range alts {
			rows = append(rows, slices.Clone(row))
		}
		out.Parts = append(out.Parts, rows)
	}
	return out
}

func (g *guardedGram) unchanged(t *testing.T, call string) {
	t.Helper()
	spare := []int{guardSpare}
	same := sameGram(g.gram, g.want) && sameGram(impl.Gram{Parts: g.parts[len(g.want.Parts):]}, gramOf([][]int{spare}, [][]int{spare}))
	for k, alts := range g.alts {
		same = same && slices.EqualFunc(alts[len(g.want.Parts[k]):], [][]int{spare, spare}, slices.Equal[[]int])
		for _, row := range g.rows[k] {
			row.unchanged(t, call)
		}
	}
	if !same {
		t.Fatalf("%s wrote into a grammar: %v became %v", call, g.want, g.gram)
	}
}

// lists are the arrays of numbers that lie behind the grammar.
func (g *guardedGram) lists() []*guarded { return slices.Concat(g.rows...) }
