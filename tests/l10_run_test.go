package tests

import (
	"fmt"
	"math"
	"math/rand"
	"slices"
	"strings"
	"testing"

	"loop.example/g00485/impl"
)

// The functions as the document writes them down.
var (
	_ func() impl.Run                                = impl.RunNew
	_ func(impl.Gram, []int, impl.Run) impl.Run      = impl.RunStep
	_ func(impl.Gram, []int, impl.Run, int) impl.Run = impl.RunSome
	_ func(impl.Gram, []int) impl.Run                = impl.RunAll
	_ func(impl.Run, impl.Run) bool                  = impl.RunSame
)

func TestConstantsOfRuns(t *testing.T) {
	if impl.RnGo != 0 || impl.RnDone != 1 || impl.RnMuch != 2 || impl.MaxCost != 600 {
		t.Error(impl.RnGo, impl.RnDone, impl.RnMuch, impl.MaxCost)
	}
	if impl.ErrExtra != 0 || impl.ErrMissing != 1 || impl.ErrWrong != 2 {
		t.Error(impl.ErrExtra, impl.ErrMissing, impl.ErrWrong)
	}
}

func copyOfRun(r impl.Run) impl.Run {
	r.Slots, r.Errs, r.Tree = slices.Clone(r.Slots), slices.Clone(r.Errs), copyOfTree(r.Tree)
	return r
}

func sameRun(a, b impl.Run) bool {
	numbers := [4]int{a.Code, a.At, a.Look, a.Cost}
	return numbers == [4]int{b.Code, b.At, b.Look, b.Cost} && slices.Equal(a.Slots, b.Slots) && slices.Equal(a.Errs, b.Errs) && sameTree(a.Tree, b.Tree)
}

// slotsOf has a Slot for each symbol of a row, the next one last, all with one Up.
func slotsOf(up int, row ...int) []impl.Slot {
	var out []impl.Slot
	for _, s := range slices.Backward(row) {
		out = append(out, impl.Slot{Sym: s, Up: up})
	}
	return out
}

// errsText tells what was wrong: what is extra by +, what is missing by -, and a wrong part by !.
func errsText(errs []impl.Err) string {
	var out []string
	for _, e := range errs {
		name := impl.RowText([]int{e.Sym + []int{0, 0, 100}[e.Kind]})
		out = append(out, fmt.Sprintf("%s%s@%d", "+-!"[e.Kind:e.Kind+1], name, e.At))
	}
	return strings.Join(out, " ")
}

// A stepper does what the document says, of a grammar of which it is known whether it is checked.
type stepper struct {
	g       impl.Gram
	checked bool
	empties []int
}

func stepperOf(g impl.Gram) stepper {
	s := stepper{g: g, checked: reasonsPlainly(g)[0] == 0}
	if s.checked {
		s.empties = emptiesPlainly(g)
	}
	return s
}

func (s stepper) canStep(w []int, r impl.Run) bool {
	if !s.checked || !inputOkPlainly(w) || r.At < 0 || r.At > len(w) || r.Cost < 0 || r.Cost > 599 || len(r.Slots) > 200 {
		return false
	}
	for _, slot := range r.Slots {
		if slot.Sym < 0 || slot.Sym > 25 && slot.Sym < 100 || slot.Sym > 99+len(s.g.Parts) {
			return false
		}
		if slot.Up < -1 || slot.Up >= len(r.Tree.Nodes) || slot.Up >= 0 && r.Tree.Nodes[slot.Up].Kind != 1 {
			return false
		}
	}
	return true
}

// event names what a step comes to, and the alternative of a part.
func (s stepper) event(w []int, r impl.Run) (string, int) {
	if r.Code != 0 {
		return "rest", 0
	}
	if !s.canStep(w, r) {
		return "refused", 0
	}
	var row []int
	for _, slot := range slices.Backward(r.Slots) {
		row = append(row, slot.Sym)
	}
	left := w[r.At:]
	switch {
	case len(row) == 0 && len(left) == 0:
		return "done", 0
	case len(row) == 0:
		return "extra", 0
	case row[0] >= 100:
		return s.eventOfPart(row, w, r)
	case len(left) > 0 && left[0] == row[0]:
		return "leaf", 0
	case len(left) > 1 && left[1] == row[0]:
		return "extra", 0
	case len(left) == 0 || slices.Contains(firstPlainly(s.g, row[1:], s.empties), left[0]):
		return "missing", 0
	}
	return "extra", 0
}

func (s stepper) eventOfPart(row, w []int, r impl.Run) (string, int) {
	k, rest := row[0]-100, row[1:]
	c := choicePlainly(s.g, s.checked, k, rest, w, r.At)
	switch {
	case c.alt == -1:
		return "much", 0
	case r.Look < c.look:
		return "look", 0
	case farPlainly(s.g, s.checked, slices.Concat(s.g.Parts[k][c.alt], rest), w, r.At) > 0:
		return "part", c.alt
	case r.At < len(w):
		return "part that waits", 0
	}
	return "wrong", 0
}

// step tells how a Run stands behind an event.
func (s stepper) step(w []int, r impl.Run) (impl.Run, string) {
	event, alt := s.event(w, r)
	out := copyOfRun(r)
	if event == "rest" {
		return out, event
	}
	if event == "refused" {
		out.Code = 2
		return out, event
	}
	out.Cost++
	err := impl.Err{At: r.At}
	switch event {
	case "done":
		out.Code = 1
	case "much":
		out.Code = 2
	case "look":
		out.Look++
	case "part that waits":
		out.Look = 0
		fallthrough
	case "extra":
		err.Sym = w[r.At]
		out.Errs = append(out.Errs, err)
		out.At++
	default:
		s.make(event, alt, w, &out)
	}
	return out, event
}

// make puts a node in the place of the next Slot.
func (s stepper) make(event string, alt int, w []int, r *impl.Run) {
	place, slot := len(r.Tree.Nodes), r.Slots[len(r.Slots)-1]
	r.Slots = r.Slots[:len(r.Slots)-1]
	if slot.Up >= 0 {
		owner := &r.Tree.Nodes[slot.Up]
		owner.Kids = append(owner.Kids, place)
	}
	var node impl.Node
	switch event {
	case "leaf":
		node = impl.Node{Kind: 0, Sym: slot.Sym, At: r.At}
		r.At++
	case "missing":
		node = impl.Node{Kind: 2, Sym: slot.Sym}
		r.Errs = append(r.Errs, impl.Err{Kind: 1, At: r.At, Sym: slot.Sym})
	case "wrong":
		node = impl.Node{Kind: 3, Sym: slot.Sym - 100}
		r.Errs = append(r.Errs, impl.Err{Kind: 2, At: r.At, Sym: slot.Sym - 100})
		r.Look = 0
	case "part":
		node = impl.Node{Kind: 1, Sym: slot.Sym - 100, Alt: alt}
		r.Slots = append(r.Slots, slotsOf(place, s.g.Parts[slot.Sym-100][alt]...)...)
		r.Look = 0
	}
	r.Tree.Nodes = append(r.Tree.Nodes, node)
}

// asStep holds RunStep against what the document says, and tells the Run and the event.
func (s stepper) asStep(t *testing.T, w []int, r impl.Run) (impl.Run, string) {
	t.Helper()
	got := impl.RunStep(s.g, w, r)
	want, event := s.step(w, r)
	if !sameRun(got, want) {
		t.Fatalf("RunStep(%v, %v, %+v) is\n%+v, want, by %q,\n%+v", s.g, w, r, got, event, want)
	}
	return got, event
}

// asRun holds each step of a Run, and RunAll, against what the document says.
func (s stepper) asRun(t *testing.T, w []int, met map[string]int) impl.Run {
	t.Helper()
	r := impl.RunNew()
	for range 601 {
		var event string
		r, event = s.asStep(t, w, r)
		met[event]++
	}
	if all := impl.RunAll(s.g, w); !sameRun(all, r) {
		t.Fatalf("RunAll(%v, %v) is\n%+v, but its steps come to\n%+v", s.g, w, all, r)
	}
	return r
}

// only wants that a step comes to an event, as the document says it.
func (s stepper) only(t *testing.T, want string, w []int, r impl.Run) impl.Run {
	t.Helper()
	got, event := s.asStep(t, w, r)
	if event != want {
		t.Fatalf("RunStep(%v, %v, %+v) came to %q, want %q: %+v", s.g, w, r, event, want, got)
	}
	return got
}

// begun is a Run with a part that has a letter as its Kid, and with such symbols to come there.
func begun(at int, row ...int) impl.Run {
	return impl.Run{At: at, Cost: 5, Slots: slotsOf(0, row...), Tree: treeOf(partNode(1), leafNode(7, 0)), Errs: []impl.Err{{Kind: 1, At: 2, Sym: 3}}}
}

func TestRunNew(t *testing.T) {
	r := impl.RunNew()
	if !sameRun(r, impl.Run{Slots: []impl.Slot{{Sym: 100, Up: -1}}}) {
		t.Errorf("RunNew() = %+v", r)
	}
	again := impl.RunNew()
	r.Slots[0] = impl.Slot{Sym: 3, Up: 4}
	if again.Slots[0] != (impl.Slot{Sym: 100, Up: -1}) || impl.RunNew().Slots[0] != again.Slots[0] {
		t.Error("two of RunNew share memory", again, impl.RunNew())
	}
}

// noCodes are numbers that are no code of a Run that goes on.
func noCodes() []int {
	return []int{1, 2, 3, -1, -2, 4, 100, 256, 1 << 32, -1 << 32, math.MaxInt, math.MinInt}
}

func TestRunStepOfARunThatDoesNotGo(t *testing.T) {
	g := gramFrom(t, "S = a S b | ;")
	list := []impl.Run{impl.RunNew(), {}, begun(0, 0), begun(1, 100, 1), begun(-1, 26), begun(9, 0)}
	list = append(list, impl.Run{At: -4, Look: -3, Cost: -7, Slots: slotsOf(-2, 26), Tree: treeOf(impl.Node{Kind: 9, Kids: []int{4}}), Errs: []impl.Err{{Kind: -1}}})
	for _, code := range noCodes() {
		for _, r := range list {
			r.Code = code
			for _, g := range []impl.Gram{g, {}, gramOf(altsOf([]int{100}))} {
				for _, w := range [][]int{nil, {0, 1}, {26}, make([]int, 11)} {
					stepperOf(g).only(t, "rest", w, r)
					for _, n := range []int{-1, 0, 1, 2, 700, math.MaxInt, math.MinInt} {
						if got := impl.RunSome(g, w, r, n); !sameRun(got, r) {
							t.Fatalf("RunSome(%v, %v, %+v, %d) = %+v", g, w, r, n, got)
						}
					}
				}
			}
		}
	}
}

func TestRunsOfGrammarsThatAreRefused(t *testing.T) {
	for _, x := range refusedGrams(t) {
		if code := impl.Check(x.g); code != x.code {
			t.Errorf("Check(%v) = %d, want %d", x.g, code, x.code)
		}
		s := stepperOf(x.g)
		for _, w := range [][]int{nil, {0}, {1}, {0, 0}, {26}} {
			for _, r := range []impl.Run{impl.RunNew(), {}, {At: len(w)}, begun(0, 0), begun(0, 100), begun(0, 101), begun(-1, 0)} {
				if got := s.only(t, "refused", w, r); got.Code != 2 || got.Cost != r.Cost {
					t.Errorf("RunStep(%v, %v, %+v) = %+v", x.g, w, r, got)
				}
			}
			want := impl.RunNew()
			want.Code = 2
			if all := impl.RunAll(x.g, w); !sameRun(all, want) {
				t.Errorf("RunAll(%v, %v) = %+v", x.g, w, all)
			}
		}
	}
}

func TestRunsOfInputsThatAreNotOk(t *testing.T) {
	for _, text := range []string{"S = a S | z S | ;", "S = ;", "S = a ;"} {
		s := stepperOf(gramFrom(t, text))
		for _, w := range badInputs() {
			for _, r := range []impl.Run{impl.RunNew(), {}, {At: len(w)}, begun(0, 0), begun(0, 100), begun(1, w[0])} {
				s.only(t, "refused", w, r)
			}
			want := impl.RunNew()
			want.Code = 2
			if all := impl.RunAll(s.g, w); !sameRun(all, want) {
				t.Errorf("RunAll(%v, %v) = %+v", s.g, w, all)
			}
		}
		for n := range 11 {
			s.only(t, "extra", slices.Repeat([]int{25}, n+1)[:max(n, 1)], impl.Run{})
		}
	}
}

func TestRunStepOfPlaces(t *testing.T) {
	for _, text := range []string{"S = a S b | ;", "S = a ;", "S = T T ; T = a | b | ;"} {
		s := stepperOf(gramFrom(t, text))
		for n := range 11 {
			w := slices.Repeat([]int{0, 1}, 5)[:n]
			for _, slots := range [][]impl.Slot{nil, slotsOf(-1, 0), slotsOf(-1, 100), slotsOf(-1, 1, 100)} {
				for _, at := range noPlaces(n) {
					s.only(t, "refused", w, impl.Run{At: at, Slots: slots})
				}
				for at := range n + 1 {
					if got, event := s.asStep(t, w, impl.Run{At: at, Slots: slots}); event == "refused" || got.Cost != 1 {
						t.Fatalf("RunStep at %d of %v: %+v", at, w, got)
					}
				}
				event := "done"
				if slots != nil && slots[len(slots)-1].Sym < 100 {
					event = "missing"
				}
				if slots == nil || event == "missing" {
					s.only(t, event, w, impl.Run{At: n, Slots: slots})
				}
			}
		}
	}
}

func TestRunStepOfCosts(t *testing.T) {
	s := stepperOf(gramFrom(t, "S = a S b | ;"))
	w := []int{0, 1, 2}
	for _, slots := range [][]impl.Slot{nil, slotsOf(-1, 0), slotsOf(-1, 1), slotsOf(-1, 100)} {
		for at := range 4 {
			for _, cost := range []int{-1, -2, -600, 600, 601, 1000, 1 << 32, -1 << 32, 1<<32 + 1, math.MaxInt, math.MinInt} {
				if got := s.only(t, "refused", w, impl.Run{At: at, Cost: cost, Slots: slots}); got.Cost != cost {
					t.Error("Cost", cost, "became", got.Cost)
				}
			}
			for _, cost := range []int{0, 1, 2, 299, 598, 599} {
				if got, event := s.asStep(t, w, impl.Run{At: at, Cost: cost, Slots: slots}); event == "refused" || got.Cost != cost+1 {
					t.Errorf("Cost %d became %d by %q", cost, got.Cost, event)
				}
			}
		}
	}
	last := impl.RunStep(s.g, w, impl.Run{Cost: 599, Slots: slotsOf(-1, 0)})
	if last.Code != impl.RnGo || last.Cost != 600 || len(last.Tree.Nodes) != 1 {
		t.Errorf("the last step that may be done: %+v", last)
	}
	s.only(t, "refused", w, last)
	if last := impl.RunStep(s.g, nil, impl.Run{Cost: 599}); last.Code != impl.RnDone || last.Cost != 600 {
		t.Errorf("done by the last step that may be done: %+v", last)
	}
}

func TestRunStepOfManySlots(t *testing.T) {
	s := stepperOf(gramFrom(t, "S = a S | T b | ; T = c ;"))
	for _, n := range longRows() {
		for _, next := range []int{0, 1, 2, 100, 101} {
			for _, w := range [][]int{nil, {0}, {2, 1}} {
				slots := slotsOf(-1, append([]int{next}, slices.Repeat([]int{1}, max(n-1, 0))...)...)[max(1-n, 0):]
				r := impl.Run{Slots: slots}
				if _, event := s.asStep(t, w, r); (event == "refused") != (n > 200) {
					t.Errorf("%d Slots: %q", n, event)
				}
			}
		}
	}
	// Of a part the rest counts, and each of its alternatives.
	for _, x := range []struct {
		s    string
		n    int
		want string
	}{
		{"S = a b ;", 199, "part"}, {"S = a b ;", 200, "much"},
		{"S = a ;", 200, "part"}, {"S = ;", 200, "wrong"},
		{"S = a b c d e f g h ;", 193, "part"}, {"S = a b c d e f g h ;", 194, "much"},
		{"S = a | a a ;", 199, "look"}, {"S = a | a a ;", 200, "much"},
	} {
		s, w := stepperOf(gramFrom(t, x.s)), []int{0}
		if x.want == "wrong" {
			w = nil
		}
		r := impl.Run{Slots: slotsOf(-1, append([]int{100}, make([]int, x.n-1)...)...)}
		got := s.only(t, x.want, w, r)
		if r.Look = 3; x.want != "look" {
			s.only(t, x.want, w, r)
		}
		if got.Cost != 1 || (got.Code == impl.RnMuch) != (x.want == "much") || x.want == "much" && len(got.Slots) != x.n {
			t.Errorf("%q with %d Slots: %+v", x.s, x.n, got)
		}
	}
}

func TestRunStepOfWhatIsNoSymbol(t *testing.T) {
	for _, text := range []string{"S = a ;", "S = T b | ; T = a | ;", "S = T ; T = U ; U = a U | ;"} {
		s := stepperOf(gramFrom(t, text))
		w := []int{0, 1}
		for _, row := range [][]int{{0}, {0, 100}, {100, 0}, {1, 100, 0, 1}, {25, 25, 25, 25, 100}} {
			for at := range row {
				for _, sym := range append(noSymbols(len(s.g.Parts)), -1, 26, 99, 100+len(s.g.Parts)) {
					other := slices.Clone(row)
					other[at] = sym
					s.only(t, "refused", w, begun(0, other...))
				}
				for _, sym := range []int{0, 25, 100, 99 + len(s.g.Parts)} {
					other := slices.Clone(row)
					other[at] = sym
					if _, event := s.asStep(t, w, begun(0, other...)); event == "refused" {
						t.Errorf("RunStep of %v is refused", other)
					}
				}
			}
		}
	}
}

func TestRunStepOfUps(t *testing.T) {
	s := stepperOf(gramFrom(t, "S = a S b | ;"))
	w := []int{0, 1}
	tree := treeOf(partNode(1, 2, 3, 4), leafNode(0, 0), impl.Node{Kind: 2}, impl.Node{Kind: 3}, partNode())
	for n := range 4 {
		for at := range n + 1 {
			r := impl.Run{Slots: slotsOf(4, append([]int{0}, slices.Repeat([]int{100}, n)...)...), Tree: tree}
			for _, up := range append(noPlaces(4), -2, 5, 6, 1, 2, 3) {
				if up == -1 {
					continue
				}
				r.Slots[at].Up = up
				s.only(t, "refused", w, r)
			}
			for _, up := range []int{-1, 0, 4} {
				r.Slots[at].Up = up
				s.only(t, "leaf", w, r)
			}
		}
	}
	for _, kind := range noKinds() {
		odd := copyOfTree(tree)
		odd.Nodes[4].Kind = kind
		s.only(t, "refused", w, impl.Run{Slots: slotsOf(4, 0), Tree: odd})
		s.only(t, "refused", w, impl.Run{Slots: slotsOf(4, 100), Tree: odd})
		s.only(t, "leaf", w, impl.Run{Slots: slotsOf(0, 0), Tree: odd})
	}
	s.only(t, "leaf", w, impl.Run{Slots: slotsOf(-1, 0)})
	s.only(t, "refused", w, impl.Run{Slots: slotsOf(0, 0)})
	// Nothing else is asked of the tree.
	for _, odd := range []impl.Tree{treeOf(partNode(0, 0, 9, -4)), treeOf(partNode(), partNode(), leafNode(99, -5)), treeOf(impl.Node{Kind: 1, Sym: -3, Alt: 80, At: 7, Kids: []int{3}}, impl.Node{Kind: 8, Kids: []int{1}})} {
		s.only(t, "leaf", w, impl.Run{Slots: slotsOf(0, 0), Tree: odd})
		s.only(t, "look", w, impl.Run{Slots: slotsOf(0, 100), Tree: odd})
		s.only(t, "part", w, impl.Run{Look: 1, Slots: slotsOf(0, 100), Tree: odd})
	}
}

// A change is what a step changes in a Run that is begun.
type change struct {
	name  string
	s     string
	w     string
	at    int
	look  int
	row   []int
	event string
	node  *impl.Node
	err   *impl.Err
	then  []int // what is to come then
	place int
	seen  int // Look then
}

func changesOfLetters() []change {
	leaf := func(sym, at int) *impl.Node { return &impl.Node{Kind: 0, Sym: sym, At: at} }
	gone := func(sym int) *impl.Node { return &impl.Node{Kind: 2, Sym: sym} }
	err := func(kind, at, sym int) *impl.Err { return &impl.Err{Kind: kind, At: at, Sym: sym} }
	const s = "S = a S b | c ;"
	return []change{
		{"no Slot, a letter left", s, "abc", 1, 0, nil, "extra", nil, err(0, 1, 1), nil, 2, 0},
		{"no Slot, the last letter left", s, "abc", 2, 3, nil, "extra", nil, err(0, 2, 2), nil, 3, 3},
		{"no Slot, none left", s, "abc", 3, 2, nil, "done", nil, nil, nil, 3, 2},
		{"no Slot, an empty input", s, "", 0, 0, nil, "done", nil, nil, nil, 0, 0},
		{"there", s, "abc", 1, 0, []int{1}, "leaf", leaf(1, 1), nil, nil, 2, 0},
		{"there, with a Look", s, "abc", 0, 4, []int{0, 1}, "leaf", leaf(0, 0), nil, []int{1}, 1, 4},
		{"there, and behind that, too", s, "aab", 0, 0, []int{0, 0}, "leaf", leaf(0, 0), nil, []int{0}, 1, 0},
		{"there, and what is to come begins with it", s, "abc", 0, 0, []int{0, 100}, "leaf", leaf(0, 0), nil, []int{100}, 1, 0},
		{"there, the last one", s, "abc", 2, 0, []int{2, 2}, "leaf", leaf(2, 2), nil, []int{2}, 3, 0},
		{"behind", s, "abc", 0, 0, []int{1, 2}, "extra", nil, err(0, 0, 0), []int{1, 2}, 1, 0},
		{"behind, the last one", s, "abc", 1, 6, []int{2}, "extra", nil, err(0, 1, 1), []int{2}, 2, 6},
		{"behind, and the one that is there may come", s, "ab", 0, 0, []int{1, 0}, "extra", nil, err(0, 0, 0), []int{1, 0}, 1, 0},
		{"behind, and the one that is there may come of a part", s, "ab", 0, 0, []int{1, 100}, "extra", nil, err(0, 0, 0), []int{1, 100}, 1, 0},
		{"two behind", s, "abc", 0, 0, []int{2}, "extra", nil, err(0, 0, 0), []int{2}, 1, 0},
		{"two behind, but the one that is there may come", s, "abc", 0, 0, []int{2, 0}, "missing", gone(2), err(1, 0, 2), []int{0}, 0, 0},
		{"ahead", s, "abc", 1, 0, []int{0}, "extra", nil, err(0, 1, 1), []int{0}, 2, 0},
		{"not there, the next one is", s, "abc", 1, 0, []int{3, 1}, "missing", gone(3), err(1, 1, 3), []int{1}, 1, 0},
		{"not there, the next one is, with a Look", s, "abc", 2, 1, []int{3, 2}, "missing", gone(3), err(1, 2, 3), []int{2}, 2, 1},
		{"not there, the one behind the next one is", s, "abc", 0, 0, []int{3, 4, 0}, "extra", nil, err(0, 0, 0), []int{3, 4, 0}, 1, 0},
		{"not there, a part begins with it", s, "abc", 0, 0, []int{3, 100}, "missing", gone(3), err(1, 0, 3), []int{100}, 0, 0},
		{"not there, a part begins with it by another alternative", s, "c", 0, 0, []int{3, 100}, "missing", gone(3), err(1, 0, 3), []int{100}, 0, 0},
		{"not there, no part begins with it", s, "bc", 0, 0, []int{3, 100}, "extra", nil, err(0, 0, 1), []int{3, 100}, 1, 0},
		{"not there, behind what can be nothing", "S = a? b? c ;", "c", 0, 0, []int{3, 101, 102, 2}, "missing", gone(3), err(1, 0, 3), []int{101, 102, 2}, 0, 0},
		{"not there, behind what can't be nothing", "S = a? b+ c ;", "c", 0, 0, []int{3, 101, 102, 2}, "extra", nil, err(0, 0, 2), []int{3, 101, 102, 2}, 1, 0},
		{"not there at the end", s, "abc", 3, 0, []int{1, 2}, "missing", gone(1), err(1, 3, 1), []int{2}, 3, 0},
		{"not there at the end, alone", s, "abc", 3, 2, []int{25}, "missing", gone(25), err(1, 3, 25), nil, 3, 2},
		{"not there, an empty input", s, "", 0, 0, []int{0, 100}, "missing", gone(0), err(1, 0, 0), []int{100}, 0, 0},
		{"extra", s, "abc", 0, 0, []int{3}, "extra", nil, err(0, 0, 0), []int{3}, 1, 0},
		{"extra, the last one", s, "abc", 2, 5, []int{3, 0}, "extra", nil, err(0, 2, 2), []int{3, 0}, 3, 5},
		{"extra, though what is below would begin with it", s, "abc", 0, 0, []int{3, 4, 100}, "extra", nil, err(0, 0, 0), []int{3, 4, 100}, 1, 0},
	}
}

func changesOfParts() []change {
	part := func(sym, alt int) *impl.Node { return &impl.Node{Kind: 1, Sym: sym, Alt: alt} }
	wrong := func(sym int) *impl.Node { return &impl.Node{Kind: 3, Sym: sym} }
	err := func(kind, at, sym int) *impl.Err { return &impl.Err{Kind: kind, At: at, Sym: sym} }
	const s, two = "S = a S b | ;", "S = T c | T d ; T = a b | ;"
	return []change{
		{"looks", s, "ab", 0, 0, []int{100}, "look", nil, nil, []int{100}, 0, 1},
		{"looks from below 0", s, "ab", 0, -3, []int{100}, "look", nil, nil, []int{100}, 0, -2},
		{"looks from the least number", s, "ab", 0, math.MinInt, []int{100}, "look", nil, nil, []int{100}, 0, math.MinInt + 1},
		{"has looked", s, "ab", 0, 1, []int{100}, "part", part(0, 0), nil, []int{0, 100, 1}, 0, 0},
		{"has looked at more", s, "ab", 0, 2, []int{100}, "part", part(0, 0), nil, []int{0, 100, 1}, 0, 0},
		{"has looked at all too many", s, "ab", 0, math.MaxInt, []int{100}, "part", part(0, 0), nil, []int{0, 100, 1}, 0, 0},
		{"looks at three", two, "abd", 0, 2, []int{100}, "look", nil, nil, []int{100}, 0, 3},
		{"has looked at three", two, "abd", 0, 3, []int{100}, "part", part(0, 1), nil, []int{101, 3}, 0, 0},
		{"looks by what is to come", s, "aab", 1, 0, []int{100, 1}, "look", nil, nil, []int{100, 1}, 1, 1},
		{"an alternative without a symbol", s, "ab", 1, 1, []int{100, 1}, "part", part(0, 1), nil, []int{1}, 1, 0},
		{"an alternative without a symbol, nothing to come", s, "", 0, 0, []int{100}, "part", part(0, 1), nil, nil, 0, 0},
		{"one alternative, that is not looked for", "S = a b ;", "ab", 0, 0, []int{100, 2}, "part", part(0, 0), nil, []int{0, 1, 2}, 0, 0},
		{"one alternative, with a Look", "S = a b ;", "ab", 0, 5, []int{100, 2}, "part", part(0, 0), nil, []int{0, 1, 2}, 0, 0},
		{"one alternative, with a Look below 0", "S = a b ;", "ab", 0, -1, []int{100}, "look", nil, nil, []int{100}, 0, 0},
		{"another part", two, "xab", 1, 2, []int{101, 2}, "part", part(1, 0), nil, []int{0, 1, 2}, 1, 0},
		{"goes on with the first letter alone", "S = a b c ;", "ac", 0, 0, []int{100}, "part", part(0, 0), nil, []int{0, 1, 2}, 0, 0},
		{"can't go on, looks first", s, "xab", 0, 0, []int{100, 2}, "look", nil, nil, []int{100, 2}, 0, 1},
		{"can't go on with the letter", s, "xab", 0, 1, []int{100, 2}, "part that waits", nil, err(0, 0, 23), []int{100, 2}, 1, 0},
		{"can't go on with the last letter", s, "abx", 2, 4, []int{100, 2}, "part that waits", nil, err(0, 2, 23), []int{100, 2}, 3, 0},
		{"can't go on, one alternative", "S = a b c ;", "bc", 0, 0, []int{100}, "part that waits", nil, err(0, 0, 1), []int{100}, 1, 0},
		{"can't go on, nothing more is allowed", s, "abx", 2, 1, []int{100}, "part that waits", nil, err(0, 2, 23), []int{100}, 3, 0},
		{"can't go on at the end", s, "ab", 2, 0, []int{100, 2}, "wrong", wrong(0), err(2, 2, 0), []int{2}, 2, 0},
		{"can't go on at the end, with a Look", s, "ab", 2, 7, []int{100, 2}, "wrong", wrong(0), err(2, 2, 0), []int{2}, 2, 0},
		{"can't go on at the end, a Look below 0", s, "ab", 2, -1, []int{100, 2}, "look", nil, nil, []int{100, 2}, 2, 0},
		{"can't go on at the end, alone", "S = a b c ;", "", 0, 0, []int{100}, "wrong", wrong(0), err(2, 0, 0), nil, 0, 0},
		{"can't go on at the end, another part", "S = a T ; T = b | c ;", "a", 1, 0, []int{101, 100}, "wrong", wrong(1), err(2, 1, 1), []int{100}, 1, 0},
	}
}

func TestRunStep(t *testing.T) {
	for _, x := range slices.Concat(changesOfLetters(), changesOfParts()) {
		r := begun(x.at, x.row...)
		r.Look = x.look
		want := copyOfRun(r)
		want.Cost, want.At, want.Look = 6, x.place, x.seen
		want.Code = oneIf(x.event == "done")
		if x.node != nil {
			want.Tree.Nodes = append(want.Tree.Nodes, *x.node)
			want.Tree.Nodes[0].Kids = append(want.Tree.Nodes[0].Kids, 2)
			want.Slots = want.Slots[:len(want.Slots)-1]
		}
		if x.err != nil {
			want.Errs = append(want.Errs, *x.err)
		}
		if x.event == "part" {
			want.Slots = append(want.Slots, slotsOf(2, x.then[:len(x.then)-len(want.Slots)]...)...)
		}
		got := stepperOf(gramFrom(t, x.s)).only(t, x.event, lettersOf(x.w), r)
		if !sameRun(got, want) || len(got.Slots) != len(x.then) {
			t.Errorf("%s: %q by %q: RunStep is\n%+v, want\n%+v", x.name, x.w, x.s, got, want)
		}
		for i, slot := range slices.Backward(got.Slots) {
			if slot.Sym != x.then[len(x.then)-1-i] {
				t.Errorf("%s: to come is %v, want %v", x.name, got.Slots, x.then)
			}
		}
	}
}

func TestWhereANodeIsPut(t *testing.T) {
	s := stepperOf(gramFrom(t, "S = a S b | ;"))
	tree := treeOf(partNode(1, 2), partNode(), partNode(9, 9))
	kids := [][]int{{1, 2}, nil, {9, 9}}
	for _, x := range []struct {
		w    string
		look int
		sym  int
		kind int
	}{{"ab", 0, 0, 0}, {"ab", 1, 100, 1}, {"", 0, 1, 2}, {"", 0, 100, 3}} {
		for up := -1; up < 3; up++ {
			slots := append(slotsOf(2, 2, 3), impl.Slot{Sym: x.sym, Up: up})
			r := impl.RunStep(s.g, lettersOf(x.w), impl.Run{Look: x.look, Slots: slots, Tree: tree})
			s.asStep(t, lettersOf(x.w), impl.Run{Look: x.look, Slots: slots, Tree: tree})
			if len(r.Tree.Nodes) != 4 || r.Tree.Nodes[3].Kind != x.kind || len(r.Tree.Nodes[3].Kids) > 0 {
				t.Fatalf("a node of kind %d with Up %d: %+v", x.kind, up, r.Tree)
			}
			for place, node := range r.Tree.Nodes[:3] {
				want := slices.Clone(kids[place])
				if place == up {
					want = append(want, 3)
				}
				if !slices.Equal(node.Kids, want) {
					t.Errorf("a node of kind %d with Up %d: node %d has the Kids %v", x.kind, up, place, node.Kids)
				}
			}
			if x.kind == 1 && !slices.Equal(r.Slots[2:], slotsOf(3, 0, 100, 1)) || x.kind != 1 && len(r.Slots) != 2 || !slices.Equal(r.Slots[:2], slots[:2]) {
				t.Errorf("a node of kind %d with Up %d: to come is %v", x.kind, up, r.Slots)
			}
		}
	}
	// More than one Slot may have no Up.
	two := impl.RunSome(s.g, []int{2, 3}, impl.Run{Slots: slotsOf(-1, 2, 3)}, 3)
	if !sameRun(two, impl.Run{Code: 1, At: 2, Cost: 3, Tree: treeOf(leafNode(2, 0), leafNode(3, 1))}) {
		t.Errorf("two without Up: %+v", two)
	}
}

func TestRunSome(t *testing.T) {
	for _, x := range []struct {
		s, w  string
		steps int
	}{{"S = a S b | ;", "ab", 7}, {"S = a S b | ;", "", 2}, {"S = a S b | ;", "axb", 9}, {"S = a b c ;", "", 2}, {"S = T T ; T = a b | a c ;", "acab", 12}} {
		s, w := stepperOf(gramFrom(t, x.s)), lettersOf(x.w)
		runs := []impl.Run{impl.RunNew()}
		for runs[len(runs)-1].Code == 0 {
			next, _ := s.asStep(t, w, runs[len(runs)-1])
			runs = append(runs, next)
		}
		last := len(runs) - 1
		if last != x.steps || runs[last].Cost != x.steps || runs[last].Code != 1 {
			t.Errorf("%q by %q: %d steps, want %d: %+v", x.w, x.s, last, x.steps, runs[last])
		}
		for from, r := range runs {
			for _, n := range []int{0, -1, -2, -600, 1, 2, 3, 5, last - from, last - from + 1, 599, 600, 601, 602, 1 << 32, math.MaxInt, math.MinInt, math.MinInt + 1} {
				to := from
				if n > 0 {
					to = from + min(n, last-from)
				}
				if got := impl.RunSome(s.g, w, r, n); !sameRun(got, runs[to]) {
					t.Errorf("RunSome(%v, %v, %+v, %d) is\n%+v, want\n%+v", s.g, w, r, n, got, runs[to])
				}
			}
		}
		if all := impl.RunAll(s.g, w); !sameRun(all, runs[last]) {
			t.Errorf("RunAll(%v, %v) = %+v", s.g, w, all)
		}
	}
	// What is refused is refused by the first step, and not without one.
	odd := begun(0, 26)
	for _, n := range []int{-5, 0, 1, 2, 1000} {
		want := copyOfRun(odd)
		want.Code = 2 * oneIf(n > 0)
		if got := impl.RunSome(gramFrom(t, "S = a ;"), []int{0}, odd, n); !sameRun(got, want) {
			t.Errorf("RunSome of %d steps: %+v", n, got)
		}
	}
}

func TestRunAll(t *testing.T) {
	const nest, row, inner = "S = a S b | ;", "S = a b c ;", "S = a T c ; T = b b | d ;"
	for _, x := range []struct {
		s, w, tree, errs string
		cost             int
	}{
		{nest, "", "(P0/1)", "", 2},
		{nest, "ab", "(P0/0 a (P0/1) b)", "", 7},
		{nest, "aab", "(P0/0 a (P0/0 a (P0/1) b) -b)", "-b@3", 11},
		{nest, "axb", "(P0/0 a (P0/1) b)", "+x@1", 9},
		{nest, "abx", "(P0/0 a (P0/1) b)", "+x@2", 8},
		{nest, "abab", "(P0/0 a (P0/1) b)", "+a@2 +b@3", 9},
		{nest, "b", "(P0/1)", "+b@0", 4},
		{nest, "xyz", "(P0/1)", "+x@0 +y@1 +z@2", 8},
		{nest, "aaaaabbbbb", "(P0/0 a (P0/0 a (P0/0 a (P0/0 a (P0/0 a (P0/1) b) b) b) b) b)", "", 23},
		{nest, "aaaaaaaaaa", "(P0/0 a (P0/0 a (P0/0 a (P0/0 a (P0/0 a (P0/0 a (P0/0 a (P0/0 a (P0/0 a (P0/0 a !P0 -b) -b) -b) -b) -b) -b) -b) -b) -b) -b)", "!P0@10 -b@10 -b@10 -b@10 -b@10 -b@10 -b@10 -b@10 -b@10 -b@10 -b@10", 42},
		{row, "abc", "(P0/0 a b c)", "", 5},
		{row, "ac", "(P0/0 a -b c)", "-b@1", 5},
		{row, "abxc", "(P0/0 a b c)", "+x@2", 6},
		{row, "xabc", "(P0/0 a b c)", "+x@0", 6},
		{row, "abd", "(P0/0 a b -c)", "+d@2 -c@3", 6},
		{row, "a", "(P0/0 a -b -c)", "-b@1 -c@1", 5},
		{row, "", "!P0", "!P0@0", 2},
		{row, "x", "!P0", "+x@0 !P0@1", 3},
		{row, "bc", "!P0", "+b@0 +c@1 !P0@2", 4},
		{row, "abcx", "(P0/0 a b c)", "+x@3", 6},
		{row, "acb", "(P0/0 a b -c)", "+c@1 -c@3", 6},
		{inner, "adc", "(P0/0 a (P1/1 d) c)", "", 7},
		{inner, "abbc", "(P0/0 a (P1/0 b b) c)", "", 8},
		{inner, "axc", "(P0/0 a !P1 -c)", "+x@1 +c@2 !P1@3 -c@3", 9},
		{inner, "a", "(P0/0 a !P1 -c)", "!P1@1 -c@1", 5},
		{inner, "abc", "(P0/0 a (P1/0 b -b) c)", "-b@2", 8},
		{inner, "abbb", "(P0/0 a (P1/0 b b) -c)", "+b@3 -c@4", 9},
		{"S = a b | a c ;", "ac", "(P0/1 a c)", "", 6},
		{"S = a b | a c ;", "ad", "(P0/0 a -b)", "+d@1 -b@2", 7},
		{"S = a b | a c ;", "a", "(P0/0 a -b)", "-b@1", 5},
		{"S = ;", "", "(P0/0)", "", 2},
		{"S = ;", "ab", "(P0/0)", "+a@0 +b@1", 4},
		{"S = z ;", "z", "(P0/0 z)", "", 3},
	} {
		s, w := stepperOf(gramFrom(t, x.s)), lettersOf(x.w)
		r := s.asRun(t, w, map[string]int{})
		if r.Code != impl.RnDone || impl.TreeText(r.Tree) != x.tree || errsText(r.Errs) != x.errs || r.Cost != x.cost || r.Look != 0 || r.At != len(w) || len(r.Slots) > 0 {
			t.Errorf("RunAll of %q and %q: code %d, %q, %q, Cost %d; want %q, %q, %d", x.s, x.w, r.Code, impl.TreeText(r.Tree), errsText(r.Errs), r.Cost, x.tree, x.errs, x.cost)
		}
		holds(t, s.g, w)
	}
}

// holds holds a whole Run against promise 10, and tells how it ended: in nothing wrong, in something wrong, or in too much.
func holds(t *testing.T, g impl.Gram, w []int) int {
	t.Helper()
	r, accepts := impl.RunAll(g, w), impl.Accepts(g, w)
	right := r.Code == impl.RnDone && len(r.Errs) == 0 && impl.TreeOk(g, r.Tree, w)
	switch {
	case r.Code == impl.RnMuch:
		return 2
	case r.Code != impl.RnDone || accepts != right || !accepts && len(r.Errs) == 0 || !impl.TreeShape(r.Tree) || len(r.Slots) > 0 || r.At != len(w):
		t.Fatalf("RunAll(%v, %v) = %+v, and Accepts is %v", g, w, r, accepts)
	}
	return oneIf(!right)
}

// gramOfNodes has one tree, of so many nodes, all of them parts, and as many steps and one more.
func gramOfNodes(last ...int) impl.Gram {
	const leaf, nine, seventy = 104, 103, 102
	return gramOf(
		altsOf([]int{seventy, seventy, seventy, seventy, seventy, seventy, seventy, 101}),
		altsOf(append([]int{seventy, nine}, last...)),
		altsOf(slices.Repeat([]int{nine}, 8)),
		altsOf(slices.Repeat([]int{leaf}, 8)),
		altsOf(nil))
}

func TestRunAllOfTooMuch(t *testing.T) {
	for n := range 7 {
		g := gramOfNodes(slices.Repeat([]int{104}, n)...)
		r := impl.RunAll(g, nil)
		if !impl.Accepts(g, nil) || len(r.Errs) > 0 {
			t.Fatalf("a grammar of nothing: %+v", r.Errs)
		}
		steps := 596 + n
		if r.Cost != min(steps, 600) || r.Code != 1+oneIf(steps > 600) || len(r.Tree.Nodes) != min(steps-1, 600) || (n <= 5) != impl.TreeOk(g, r.Tree, nil) {
			t.Errorf("a Run of %d steps: code %d, Cost %d, %d nodes", steps, r.Code, r.Cost, len(r.Tree.Nodes))
		}
		some := impl.RunSome(g, nil, impl.RunNew(), 600)
		if some.Cost != min(steps, 600) || some.Code != oneIf(steps <= 600) || n == 5 && len(some.Slots) != 0 || n == 6 && len(some.Slots) != 1 {
			t.Errorf("a Run of %d steps, 600 of them: code %d, Cost %d, %v", steps, some.Code, some.Cost, some.Slots)
		}
		if more := impl.RunSome(g, nil, some, 1); !sameRun(more, r) {
			t.Errorf("a Run of %d steps, 600 and one of them: code %d, Cost %d", steps, more.Code, more.Cost)
		}
	}
	met := map[string]int{}
	stepperOf(gramOfNodes(104, 104, 104, 104, 104)).asRun(t, nil, met)
	if met["part"] != 600 || met["refused"] != 1 {
		t.Error("the steps of a Run that is too much", met)
	}
	met = map[string]int{}
	r := stepperOf(gramOfNodes(104, 104, 104, 104)).asRun(t, []int{0}, met)
	if r.Code != impl.RnMuch || met["part that waits"] != 1 || met["part"] != 599 || met["refused"] != 1 {
		t.Error("the steps of a Run with a letter too many", r.Code, met)
	}
}

// What is to come may be too much for a row, though few steps were done.
func TestRunAllOfTooManyToCome(t *testing.T) {
	for _, behind := range []int{25, 119} {
		var g impl.Gram
		for k := range 18 {
			g.Parts = append(g.Parts, altsOf(append([]int{101 + k}, slices.Repeat([]int{behind}, 7)...)))
		}
		g.Parts = append(g.Parts, altsOf([]int{0, 100}, []int{0}), altsOf(nil))
		if behind == 25 {
			g.Parts = g.Parts[:19]
		}
		s := stepperOf(g)
		met := map[string]int{}
		r := s.asRun(t, []int{0, 0}, met)
		if r.Code != impl.RnMuch || r.Cost != 33 || r.At != 1 || met["much"] != 1 || met["look"] != 2 || met["part"] != 29 || len(r.Slots) != 197 {
			t.Errorf("%d behind: code %d, Cost %d, %d Slots, %v", behind, r.Code, r.Cost, len(r.Slots), met)
		}
		if impl.Accepts(g, []int{0, 0}) != (behind == 119) {
			t.Error("it belongs to it", behind)
		}
		if r := s.asRun(t, []int{0}, met); r.Code != impl.RnDone || (len(r.Errs) == 0) != (behind == 119) || len(r.Errs) > 0 && len(r.Errs) != 127 {
			t.Errorf("%d behind: %+v", behind, r.Errs)
		}
	}
}

// others are Runs that differ from one another, and from the first one, in one thing.
func others() []impl.Run {
	whole := impl.Run{Code: 1, At: 2, Look: 3, Cost: 4, Slots: []impl.Slot{{Sym: 5, Up: 6}, {Sym: 7, Up: 8}}, Errs: []impl.Err{{Kind: 1, At: 9, Sym: 10}, {Kind: 2, At: 11, Sym: 12}}}
	whole.Tree = treeOf(impl.Node{Kind: 1, Sym: 13, Alt: 14, At: 15, Kids: []int{1, 16}}, impl.Node{Kind: 2, Sym: 17, Alt: 18, At: 19, Kids: []int{20}}, impl.Node{})
	list := []impl.Run{whole}
	for _, turn := range []func(r *impl.Run){
		func(r *impl.Run) { r.Code = 0 }, func(r *impl.Run) { r.Code = -1 }, func(r *impl.Run) { r.At = -2 }, func(r *impl.Run) { r.Look++ }, func(r *impl.Run) { r.Cost-- },
		func(r *impl.Run) { r.Slots[0].Sym++ }, func(r *impl.Run) { r.Slots[0].Up++ }, func(r *impl.Run) { r.Slots[1].Sym++ }, func(r *impl.Run) { r.Slots[1].Up++ },
		func(r *impl.Run) { r.Slots = r.Slots[:1] }, func(r *impl.Run) { r.Slots = r.Slots[1:] }, func(r *impl.Run) { r.Slots = nil }, func(r *impl.Run) { r.Slots = append(r.Slots, impl.Slot{}) }, func(r *impl.Run) { slices.Reverse(r.Slots) },
		func(r *impl.Run) { r.Errs[0].Kind++ }, func(r *impl.Run) { r.Errs[0].At++ }, func(r *impl.Run) { r.Errs[0].Sym++ }, func(r *impl.Run) { r.Errs[1].Kind++ }, func(r *impl.Run) { r.Errs[1].At++ }, func(r *impl.Run) { r.Errs[1].Sym++ },
		func(r *impl.Run) { r.Errs = r.Errs[:1] }, func(r *impl.Run) { r.Errs = r.Errs[1:] }, func(r *impl.Run) { r.Errs = nil }, func(r *impl.Run) { r.Errs = append(r.Errs, impl.Err{}) }, func(r *impl.Run) { slices.Reverse(r.Errs) },
		func(r *impl.Run) { r.Tree.Nodes[0].Kind++ }, func(r *impl.Run) { r.Tree.Nodes[0].Sym++ }, func(r *impl.Run) { r.Tree.Nodes[0].Alt++ }, func(r *impl.Run) { r.Tree.Nodes[0].At++ },
		func(r *impl.Run) { r.Tree.Nodes[1].Kind++ }, func(r *impl.Run) { r.Tree.Nodes[1].Sym++ }, func(r *impl.Run) { r.Tree.Nodes[1].Alt++ }, func(r *impl.Run) { r.Tree.Nodes[1].At++ },
		func(r *impl.Run) { r.Tree.Nodes[2].Kind++ }, func(r *impl.Run) { r.Tree.Nodes[2].Sym++ }, func(r *impl.Run) { r.Tree.Nodes[2].Alt++ }, func(r *impl.Run) { r.Tree.Nodes[2].At++ },
		func(r *impl.Run) { r.Tree.Nodes[0].Kids[0]++ }, func(r *impl.Run) { r.Tree.Nodes[0].Kids[1]++ }, func(r *impl.Run) { r.Tree.Nodes[0].Kids = []int{1} }, func(r *impl.Run) { r.Tree.Nodes[0].Kids = []int{16} },
		func(r *impl.Run) { r.Tree.Nodes[0].Kids = []int{16, 1} }, func(r *impl.Run) { r.Tree.Nodes[0].Kids = []int{1, 16, 0} }, func(r *impl.Run) { r.Tree.Nodes[0].Kids = nil }, func(r *impl.Run) { r.Tree.Nodes[1].Kids[0] = -20 },
		func(r *impl.Run) { r.Tree.Nodes[2].Kids = []int{0} }, func(r *impl.Run) { r.Tree.Nodes = r.Tree.Nodes[:2] }, func(r *impl.Run) { r.Tree.Nodes = append(r.Tree.Nodes, impl.Node{}) }, func(r *impl.Run) { r.Tree.Nodes = nil },
		func(r *impl.Run) { slices.Reverse(r.Tree.Nodes) }, func(r *impl.Run) { r.At, r.Look = r.Look, r.At }, func(r *impl.Run) { r.Code, r.Cost = r.Cost, r.Code },
		func(r *impl.Run) { *r = impl.Run{} }, func(r *impl.Run) { *r = impl.RunNew() },
	} {
		other := copyOfRun(whole)
		turn(&other)
		list = append(list, other)
	}
	return list
}

func TestRunSame(t *testing.T) {
	list := others()
	for i, a := range list {
		for j, b := range list {
			if got := impl.RunSame(a, copyOfRun(b)); got != (i == j) {
				t.Errorf("RunSame(%+v, %+v) = %v", a, b, got)
			}
		}
	}
	empty := impl.Run{Slots: []impl.Slot{}, Errs: make([]impl.Err, 0, 3), Tree: impl.Tree{Nodes: []impl.Node{}}}
	if !impl.RunSame(empty, impl.Run{}) || !impl.RunSame(impl.Run{}, empty) || impl.RunSame(empty, impl.RunNew()) {
		t.Error("an empty list is nil")
	}
	some, none := impl.Run{Tree: treeOf(impl.Node{Kids: []int{}})}, impl.Run{Tree: treeOf(impl.Node{})}
	if !impl.RunSame(some, none) || !impl.RunSame(none, some) || impl.RunSame(none, impl.Run{}) || impl.RunSame(impl.Run{}, none) {
		t.Error("an empty list of Kids is nil")
	}
}

// randomRun is a Run that stands somehow, but most times as one may stand that goes on.
func randomRun(r *rand.Rand, parts, letters, long int) impl.Run {
	fuel := 1 + r.Intn(12)
	run := impl.Run{At: r.Intn(long + 1), Look: r.Intn(4), Cost: r.Intn(600), Tree: laid(randomBush(r, &fuel), r.Intn)}
	ups := []int{-1}
	for place, node := range run.Tree.Nodes {
		if node.Kind == 1 {
			ups = append(ups, place)
		}
	}
	for range r.Intn(6) {
		sym := r.Intn(letters)
		if r.Intn(2) == 0 {
			sym = 100 + r.Intn(parts)
		}
		run.Slots = append(run.Slots, impl.Slot{Sym: sym, Up: ups[r.Intn(len(ups))]})
	}
	for range r.Intn(3) {
		run.Errs = append(run.Errs, impl.Err{Kind: r.Intn(3), At: r.Intn(11), Sym: r.Intn(26)})
	}
	if r.Intn(10) == 0 {
		spoil(r, &run, parts)
	}
	return run
}

// spoil makes something wrong in a Run.
func spoil(r *rand.Rand, run *impl.Run, parts int) {
	slot := &impl.Slot{}
	if len(run.Slots) > 0 {
		slot = &run.Slots[r.Intn(len(run.Slots))]
	}
	switch r.Intn(6) {
	case 0:
		run.Code = noCodes()[r.Intn(12)]
	case 1:
		run.At = noPlaces(10)[r.Intn(19)]
	case 2:
		run.Cost = []int{-1, 600, 601, math.MaxInt, math.MinInt}[r.Intn(5)]
	case 3:
		slot.Sym = noSymbols(parts)[r.Intn(16)]
	case 4:
		slot.Up = noPlaces(len(run.Tree.Nodes) - 1)[1+r.Intn(18)]
	case 5:
		slot.Up = r.Intn(len(run.Tree.Nodes))
	}
}

func TestRunStepOfRandomRuns(t *testing.T) {
	r := rand.New(rand.NewSource(101))
	met := map[string]int{}
	for i := range 1500 {
		g := randomChecked(r, 1+i%5, 1+i%4, 2+i%3, 2)
		if i%20 == 0 {
			g = randomGram(r, 4, 3, 3)
		}
		s := stepperOf(g)
		for range 10 {
			w := []int{}
			for range r.Intn(6) {
				w = append(w, r.Intn(3))
			}
			run := randomRun(r, len(g.Parts), 3, len(w))
			next, event := s.asStep(t, w, run)
			met[event]++
			if same := impl.RunSame(run, next); same != sameRun(run, next) {
				t.Fatalf("RunSame(%+v, %+v) = %v", run, next, same)
			}
		}
	}
	for _, event := range []string{"rest", "refused", "done", "extra", "leaf", "missing", "look", "part", "part that waits", "wrong"} {
		if met[event] < 80 {
			t.Error("too few of", event, met)
		}
	}
}

// askRuns asks for whole Runs of what belongs to a grammar, of what is near to it, and of anything.
func askRuns(t *testing.T, r *rand.Rand, g impl.Gram, met map[string]int, ends []int) {
	t.Helper()
	s := stepperOf(g)
	for _, input := range append(rightAndNear(r, g, []int{100}), []int{r.Intn(3), r.Intn(3), r.Intn(3)}) {
		s.asRun(t, input, met)
		ends[holds(t, g, input)]++
		inPortions(t, r, g, input)
	}
}

func TestRunsOfRandomGrammars(t *testing.T) {
	r := rand.New(rand.NewSource(102))
	met, ends := map[string]int{}, make([]int, 3)
	for i := range 600 {
		askRuns(t, r, randomChecked(r, 1+i%6, 1+i%4, 2+i%3, 2), met, ends)
	}
	for _, event := range []string{"done", "extra", "leaf", "missing", "look", "part", "part that waits", "wrong"} {
		if met[event] < 200 {
			t.Error("too few of", event, met)
		}
	}
	if ends[0] < 300 || ends[1] < 300 {
		t.Error("too few of some ends", ends)
	}
}

func TestRunsOfGreatGrammars(t *testing.T) {
	r := rand.New(rand.NewSource(103))
	met, ends := map[string]int{}, make([]int, 3)
	for i := range 20 {
		g := greatGram(r, func(rows [][]int) { rows[7], rows[6] = []int{r.Intn(2)}, []int{r.Intn(2)} })
		if i == 0 {
			g = manyEmpty(t)
		}
		askRuns(t, r, g, met, ends)
	}
	if met["part"] < 200 || met["look"] < 50 {
		t.Error("too few of some steps", met)
	}
}

func TestRunsByWayOfAllPartsAndAllLetters(t *testing.T) {
	full := lettersOf("abcdefghij")
	for _, to := range orders() {
		for _, x := range []struct {
			g    impl.Gram
			w    []int
			ends int
		}{
			{singleLadder(), full, 0}, {singleLadder(), full[:9], 1}, {singleLadder(), nil, 1},
			{turnedLadder(), full, 0}, {turnedLadder(), full[:9], 1},
			{skippingLadder(), full, 0}, {skippingLadder(), full[:9], 0}, {skippingLadder(), lettersOf("jjabcdefgh"), 1},
		} {
			g := renumbered(x.g, to)
			if got := holds(t, g, x.w); got != x.ends {
				t.Errorf("RunAll(%v, %v) ends in %d, want %d", g, x.w, got, x.ends)
			}
		}
	}
}

// inPortions holds a Run that is done in portions by chance against one that is done at once.
func inPortions(t *testing.T, r *rand.Rand, g impl.Gram, w []int) {
	t.Helper()
	all, run := impl.RunAll(g, w), impl.RunNew()
	var list []int
	for sum := 0; sum < 601; sum += max(list[len(list)-1], 0) {
		n := []int{0, -1, 1, 2, 3, 7, 50}[r.Intn(7)]
		list = append(list, n)
		run = impl.RunSome(g, w, run, n)
	}
	if !sameRun(run, all) || !impl.RunSame(run, all) {
		t.Fatalf("%v of %v, in portions %v, comes to\n%+v, but at once to\n%+v", w, g, list, run, all)
	}
}

// Promise 10: a row that belongs to its grammar has a right tree and nothing wrong, unless it takes too much; steps may be done in any portions.
func TestARowThatBelongsHasARightTreeAndNothingWrong(t *testing.T) {
	r := rand.New(rand.NewSource(104))
	ends := make([]int, 3)
	inputs := listsOf([]int{0, 1}, 4)
	for i, g := range smallChecked() {
		for _, w := range inputs {
			ends[holds(t, g, w)]++
		}
		inPortions(t, r, g, inputs[i%len(inputs)])
	}
	if ends[0] < 1000 || ends[1] < 1000 || ends[2] > 0 {
		t.Error("too few of some ends", ends)
	}
}

func TestARowThatBelongsToARandomGrammarHasARightTree(t *testing.T) {
	r := rand.New(rand.NewSource(105))
	ends := make([]int, 3)
	for i := range 3000 {
		g := randomChecked(r, 1+i%8, 1+i%5, 2+i%4, 3)
		for range 4 {
			w := sampleOf(r, g, []int{100})
			if len(w) > 10 {
				continue
			}
			near := nearTo(w)
			if got := holds(t, g, w); got == 1 {
				t.Fatalf("RunAll(%v, %v) tells something wrong", g, w)
			} else {
				ends[got]++
			}
			if other := near[r.Intn(len(near))]; len(other) <= 10 {
				ends[holds(t, g, other)]++
			}
			if i%10 == 0 {
				inPortions(t, r, g, w)
			}
		}
	}
	if ends[0] < 3000 || ends[1] < 3000 {
		t.Error("too few of some ends", ends)
	}
}

// guardedRun is a Run whose lists all have spare room behind them, so that a write into any of them shows.
type guardedRun struct {
	run   impl.Run
	slots []impl.Slot // with the room behind them
	errs  []impl.Err  // with the room behind them
	tree  *guardedTree
	want  impl.Run
}

func guardRun(r impl.Run) *guardedRun {
	spareSlot, spareErr := impl.Slot{Sym: guardSpare, Up: guardSpare}, impl.Err{Kind: guardSpare}
	out := &guardedRun{run: r, tree: guardTree(r.Tree)}
	out.slots = append(slices.Clone(r.Slots), slices.Repeat([]impl.Slot{spareSlot}, 9)...)
	out.errs = append(slices.Clone(r.Errs), spareErr, spareErr)
	out.run.Slots, out.run.Errs, out.run.Tree = out.slots[:len(r.Slots)], out.errs[:len(r.Errs)], out.tree.tree
	out.want = impl.Run{Slots: slices.Clone(out.slots), Errs: slices.Clone(out.errs)}
	return out
}

func (x *guardedRun) unchanged(t *testing.T, call string) {
	t.Helper()
	if !slices.Equal(x.slots, x.want.Slots) || !slices.Equal(x.errs, x.want.Errs) {
		t.Fatalf("%s wrote into a Run: %v became %v and %v", call, x.want, x.slots, x.errs)
	}
	x.tree.unchanged(t, call)
}

// overwrite writes into all lists of a Run, and into the room behind them.
func overwrite(r impl.Run) {
	fill(r.Slots, impl.Slot{Sym: -9, Up: -9})
	fill(r.Errs, impl.Err{Kind: -9})
	for _, node := range r.Tree.Nodes {
		fill(node.Kids, -9)
	}
	fill(r.Tree.Nodes, impl.Node{Kind: -9})
}

func fill[T any](list []T, by T) {
	whole := list[:cap(list)]
	for i := range whole {
		whole[i] = by
	}
}

func memoriesOfRun(r impl.Run) []memory {
	out := []memory{memoryOf(r.Slots), memoryOf(r.Errs), memoryOf(r.Tree.Nodes)}
	for _, node := range r.Tree.Nodes {
		out = append(out, memoryOf(node.Kids))
	}
	return out
}

// standing are Runs at all their steps.
func standing(g impl.Gram, w []int) []impl.Run {
	out := []impl.Run{impl.RunNew()}
	for out[len(out)-1].Code == 0 {
		out = append(out, impl.RunStep(g, w, out[len(out)-1]))
	}
	return out
}

func TestRunsAreNewMemoryAndNothingIsWritten(t *testing.T) {
	r := rand.New(rand.NewSource(106))
	calls := []struct {
		name string
		tell func(g impl.Gram, w []int, run impl.Run) impl.Run
	}{
		{"RunStep", impl.RunStep},
		{"RunSome of none", func(g impl.Gram, w []int, run impl.Run) impl.Run { return impl.RunSome(g, w, run, 0) }},
		{"RunSome of three", func(g impl.Gram, w []int, run impl.Run) impl.Run { return impl.RunSome(g, w, run, 3) }},
		{"RunSome of many", func(g impl.Gram, w []int, run impl.Run) impl.Run { return impl.RunSome(g, w, run, 700) }},
		{"RunAll", func(g impl.Gram, w []int, run impl.Run) impl.Run { return impl.RunAll(g, w) }},
	}
	for i := range 800 {
		plain := randomChecked(r, 4, 3, 3, 2)
		input := sampleOf(r, plain, []int{100})
		input = input[:min(len(input), 10)]
		if len(input) > 0 && i%2 == 0 {
			input[r.Intn(len(input))] = r.Intn(3)
		}
		list := standing(plain, input)
		whole := list[r.Intn(len(list))]
		if i%3 == 0 {
			whole = randomRun(r, len(plain.Parts), 3, len(input))
		}
		for _, x := range calls {
			g, w, run := guardGram(plain), guard("an input", input), guardRun(whole)
			told := x.tell(g.gram, w.list, run.run)
			again := x.tell(g.gram, w.list, run.run)
			if !sameRun(told, again) || !sameRun(told, x.tell(copyOfGram(plain), slices.Clone(input), copyOfRun(whole))) {
				t.Fatalf("%s of %v, %v and %+v tells %+v and then something else", x.name, plain, input, whole, told)
			}
			apart(t, x.name+", twice", append(memoriesOfRun(told), memoriesOfRun(again)...))
			kept := copyOfRun(told)
			overwrite(again)
			g.unchanged(t, x.name)
			w.unchanged(t, x.name)
			run.unchanged(t, x.name)
			for _, list := range append(g.lists(), w) {
				fill(list.array, -5)
			}
			overwrite(run.run)
			if !sameRun(told, kept) {
				t.Fatalf("%s of %v, %v and %+v: its answer changed with an argument", x.name, plain, input, whole)
			}
		}
	}
}

func TestRunSameWritesNothing(t *testing.T) {
	list := others()
	for _, a := range list {
		for _, b := range list {
			one, other := guardRun(a), guardRun(b)
			if impl.RunSame(one.run, other.run) != impl.RunSame(other.run, one.run) {
				t.Fatalf("RunSame(%+v, %+v) hangs on their order", a, b)
			}
			one.unchanged(t, "RunSame")
			other.unchanged(t, "RunSame")
		}
	}
}

// Whatever tree a Run comes with, a step neither panics nor goes through it in depth.
func TestRunStepOfGreatTrees(t *testing.T) {
	g := gramFrom(t, "S = a S b | ;")
	for _, deep := range []int{1000, 100000} {
		tree := deepTree(deep)
		last := len(tree.Nodes) - 1
		r := impl.RunStep(g, []int{0, 1}, impl.Run{Slots: slotsOf(last, 0), Tree: tree})
		if len(r.Tree.Nodes) != last+2 || !slices.Equal(r.Tree.Nodes[last].Kids, []int{last + 1}) || !sameNode(r.Tree.Nodes[last+1], leafNode(0, 0)) || !impl.TreeShape(r.Tree) || !impl.RunSame(r, copyOfRun(r)) {
			t.Error("a step of a deep tree of", deep)
		}
		many := impl.Run{Slots: slotsOf(-1, make([]int, deep)...), Errs: make([]impl.Err, deep)}
		if got := impl.RunStep(g, nil, many); got.Code != impl.RnMuch || len(got.Slots) != deep || len(got.Errs) != deep {
			t.Error("a step of", deep, "Slots", got.Code)
		}
	}
}
