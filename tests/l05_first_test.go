package tests

import (
	"fmt"
	"math"
	"math/rand"
	"slices"
	"testing"

	"loop.example/g00485/impl"
)

// The functions as the document writes them down.
var (
	_ func(impl.Gram) []int        = impl.Empties
	_ func(impl.Gram, []int) bool  = impl.EmptyRow
	_ func(impl.Gram, []int) []int = impl.FirstOf
	_ func(impl.Gram, int) []int   = impl.FollowOf
	_ func(impl.Gram, int) []int   = impl.Starts
)

func TestConstantsOfFirst(t *testing.T) {
	if impl.End != 26 {
		t.Error("End", impl.End)
	}
}

// gramFrom is the grammar of a text that is known to be right.
func gramFrom(t *testing.T, s string) impl.Gram {
	t.Helper()
	g, code := impl.Plain(readRules(t, s))
	if code != impl.GrOk {
		t.Fatalf("Plain of %q: %d", s, code)
	}
	return g
}

// emptiesPlainly are the parts that become nothing by trees no higher than there are parts: a higher one has a part above itself.
func emptiesPlainly(g impl.Gram) []int {
	var out []int
	for range g.Parts {
		var next []int
		for k, alts := range g.Parts {
			if slices.ContainsFunc(alts, func(row []int) bool { return emptyPlainly(row, out) }) {
				next = append(next, k)
			}
		}
		out = next
	}
	return out
}

func emptyPlainly(row []int, empties []int) bool {
	return !slices.ContainsFunc(row, func(s int) bool {
		return !slices.ContainsFunc(empties, func(k int) bool { return s == 100+k })
	})
}

// firstPlainly goes to each row to which the beginning of what row becomes can lead; a part leads to the same ones every time.
func firstPlainly(g impl.Gram, row []int, empties []int) []int {
	var letters []int
	met := make([]bool, len(g.Parts))
	todo := [][]int{row}
	for len(todo) > 0 {
		row := todo[len(todo)-1]
		todo = todo[:len(todo)-1]
		if len(row) == 0 {
			continue
		}
		if s := row[0]; s >= 0 && s <= 25 {
			letters = append(letters, s)
		} else if s >= 100 && s < 100+len(g.Parts) {
			if slices.Contains(empties, s-100) {
				todo = append(todo, row[1:])
			}
			if !met[s-100] {
				met[s-100] = true
				todo = append(todo, g.Parts[s-100]...)
			}
		}
	}
	slices.Sort(letters)
	return slices.Compact(letters)
}

// followPlainly climbs from part k to each part at whose end it can stand.
func followPlainly(g impl.Gram, k int, empties []int) []int {
	var found []int
	climbed := []int{k}
	for at := 0; at < len(climbed); at++ {
		if climbed[at] == 0 {
			found = append(found, 26)
		}
		for owner, alts := range g.Parts {
			for _, row := range alts {
				for i, s := range row {
					if s != 100+climbed[at] {
						continue
					}
					found = append(found, firstPlainly(g, row[i+1:], empties)...)
					if emptyPlainly(row[i+1:], empties) && !slices.Contains(climbed, owner) {
						climbed = append(climbed, owner)
					}
				}
			}
		}
	}
	slices.Sort(found)
	return slices.Compact(found)
}

// startsPlainly goes down from part k to each part that can stand at the beginning.
func startsPlainly(g impl.Gram, k int, empties []int) []int {
	var found []int
	todo := []int{k}
	for len(todo) > 0 {
		alts := g.Parts[todo[0]]
		todo = todo[1:]
		for _, row := range alts {
			for i, s := range row {
				if s >= 100 && emptyPlainly(row[:i], empties) && !slices.Contains(found, s-100) {
					found = append(found, s-100)
					todo = append(todo, s-100)
				}
			}
		}
	}
	slices.Sort(found)
	return found
}

func wantList(t *testing.T, g impl.Gram, call string, got, want []int) {
	t.Helper()
	if !slices.Equal(got, want) {
		t.Fatalf("%s of %v = %v, want %v", call, g, got, want)
	}
}

// asPlainly holds all that chapter 5 tells of a grammar, and of such rows beside its own, against what the document says.
func asPlainly(t *testing.T, g impl.Gram, rows ...[]int) {
	t.Helper()
	ok := okPlainly(g)
	var empties []int
	if ok {
		empties = emptiesPlainly(g)
	}
	wantList(t, g, "Empties", impl.Empties(g), empties)
	for _, row := range append(slices.Concat(g.Parts...), rows...) {
		var first []int
		if ok {
			first = firstPlainly(g, row, empties)
		}
		wantList(t, g, fmt.Sprint("FirstOf ", row), impl.FirstOf(g, row), first)
		if got := impl.EmptyRow(g, row); got != (ok && emptyPlainly(row, empties)) {
			t.Fatalf("EmptyRow(%v, %v) = %v", g, row, got)
		}
	}
	for _, k := range append([]int{math.MinInt, -100, -1, len(g.Parts), len(g.Parts) + 1, 19, 20, 21, 26, 27, 100, 1000, math.MaxInt}, upTo(len(g.Parts))...) {
		var follow, starts []int
		if ok && k >= 0 && k < len(g.Parts) {
			follow, starts = followPlainly(g, k, empties), startsPlainly(g, k, empties)
		}
		wantList(t, g, fmt.Sprint("FollowOf ", k), impl.FollowOf(g, k), follow)
		wantList(t, g, fmt.Sprint("Starts ", k), impl.Starts(g, k), starts)
	}
}

// upTo are the numbers below n.
func upTo(n int) []int {
	var out []int
	for i := range n {
		out = append(out, i)
	}
	return out
}

// noSymbols are numbers that are no symbol of a grammar with so many parts.
func noSymbols(parts int) []int {
	return []int{-1, 26, 27, 50, 99, 100 + parts, 101 + parts, 120, 121, 127, 1000, -100, math.MaxInt, math.MaxInt - 99, math.MinInt, math.MinInt + 100}
}

func TestFirstOfGrammarsThatAreNotOk(t *testing.T) {
	one := altsOf([]int{0}, nil)
	bad := []impl.Gram{
		{},
		gramOf([][][]int{}...),
		gramOf(nil),
		gramOf(one, nil),
		gramOf(one, [][]int{}),
		gramOf(altsOf([]int{101})),
		gramOf(altsOf([]int{100}, nil), altsOf([]int{102})),
		gramOf(altsOf(nil, []int{26})),
		gramOf(altsOf(nil, []int{0, -1})),
		gramOf(altsOf(nil, []int{99})),
		gramOf(altsOf(nil, []int{math.MaxInt})),
		gramOf(altsOf(nil, []int{math.MinInt})),
		gramOf(make([][]int, 9)),
		gramOf(altsOf(nil, make([]int, 9))),
		gramOf(slices.Repeat([][][]int{one}, 21)...),
		gramOf(slices.Repeat([][][]int{one}, 40)...),
	}
	for _, g := range bad {
		for _, row := range [][]int{nil, {}, {0}, {100}, {100, 0}, {101}, {26}, {-1}} {
			if impl.EmptyRow(g, row) {
				t.Errorf("EmptyRow(%v, %v)", g, row)
			}
			if got := impl.FirstOf(g, row); len(got) != 0 {
				t.Errorf("FirstOf(%v, %v) = %v", g, row, got)
			}
		}
		asPlainly(t, g)
	}
	many := gramOf(slices.Repeat([][][]int{one}, 20)...)
	wantList(t, many, "Empties", impl.Empties(many), upTo(20))
}

func TestEmpties(t *testing.T) {
	for _, x := range []struct {
		s    string
		want []int
	}{
		{"S = a ;", nil},
		{"S = ;", []int{0}},
		{"S = a | ;", []int{0}},
		{"S = | a ;", []int{0}},
		{"S = a S ;", nil},
		{"S = S ;", nil},
		{"S = S S | a ;", nil},
		{"S = S | ;", []int{0}},
		{"S = T ; T = S ;", nil},
		{"S = T ; T = U ; U = S | T U ;", nil},
		{"S = T ; T = S | ;", []int{0, 1}},
		{"S = T ; T = U ; U = V ; V = ;", []int{0, 1, 2, 3}},
		{"S = ; T = S ; U = T S ; V = U T S ;", []int{0, 1, 2, 3}},
		{"S = T U ; T = U U ; U = | a ;", []int{0, 1, 2}},
		{"S = T a ; T = U | b ; U = ;", []int{1, 2}},
		{"S = a T | T b ; T = c | S ;", nil},
		{"S = T U ; T = ; U = u ;", []int{1}},
		{"S = U T ; T = ; U = u ;", []int{1}},
		{"S = T T T T T T T T ; T = ;", []int{0, 1}},
		{"S = T T T T T T T a ; T = ;", []int{1}},
		{"S = a T T T T T T T ; T = ;", []int{1}},
		{"S = a | b | T | U ; T = c ; U = S | V ; V = ;", []int{0, 2, 3}},
		{"S = a? b* c+ ;", []int{1, 2}},
		{"S = (a?)+ ;", []int{0, 1, 2}},
	} {
		g := gramFrom(t, x.s)
		wantList(t, g, x.s+" Empties", impl.Empties(g), x.want)
		asPlainly(t, g)
	}
}

func TestEmptyRow(t *testing.T) {
	g := gramFrom(t, "S = T U a | b ; T = U U ; U = c | ; V = V | d ; W = ;")
	for _, x := range []struct {
		row  []int
		want bool
	}{
		{nil, true}, {[]int{}, true},
		{[]int{101}, true}, {[]int{102}, true}, {[]int{104}, true},
		{[]int{101, 102, 104, 101, 101, 102, 104, 104, 101, 102}, true},
		{[]int{100}, false}, {[]int{103}, false},
		{[]int{101, 103}, false}, {[]int{103, 101}, false}, {[]int{101, 103, 102}, false},
		{[]int{0}, false}, {[]int{25}, false}, {[]int{1}, false}, {[]int{4}, false},
		{[]int{0, 101}, false}, {[]int{101, 0}, false}, {[]int{101, 2, 101}, false},
	} {
		if got := impl.EmptyRow(g, x.row); got != x.want {
			t.Errorf("EmptyRow(%v) = %v", x.row, got)
		}
	}
	for s := range 26 {
		if impl.EmptyRow(g, []int{s}) || impl.EmptyRow(g, []int{101, s}) || impl.EmptyRow(g, []int{s, 101}) {
			t.Error("the letter became nothing", s)
		}
	}
	for _, s := range noSymbols(5) {
		if impl.EmptyRow(g, []int{s}) || impl.EmptyRow(g, []int{101, s}) || impl.EmptyRow(g, []int{s, 101}) {
			t.Error("what is no symbol became nothing", s)
		}
	}
	long := slices.Repeat([]int{101}, 100000)
	if !impl.EmptyRow(g, long) || impl.EmptyRow(g, append(long, 0)) || impl.EmptyRow(g, append(long, 105)) {
		t.Error("EmptyRow of many symbols")
	}
	full := gramOf(slices.Repeat([][][]int{altsOf(nil)}, 20)...)
	for s := 90; s < 140; s++ {
		if got := impl.EmptyRow(full, []int{s}); got != (s >= 100 && s < 120) {
			t.Error("EmptyRow of twenty parts", s, got)
		}
	}
}

func TestFirstOf(t *testing.T) {
	for _, x := range []struct {
		s         string
		row, want []int
	}{
		{"S = a ;", nil, nil},
		{"S = a ;", []int{}, nil},
		{"S = a ;", []int{0}, []int{0}},
		{"S = a ;", []int{25}, []int{25}},
		{"S = a ;", []int{7, 3}, []int{7}},
		{"S = a ;", []int{7, 100}, []int{7}},
		{"S = a ;", []int{100, 3}, []int{0}},
		{"S = ;", []int{100}, nil},
		{"S = ;", []int{100, 3}, []int{3}},
		{"S = ;", []int{100, 100, 100, 25, 1}, []int{25}},
		{"S = c | b | | a ;", []int{100}, []int{0, 1, 2}},
		{"S = c | b | | a ;", []int{100, 25}, []int{0, 1, 2, 25}},
		{"S = c | b | | a ;", []int{100, 1, 25}, []int{0, 1, 2}},
		{"S = c | c d | c e ;", []int{100}, []int{2}},
		{"S = S ;", []int{100}, nil},
		{"S = S ;", []int{100, 1}, nil},
		{"S = S a ;", []int{100}, nil},
		{"S = S a | b ;", []int{100}, []int{1}},
		{"S = S a | ;", []int{100}, []int{0}},
		{"S = a S ;", []int{100, 1}, []int{0}},
		{"S = T a ; T = S b | c ;", []int{100}, []int{2}},
		{"S = T a ; T = S b | c ;", []int{101}, []int{2}},
		{"S = T a ; T = S b | ;", []int{100}, []int{0}},
		{"S = T a | z ; T = U b | y ; U = S c | x ;", []int{102}, []int{23, 24, 25}},
		{"S = T S b | c ; T = a | ;", []int{100}, []int{0, 2}},
		{"S = T U V d ; T = a | ; U = b | ; V = c | ;", []int{100}, []int{0, 1, 2, 3}},
		{"S = T U V d ; T = a | ; U = b ; V = c | ;", []int{100}, []int{0, 1}},
		{"S = T U V d ; T = a | ; U = b | ; V = c | ;", []int{103, 101}, []int{0, 2}},
		{"S = T U ; T = a | ; U = U ;", []int{100}, []int{0}},
		{"S = T U ; T = a | ; U = U ;", []int{101, 102, 5}, []int{0}},
	} {
		g := gramFrom(t, x.s)
		wantList(t, g, fmt.Sprint(x.s, " FirstOf ", x.row), impl.FirstOf(g, x.row), x.want)
		asPlainly(t, g, x.row)
	}
}

func TestFirstOfEachLetter(t *testing.T) {
	g := gramFrom(t, "S = T a | b ; T = c | ;")
	for s := range 26 {
		wantList(t, g, "FirstOf", impl.FirstOf(g, []int{s}), []int{s})
		wantList(t, g, "FirstOf", impl.FirstOf(g, []int{101, s}), slices.Compact(slices.Sorted(slices.Values([]int{2, s}))))
		own := gramOf(altsOf([]int{s}))
		wantList(t, own, "FirstOf", impl.FirstOf(own, []int{100, 3}), []int{s})
	}
}

func TestFirstOfWhatIsNoSymbol(t *testing.T) {
	g := gramFrom(t, "S = T a | b ; T = c | ;")
	for _, s := range noSymbols(2) {
		wantList(t, g, "FirstOf", impl.FirstOf(g, []int{s}), nil)
		wantList(t, g, "FirstOf", impl.FirstOf(g, []int{s, 3}), nil)
		wantList(t, g, "FirstOf", impl.FirstOf(g, []int{s, 100}), nil)
		wantList(t, g, "FirstOf", impl.FirstOf(g, []int{101, s}), []int{2})
		wantList(t, g, "FirstOf", impl.FirstOf(g, []int{101, s, 3}), []int{2})
		wantList(t, g, "FirstOf", impl.FirstOf(g, []int{101, 101, s, 100}), []int{2})
		wantList(t, g, "FirstOf", impl.FirstOf(g, []int{100, s}), []int{0, 1, 2})
		wantList(t, g, "FirstOf", impl.FirstOf(g, []int{5, s}), []int{5})
	}
	long := slices.Repeat([]int{101}, 100000)
	wantList(t, g, "FirstOf many", impl.FirstOf(g, long), []int{2})
	wantList(t, g, "FirstOf many", impl.FirstOf(g, append(long, 100, 9)), []int{0, 1, 2})
	wantList(t, g, "FirstOf many", impl.FirstOf(g, append(long, 102, 9)), []int{2})
}

func TestFollowOf(t *testing.T) {
	const end = 26
	for _, x := range []struct {
		s    string
		want [][]int
	}{
		{"S = a ;", [][]int{{end}}},
		{"S = ;", [][]int{{end}}},
		{"S = S ;", [][]int{{end}}},
		{"S = S a ;", [][]int{{0, end}}},
		{"S = a S ;", [][]int{{end}}},
		{"S = S S | a ;", [][]int{{0, end}}},
		{"S = S S | ;", [][]int{{end}}},
		{"S = a S b | ;", [][]int{{1, end}}},
		{"S = T b ; T = a ;", [][]int{{end}, {1}}},
		{"S = b T ; T = a ;", [][]int{{end}, {end}}},
		{"S = T U ; T = a ; U = b ;", [][]int{{end}, {1}, {end}}},
		{"S = T U ; T = a ; U = b | ;", [][]int{{end}, {1, end}, {end}}},
		{"S = T U c ; T = a ; U = b | ;", [][]int{{end}, {1, 2}, {2}}},
		{"S = T U V ; T = a ; U = b | ; V = c | ;", [][]int{{end}, {1, 2, end}, {2, end}, {end}}},
		{"S = T U V ; T = a ; U = b | ; V = c ;", [][]int{{end}, {1, 2}, {2}, {end}}},
		{"S = T T ; T = a | b ;", [][]int{{end}, {0, 1, end}}},
		{"S = T T d ; T = a | b ;", [][]int{{end}, {0, 1, 3}}},
		{"S = T d ; T = a T | T b | c ;", [][]int{{end}, {1, 3}}},
		{"S = T a ; T = U ; U = V ; V = S b ;", [][]int{{1, end}, {0}, {0}, {0}}},
		{"S = a T b | c T d | e S f ; T = ;", [][]int{{5, end}, {1, 3}}},
		{"S = a ; T = b ;", [][]int{{end}, nil}},
		{"S = a ; T = T ;", [][]int{{end}, nil}},
		{"S = a ; T = T b | U ; U = c ;", [][]int{{end}, {1}, {1}}},
		{"S = a ; T = S b ;", [][]int{{1, end}, nil}},
		{"S = a ; T = S ;", [][]int{{end}, nil}},
		{"S = a ; T = S U ; U = S c | ;", [][]int{{0, 2, end}, nil, nil}},
		{"S = T U | U ; T = a ; U = U z ;", [][]int{{end}, nil, {25, end}}},
		{"S = a? b ;", [][]int{{end}, {1}}},
		{"S = a* ;", [][]int{{end}, {end}}},
	} {
		g := gramFrom(t, x.s)
		for k, want := range x.want {
			wantList(t, g, fmt.Sprint(x.s, " FollowOf ", k), impl.FollowOf(g, k), want)
		}
		asPlainly(t, g)
	}
}

func TestStarts(t *testing.T) {
	for _, x := range []struct {
		s    string
		want [][]int
	}{
		{"S = a ;", [][]int{nil}},
		{"S = ;", [][]int{nil}},
		{"S = a S | b S S ;", [][]int{nil}},
		{"S = S ;", [][]int{{0}}},
		{"S = S a | b ;", [][]int{{0}}},
		{"S = b | S a ;", [][]int{{0}}},
		{"S = T ; T = a ;", [][]int{{1}, nil}},
		{"S = T ; T = S ;", [][]int{{0, 1}, {0, 1}}},
		{"S = T ; T = U a ; U = S b | c ;", [][]int{{0, 1, 2}, {0, 1, 2}, {0, 1, 2}}},
		{"S = T ; T = U ; U = T ;", [][]int{{1, 2}, {1, 2}, {1, 2}}},
		{"S = T S ; T = a | ;", [][]int{{0, 1}, nil}},
		{"S = T S ; T = a ;", [][]int{{1}, nil}},
		{"S = T a S ; T = | b ;", [][]int{{1}, nil}},
		{"S = T U S b | c ; T = a | ; U = T T ;", [][]int{{0, 1, 2}, nil, {1}}},
		{"S = T U S b | c ; T = a | ; U = T d T ;", [][]int{{1, 2}, nil, {1}}},
		{"S = a T | U ; T = S ; U = a S | V T ; V = ;", [][]int{{0, 1, 2, 3}, {0, 1, 2, 3}, {0, 1, 2, 3}, nil}},
		{"S = a U | T ; T = b U ; U = S | T ;", [][]int{{1}, nil, {0, 1}}},
		{"S = T V | U ; T = ; U = u ; V = V v | ;", [][]int{{1, 2, 3}, nil, nil, {3}}},
		{"S = a ; T = U T ; U = b ;", [][]int{nil, {2}, nil}},
		{"S = a? b* c+ S ;", [][]int{{1, 2, 3}, nil, nil, nil}},
	} {
		g := gramFrom(t, x.s)
		for k, want := range x.want {
			wantList(t, g, fmt.Sprint(x.s, " Starts ", k), impl.Starts(g, k), want)
		}
		asPlainly(t, g)
	}
}

func TestFollowOfAndStartsWhereThereIsNoSuchPart(t *testing.T) {
	for n := 1; n <= 20; n++ {
		g := gramOf(slices.Repeat([][][]int{altsOf([]int{100, 0, 100 + n - 1, 100}, nil)}, n)...)
		for _, k := range []int{math.MinInt, math.MinInt + 1, -1000, -100, -27, -20, -2, -1, n, n + 1, 20, 21, 26, 27, 100, 101, 99 + n, 1000, math.MaxInt - 99, math.MaxInt} {
			wantList(t, g, fmt.Sprint("FollowOf ", k), impl.FollowOf(g, k), nil)
			wantList(t, g, fmt.Sprint("Starts ", k), impl.Starts(g, k), nil)
		}
		for k := range n {
			if len(impl.Starts(g, k)) == 0 {
				t.Error("Starts", n, k)
			}
		}
		wantList(t, g, "FollowOf the last part", impl.FollowOf(g, n-1), []int{0, 26})
	}
}

// renumbered gives part k the number to[k].
func renumbered(g impl.Gram, to []int) impl.Gram {
	out := impl.Gram{Parts: make([][][]int, len(g.Parts))}
	for k, alts := range copyOfGram(g).Parts {
		for _, row := range alts {
			for i, s := range row {
				if s >= 100 {
					row[i] = 100 + to[s-100]
				}
			}
		}
		out.Parts[to[k]] = alts
	}
	return out
}

// orders are ways to number twenty parts with the first one first: upward, downward, and by chance.
func orders() [][]int {
	down := []int{0}
	for k := 19; k > 0; k-- {
		down = append(down, k)
	}
	out := [][]int{upTo(20), down}
	r := rand.New(rand.NewSource(51))
	for range 30 {
		order := []int{0}
		for _, k := range r.Perm(19) {
			order = append(order, k+1)
		}
		out = append(out, order)
	}
	return out
}

// ladder has a part k for each number below twenty, whose rows made tells; next is the symbol of the one behind it.
func ladder(made func(k, next int) [][]int, last [][]int) impl.Gram {
	var g impl.Gram
	for k := range 19 {
		g.Parts = append(g.Parts, made(k, 101+k))
	}
	g.Parts = append(g.Parts, last)
	return g
}

func TestWhatGoesThroughAllParts(t *testing.T) {
	plainly := func(k, next int) [][]int { return altsOf([]int{next, next}) }
	empty := ladder(plainly, altsOf(nil))
	letter := ladder(plainly, altsOf([]int{25}))
	begins := ladder(func(k, next int) [][]int { return altsOf([]int{k}, []int{next, 24}) }, altsOf([]int{19}))
	ends := ladder(func(k, next int) [][]int { return altsOf([]int{24, next}, []int{next, k}) }, altsOf(nil))
	ring := ladder(func(k, next int) [][]int { return altsOf([]int{next, k}) }, altsOf([]int{100, 19}))
	hidden := ladder(func(k, next int) [][]int { return altsOf([]int{next, next, 100, k}, nil) }, altsOf([]int{23}, nil))
	for _, to := range orders() {
		g := renumbered(empty, to)
		wantList(t, g, "Empties", impl.Empties(g), upTo(20))
		g = renumbered(letter, to)
		wantList(t, g, "Empties", impl.Empties(g), nil)
		wantList(t, g, "FirstOf", impl.FirstOf(g, []int{100}), []int{25})
		wantList(t, g, "Starts", impl.Starts(g, 0), upTo(20)[1:])
		wantList(t, g, "FollowOf", impl.FollowOf(g, to[19]), []int{25, 26})
		g = renumbered(begins, to)
		wantList(t, g, "FirstOf", impl.FirstOf(g, []int{100}), upTo(20))
		g = renumbered(ends, to)
		wantList(t, g, "FollowOf", impl.FollowOf(g, to[19]), append(upTo(19), 26))
		wantList(t, g, "FollowOf", impl.FollowOf(g, 0), []int{26})
		g = renumbered(ring, to)
		for k := range 20 {
			wantList(t, g, "Starts", impl.Starts(g, k), upTo(20))
			wantList(t, g, "FirstOf", impl.FirstOf(g, []int{100 + k}), nil)
		}
		for _, base := range []impl.Gram{empty, letter, begins, ends, ring, hidden} {
			asPlainly(t, renumbered(base, to), []int{100, 22}, []int{119, 100, 22})
		}
	}
}

// randomGram has at most so many parts, alternatives of each, and symbols in a row.
func randomGram(r *rand.Rand, parts, alts, long int) impl.Gram {
	var g impl.Gram
	n := 1 + r.Intn(parts)
	for range n {
		var rows [][]int
		for range 1 + r.Intn(alts) {
			rows = append(rows, randomRow(r, n, r.Intn(long+1)))
		}
		g.Parts = append(g.Parts, rows)
	}
	return g
}

func randomRow(r *rand.Rand, parts, long int) []int {
	var row []int
	for range long {
		s := r.Intn(26)
		if r.Intn(3) > 0 {
			s = 100 + r.Intn(parts)
		}
		row = append(row, s)
	}
	return row
}

func TestFirstOfRandomGrammars(t *testing.T) {
	r := rand.New(rand.NewSource(52))
	for i := range 4000 {
		g := randomGram(r, []int{3, 6, 12, 20}[i%4], 1+i%5, 1+i%4)
		n := len(g.Parts)
		rows := [][]int{nil, randomRow(r, n, 3), randomRow(r, n, 12)}
		wrong := randomRow(r, n, 4)
		wrong[r.Intn(4)] = noSymbols(n)[r.Intn(16)]
		asPlainly(t, g, append(rows, wrong)...)
		if i%10 == 0 {
			alts := g.Parts[r.Intn(n)]
			alts[r.Intn(len(alts))] = wrong
			asPlainly(t, g, rows...)
		}
	}
	for range 20 {
		var full impl.Gram
		for range 20 {
			var rows [][]int
			for range 8 {
				rows = append(rows, randomRow(r, 20, 8))
			}
			full.Parts = append(full.Parts, rows)
		}
		full.Parts[r.Intn(20)][r.Intn(8)] = nil
		asPlainly(t, full)
	}
}

// formsOf are the rows of at most long symbols that come of such rows where parts become their alternatives, one at a time.
func formsOf(g impl.Gram, rows [][]int, long int) [][]int {
	var out [][]int
	seen := map[string]bool{}
	add := func(row []int) {
		var key []byte
		for _, s := range row {
			key = append(key, byte(s))
		}
		if len(row) <= long && !seen[string(key)] {
			seen[string(key)] = true
			out = append(out, row)
		}
	}
	for _, row := range rows {
		add(row)
	}
	for at := 0; at < len(out); at++ {
		row := out[at]
		for i, s := range row {
			if s < 100 {
				continue
			}
			for _, alt := range g.Parts[s-100] {
				add(slices.Concat(row[:i], alt, row[i+1:]))
			}
		}
	}
	return out
}

func setOf(numbers []int) []int {
	slices.Sort(numbers)
	return slices.Compact(numbers)
}

// beginsIn tells what the rows begin with: letters, and the numbers of parts; and whether one of them is empty.
func beginsIn(forms [][]int) (letters, parts []int, empty bool) {
	for _, row := range forms {
		switch {
		case len(row) == 0:
			empty = true
		case row[0] < 100:
			letters = append(letters, row[0])
		default:
			parts = append(parts, row[0]-100)
		}
	}
	return setOf(letters), setOf(parts), empty
}

// behindIn tells which letters stand behind part k in the rows, and End where it stands at the end of one.
func behindIn(forms [][]int, k int) []int {
	var out []int
	for _, row := range forms {
		for i, s := range row {
			if s != 100+k {
				continue
			}
			if i == len(row)-1 {
				out = append(out, 26)
			} else if row[i+1] < 100 {
				out = append(out, row[i+1])
			}
		}
	}
	return setOf(out)
}

// A toldList is what a function told, and what was seen of it in rows of bounded length.
type toldList struct {
	call       string
	told, seen []int
}

func flag(is bool) []int {
	if is {
		return []int{1}
	}
	return nil
}

// toldAndSeen asks a grammar all of whose parts are reached, and looks at all that comes of it in rows of at most long symbols.
func toldAndSeen(g impl.Gram, long int) []toldList {
	all := formsOf(g, [][]int{{100}}, long)
	var out []toldList
	var empties []int
	for k, alts := range g.Parts {
		letters, parts, empty := beginsIn(formsOf(g, alts, long))
		if empty {
			empties = append(empties, k)
		}
		out = append(out,
			toldList{fmt.Sprint("FirstOf part ", k), impl.FirstOf(g, []int{100 + k}), letters},
			toldList{fmt.Sprint("Starts ", k), impl.Starts(g, k), parts},
			toldList{fmt.Sprint("FollowOf ", k), impl.FollowOf(g, k), behindIn(all, k)})
		for _, row := range alts {
			letters, _, empty := beginsIn(formsOf(g, [][]int{row}, long))
			out = append(out,
				toldList{fmt.Sprint("FirstOf ", row), impl.FirstOf(g, row), letters},
				toldList{fmt.Sprint("EmptyRow ", row), flag(impl.EmptyRow(g, row)), flag(empty)})
		}
	}
	return append(out, toldList{"Empties", impl.Empties(g), empties})
}

// justWhatCan looks at longer rows until all that is told is seen; whatever is seen must be told at once.
func justWhatCan(t *testing.T, g impl.Gram, from, longest int) {
	t.Helper()
	for long := from; ; long++ {
		missing := 0
		for _, x := range toldAndSeen(g, long) {
			if !slices.Equal(x.told, x.seen) {
				missing++
			}
			for _, n := range x.seen {
				if !slices.Contains(x.told, n) {
					t.Fatalf("%s of %v = %v, but %v comes", x.call, g, x.told, n)
				}
			}
			if missing > 0 && long == longest {
				t.Fatalf("%s of %v = %v, but only %v come", x.call, g, x.told, x.seen)
			}
		}
		if missing == 0 {
			return
		}
	}
}

// reachesAll tells whether each part stands in what part 0 becomes.
func reachesAll(g impl.Gram) bool {
	met := []int{0}
	for at := 0; at < len(met); at++ {
		for _, s := range slices.Concat(g.Parts[met[at]]...) {
			if s >= 100 && !slices.Contains(met, s-100) {
				met = append(met, s-100)
			}
		}
	}
	return len(met) == len(g.Parts)
}

// altsFrom are all parts of one or two of such rows.
func altsFrom(rows [][]int) [][][]int {
	var out [][][]int
	for i, a := range rows {
		out = append(out, altsOf(a))
		for _, b := range rows[:i] {
			out = append(out, altsOf(a, b))
		}
	}
	return out
}

func TestWhatCanComeFirstAndBehindIsJustWhatCan(t *testing.T) {
	done := 0
	for _, first := range altsFrom(listsOf([]int{0, 100, 101}, 2)) {
		for _, second := range altsFrom(listsOf([]int{1, 100, 101}, 2)) {
			g := gramOf(first, second)
			if reachesAll(g) {
				justWhatCan(t, g, 3, 8)
				done++
			}
		}
	}
	if done < 5000 {
		t.Error("too few grammars", done)
	}
}

func TestWhatIsToldOfRandomGrammarsIsJustWhatCan(t *testing.T) {
	r := rand.New(rand.NewSource(53))
	done := 0
	for done < 2000 {
		if g := randomGram(r, 3, 2, 2); len(g.Parts) > 1 && reachesAll(g) {
			justWhatCan(t, g, 3, 9)
			done++
		}
	}
}

func holdsAll(set, of []int) bool {
	return !slices.ContainsFunc(of, func(n int) bool { return !slices.Contains(set, n) })
}

// joinedFirst is what one of the rows can begin with.
func joinedFirst(g impl.Gram, rows [][]int) []int {
	var out []int
	for _, row := range rows {
		out = append(out, impl.FirstOf(g, row)...)
	}
	return setOf(out)
}

func TestWhatAPartBeginsWithIsWhatAnAlternativeDoes(t *testing.T) {
	r := rand.New(rand.NewSource(54))
	for range 3000 {
		g := randomGram(r, 8, 3, 3)
		for k, alts := range g.Parts {
			wantList(t, g, fmt.Sprint("FirstOf part ", k), impl.FirstOf(g, []int{100 + k}), joinedFirst(g, alts))
			empty := slices.ContainsFunc(alts, func(row []int) bool { return impl.EmptyRow(g, row) })
			if slices.Contains(impl.Empties(g), k) != empty || impl.EmptyRow(g, []int{100 + k}) != empty {
				t.Fatalf("part %d of %v becomes nothing as none of its alternatives does, or not as one does", k, g)
			}
			starts := impl.Starts(g, k)
			for _, row := range alts {
				for i, s := range row {
					if s >= 100 && impl.EmptyRow(g, row[:i]) && !(slices.Contains(starts, s-100) && holdsAll(starts, impl.Starts(g, s-100))) {
						t.Fatalf("Starts(%v, %d) = %v, but %v begins with %d", g, k, starts, row, s)
					}
				}
			}
		}
	}
}

func TestWhatStandsBehindAPartCanStandBehindIt(t *testing.T) {
	r := rand.New(rand.NewSource(55))
	for range 3000 {
		g := randomGram(r, 8, 3, 3)
		if !slices.Contains(impl.FollowOf(g, 0), impl.End) {
			t.Fatalf("FollowOf(%v, 0) has no End", g)
		}
		for k, alts := range g.Parts {
			for _, row := range alts {
				for i, s := range row {
					if s < 100 {
						continue
					}
					follow, behind := impl.FollowOf(g, s-100), row[i+1:]
					if !holdsAll(follow, impl.FirstOf(g, behind)) || impl.EmptyRow(g, behind) && !holdsAll(follow, impl.FollowOf(g, k)) {
						t.Fatalf("FollowOf(%v, %d) = %v, but %v stands behind it in %v", g, s-100, follow, behind, row)
					}
				}
			}
		}
	}
}

func TestWhatIsToldIsAscendingAndOnce(t *testing.T) {
	r := rand.New(rand.NewSource(56))
	inside := func(list []int, most int) bool {
		ok := true
		for i, n := range list {
			ok = ok && n >= 0 && n <= most && (i == 0 || list[i-1] < n)
		}
		return ok
	}
	for range 1000 {
		g := randomGram(r, 20, 8, 8)
		last := len(g.Parts) - 1
		ok := inside(impl.Empties(g), last) && inside(impl.FirstOf(g, randomRow(r, last+1, 5)), 25)
		for k := range g.Parts {
			ok = ok && inside(impl.FollowOf(g, k), 26) && inside(impl.Starts(g, k), last)
		}
		if !ok {
			t.Fatalf("what is told of %v is not ascending, or there twice", g)
		}
	}
}

func TestFirstIsNewMemoryAndNothingIsWritten(t *testing.T) {
	r := rand.New(rand.NewSource(57))
	calls := []struct {
		name string
		tell func(g impl.Gram, row []int) []int
	}{
		{"Empties", func(g impl.Gram, row []int) []int { return impl.Empties(g) }},
		{"EmptyRow", func(g impl.Gram, row []int) []int { return flag(impl.EmptyRow(g, row)) }},
		{"FirstOf", func(g impl.Gram, row []int) []int { return impl.FirstOf(g, row) }},
		{"FollowOf", func(g impl.Gram, row []int) []int { return impl.FollowOf(g, len(g.Parts)-1) }},
		{"Starts", func(g impl.Gram, row []int) []int { return impl.Starts(g, 0) }},
	}
	for i := range 1000 {
		plain := randomGram(r, 6, 3, 3)
		if i%10 == 0 {
			plain.Parts[0][0] = []int{0, 99}
		}
		numbers := randomRow(r, len(plain.Parts), r.Intn(5))
		for _, x := range calls {
			g, row := guardGram(plain), guard("a row", numbers)
			answer := x.tell(g.gram, row.list)
			again := x.tell(g.gram, row.list)
			g.unchanged(t, x.name)
			row.unchanged(t, x.name)
			if !slices.Equal(answer, again) {
				t.Fatalf("%s of %v tells %v and then %v", x.name, plain, answer, again)
			}
			if a, b := memoryOf(answer), memoryOf(again); a.from < b.to && b.from < a.to {
				t.Fatalf("%s of %v: two answers share memory", x.name, plain)
			}
			ownMemory(t, x.name, answer, append(g.lists(), row)...)
		}
	}
}
