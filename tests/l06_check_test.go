package tests

import (
	"fmt"
	"math"
	"math/rand"
	"slices"
	"strings"
	"testing"

	"loop.example/g00485/impl"
)

// The functions as the document writes them down.
var (
	_ func(impl.Gram) []int              = impl.Productive
	_ func(impl.Gram) []int              = impl.Reachable
	_ func(impl.Gram) int                = impl.Check
	_ func(string) (impl.Gram, int, int) = impl.Load
)

func TestConstantsOfChecks(t *testing.T) {
	codes := []int{impl.CkOk, impl.CkBad, impl.CkLoop, impl.CkDead, impl.CkFar}
	if !slices.Equal(codes, []int{0, 1, 2, 3, 4}) {
		t.Error("codes", codes)
	}
}

// productivePlainly are the parts that become letters by trees no higher than there are parts: a higher one has a part above itself.
func productivePlainly(g impl.Gram) []int {
	var out []int
	for range g.Parts {
		stays := func(s int) bool { return s >= 100 && !slices.Contains(out, s-100) }
		var next []int
		for k, alts := range g.Parts {
			if slices.ContainsFunc(alts, func(row []int) bool { return !slices.ContainsFunc(row, stays) }) {
				next = append(next, k)
			}
		}
		out = next
	}
	return out
}

// reachablePlainly are the parts to which a way leads from part 0, by way of each part in its turn.
func reachablePlainly(g impl.Gram) []int {
	n := len(g.Parts)
	way := make([][]bool, n)
	for k, alts := range g.Parts {
		way[k] = make([]bool, n)
		way[k][k] = true
		for _, s := range slices.Concat(alts...) {
			if s >= 100 {
				way[k][s-100] = true
			}
		}
	}
	for by := range n {
		for from := range n {
			for to := range n {
				way[from][to] = way[from][to] || way[from][by] && way[by][to]
			}
		}
	}
	return slices.DeleteFunc(upTo(n), func(k int) bool { return !way[0][k] })
}

// reasonsPlainly are the codes that apply, the one that the document names first ahead.
func reasonsPlainly(g impl.Gram) []int {
	if !okPlainly(g) {
		return []int{1}
	}
	var out []int
	empties := emptiesPlainly(g)
	if slices.ContainsFunc(upTo(len(g.Parts)), func(k int) bool { return slices.Contains(startsPlainly(g, k, empties), k) }) {
		out = append(out, 2)
	}
	if len(productivePlainly(g)) < len(g.Parts) {
		out = append(out, 3)
	}
	if len(reachablePlainly(g)) < len(g.Parts) {
		out = append(out, 4)
	}
	return append(out, 0)
}

// checkedPlainly holds all that is told of a grammar against what the document says, and tells the code.
func checkedPlainly(t *testing.T, g impl.Gram) int {
	t.Helper()
	var productive, reachable []int
	if okPlainly(g) {
		productive, reachable = productivePlainly(g), reachablePlainly(g)
	}
	wantList(t, g, "Productive", impl.Productive(g), productive)
	wantList(t, g, "Reachable", impl.Reachable(g), reachable)
	code := impl.Check(g)
	if want := reasonsPlainly(g)[0]; code != want {
		t.Fatalf("Check(%v) = %d, want %d", g, code, want)
	}
	return code
}

func TestChecksOfGrammarsThatAreNotOk(t *testing.T) {
	one := altsOf([]int{0}, nil)
	for _, g := range []impl.Gram{
		{},
		gramOf([][][]int{}...),
		gramOf(nil),
		gramOf([][]int{}),
		gramOf(one, nil),
		gramOf(one, [][]int{}),
		gramOf(nil, one),
		gramOf(altsOf([]int{101})),
		gramOf(altsOf([]int{0, 101}, nil), altsOf([]int{102})),
		gramOf(altsOf(nil, []int{26})),
		gramOf(altsOf(nil, []int{0, -1})),
		gramOf(altsOf(nil, []int{99})),
		gramOf(altsOf(nil, []int{120})),
		gramOf(altsOf(nil, []int{127})),
		gramOf(altsOf(nil, []int{math.MaxInt})),
		gramOf(altsOf(nil, []int{math.MinInt})),
		gramOf(make([][]int, 9)),
		gramOf(altsOf(nil, make([]int, 9))),
		gramOf(slices.Repeat([][][]int{one}, 21)...),
		gramOf(slices.Repeat([][][]int{altsOf([]int{0, 120})}, 21)...),
		gramOf(slices.Repeat([][][]int{one}, 40)...),
		gramOf(make([][][]int, 1000)...),
	} {
		if got := impl.Productive(g); len(got) != 0 {
			t.Errorf("Productive(%v) = %v", g, got)
		}
		if got := impl.Reachable(g); len(got) != 0 {
			t.Errorf("Reachable(%v) = %v", g, got)
		}
		if got := impl.Check(g); got != impl.CkBad {
			t.Errorf("Check(%v) = %d", g, got)
		}
		checkedPlainly(t, g)
	}
}

func TestProductive(t *testing.T) {
	for _, x := range []struct {
		s    string
		want []int
	}{
		{"S = a ;", []int{0}},
		{"S = ;", []int{0}},
		{"S = z y x ;", []int{0}},
		{"S = a S | ;", []int{0}},
		{"S = | a S ;", []int{0}},
		{"S = a S ;", nil},
		{"S = S ;", nil},
		{"S = S a | a S | S S ;", nil},
		{"S = S | b ;", []int{0}},
		{"S = T ; T = S ;", nil},
		{"S = a T ; T = b U ; U = c S | T ;", nil},
		{"S = a T b ; T = c ;", []int{0, 1}},
		{"S = T ; T = U ; U = V ; V = ;", []int{0, 1, 2, 3}},
		{"S = T ; T = U ; U = V ; V = d ;", []int{0, 1, 2, 3}},
		{"S = a ; T = S ; U = T S ; V = U T S ;", []int{0, 1, 2, 3}},
		{"S = a T | b ; T = a T ; U = S ;", []int{0, 2}},
		{"S = a T ; T = a T ; U = b ;", []int{2}},
		{"S = T U ; T = a ; U = U ;", []int{1}},
		{"S = U T ; T = a ; U = U ;", []int{1}},
		{"S = T ; T = a | S ; U = V ; V = U ;", []int{0, 1}},
		{"S = U ; T = V | U ; U = T ; V = a | V ;", []int{0, 1, 2, 3}},
		{"S = T a T b T c T ; T = T T | ;", []int{0, 1}},
		{"S = a a a a a a a T ; T = T ;", nil},
		{"S = T a a a a a a a ; T = T ;", nil},
		{"S = a b | T ; T = a b T ;", []int{0}},
		{"S = T | a b ; T = a b T ;", []int{0}},
		{"S = a? S ;", []int{1}},
		{"S = (a S)* (a S)? ;", []int{0, 1, 2}},
		{"S = (a S)+ ;", nil},
	} {
		g := gramFrom(t, x.s)
		wantList(t, g, x.s+" Productive", impl.Productive(g), x.want)
		checkedPlainly(t, g)
	}
}

func TestReachable(t *testing.T) {
	for _, x := range []struct {
		s    string
		want []int
	}{
		{"S = a ;", []int{0}},
		{"S = ;", []int{0}},
		{"S = S ;", []int{0}},
		{"S = a ; T = b ;", []int{0}},
		{"S = a ; T = S ;", []int{0}},
		{"S = a S | b ; T = S U ; U = T S ;", []int{0}},
		{"S = T ; T = a ;", []int{0, 1}},
		{"S = T ; T = S ;", []int{0, 1}},
		{"S = a T | b ; T = a T ; U = S ;", []int{0, 1}},
		{"S = U ; T = a ; U = T ;", []int{0, 1, 2}},
		{"S = W ; T = a ; U = T ; V = U ; W = V ;", []int{0, 1, 2, 3, 4}},
		{"S = W ; T = S ; U = a ; V = T ; W = U ;", []int{0, 2, 4}},
		{"S = a ; T = U ; U = V ; V = T ;", []int{0}},
		{"S = a a a a a a a T | b ; T = c | c | c | c | c | c | c | U ; U = ;", []int{0, 1, 2}},
		{"S = a | b | T U | c ; T = ; U = d V e ; V = V ; W = V ;", []int{0, 1, 2, 3}},
		{"S = a? b* c+ ;", []int{0, 1, 2, 3}},
		{"S = a ; T = b? c* ;", []int{0}},
		{"S = a? ; T = b? ;", []int{0, 2}},
	} {
		g := gramFrom(t, x.s)
		wantList(t, g, x.s+" Reachable", impl.Reachable(g), x.want)
		checkedPlainly(t, g)
	}
}

func TestCheckOfOneReason(t *testing.T) {
	for _, x := range []struct {
		s    string
		want int
	}{
		{"S = a ;", impl.CkOk},
		{"S = ;", impl.CkOk},
		{"S = a S b | ;", impl.CkOk},
		{"S = a S S | b ;", impl.CkOk},
		{"S = T S | a ; T = b ;", impl.CkOk},
		{"S = T a S | ; T = b | ;", impl.CkOk},
		{"S = a T ; T = b S | ;", impl.CkOk},
		{"S = T U T U ; T = ; U = T T | a ;", impl.CkOk},
		{"S = (a | b)* c? d+ ;", impl.CkOk},
		{"S = S a | b ;", impl.CkLoop},
		{"S = b | a | S ;", impl.CkLoop},
		{"S = S | ;", impl.CkLoop},
		{"S = S S | a ;", impl.CkLoop},
		{"S = T | a ; T = S b | c ;", impl.CkLoop},
		{"S = T a | a ; T = U b | b ; U = S c | c ;", impl.CkLoop},
		{"S = a T ; T = U | b ; U = T | c ;", impl.CkLoop},
		{"S = a T ; T = T b | b ;", impl.CkLoop},
		{"S = T S b | c ; T = a? ;", impl.CkLoop},
		{"S = T T T T T T T S | a ; T = ;", impl.CkLoop},
		{"S = T U S | a ; T = b | ; U = T T ;", impl.CkLoop},
		{"S = T U | a ; T = b | ; U = T S | c ;", impl.CkLoop},
		{"S = (a?)* ;", impl.CkLoop},
		{"S = (a*)+ ;", impl.CkLoop},
		{"S = ()* ;", impl.CkLoop},
		{"S = a S ;", impl.CkDead},
		{"S = a T ; T = b T ;", impl.CkDead},
		{"S = a T | b ; T = b U | b U U ; U = c T ;", impl.CkDead},
		{"S = a T | b U ; T = c ; U = d U ;", impl.CkDead},
		{"S = a ; T = b ;", impl.CkFar},
		{"S = a ; T = S ;", impl.CkFar},
		{"S = a S | ; T = a U ; U = b T | c ;", impl.CkFar},
		{"S = a U ; T = b ; U = c ;", impl.CkFar},
	} {
		g := gramFrom(t, x.s)
		if got := checkedPlainly(t, g); got != x.want {
			t.Errorf("Check of %q = %d, want %d", x.s, got, x.want)
		}
		if reasons := reasonsPlainly(g); len(reasons) > 2 {
			t.Errorf("%q has several reasons: %v", x.s, reasons)
		}
	}
}

func TestCheckOfSeveralReasons(t *testing.T) {
	for _, x := range []struct {
		s    string
		want []int
	}{
		{"S = S ;", []int{2, 3, 0}},
		{"S = S a ;", []int{2, 3, 0}},
		{"S = T ; T = S ;", []int{2, 3, 0}},
		{"S = a T | b U ; T = a T ; U = U a | b ;", []int{2, 3, 0}},
		{"S = a T | b U ; T = T a | b ; U = a U ;", []int{2, 3, 0}},
		{"S = a ; T = T b | b ;", []int{2, 4, 0}},
		{"S = S a | a ; T = b ;", []int{2, 4, 0}},
		{"S = a U ; T = b ; U = c | U c ;", []int{2, 4, 0}},
		{"S = a ; T = a T ;", []int{3, 4, 0}},
		{"S = a S ; T = b ;", []int{3, 4, 0}},
		{"S = a U ; T = b ; U = c U ;", []int{3, 4, 0}},
		{"S = a ; T = b U ; U = b U ;", []int{3, 4, 0}},
		{"S = a ; T = T ;", []int{2, 3, 4, 0}},
		{"S = S ; T = b ;", []int{2, 3, 4, 0}},
		{"S = a S ; T = b ; U = T | V ; V = V | c ;", []int{2, 3, 4, 0}},
	} {
		g := gramFrom(t, x.s)
		if got := checkedPlainly(t, g); got != x.want[0] || !slices.Equal(reasonsPlainly(g), x.want) {
			t.Errorf("Check of %q = %d, want the first of %v", x.s, got, x.want)
		}
	}
	loop, dead, wrong := altsOf([]int{100}), altsOf([]int{0, 101}), altsOf([]int{26})
	for _, g := range []impl.Gram{
		gramOf(loop, wrong), gramOf(wrong, altsOf([]int{101})), gramOf(loop, dead, altsOf([]int{0}), wrong), gramOf(loop, dead, nil),
		gramOf(altsOf([]int{0}), dead, wrong), gramOf(altsOf([]int{0}), altsOf([]int{1}), wrong), gramOf(slices.Repeat([][][]int{loop}, 21)...),
	} {
		if got := checkedPlainly(t, g); got != impl.CkBad {
			t.Errorf("Check(%v) = %d, want CkBad", g, got)
		}
	}
}

// allOrders are the orders of n numbers with the first one first.
func allOrders(n int) [][]int {
	if n == 1 {
		return [][]int{{0}}
	}
	var out [][]int
	for _, order := range allOrders(n - 1) {
		for at := 1; at <= len(order); at++ {
			out = append(out, slices.Insert(slices.Clone(order), at, n-1))
		}
	}
	return out
}

// The code that is named first is told wherever the parts stand that are refused.
func TestCheckHangsOnTheCodeAndNotOnThePlace(t *testing.T) {
	for which := range 8 {
		g := gramOf(altsOf([]int{0}, []int{1, 101}, []int{2, 102}, []int{4, 104}, []int{3, 103}),
			altsOf([]int{1, 101}, nil), altsOf([]int{0, 102}, []int{2}), altsOf([]int{3}), altsOf([]int{4}))
		want := impl.CkOk
		if which&1 > 0 {
			g.Parts[0] = g.Parts[0][:4]
			want = impl.CkFar
		}
		if which&2 > 0 {
			g.Parts[2] = altsOf([]int{0, 102}, []int{2, 102})
			want = impl.CkDead
		}
		if which&4 > 0 {
			g.Parts[1] = altsOf([]int{101, 1}, nil)
			want = impl.CkLoop
		}
		for _, to := range allOrders(5) {
			if got := checkedPlainly(t, renumbered(g, to)); got != want {
				t.Fatalf("Check(%v) = %d, want %d", renumbered(g, to), got, want)
			}
		}
	}
}

func TestChecksThatGoThroughAllParts(t *testing.T) {
	step := func(k, next int) [][]int { return altsOf([]int{k, next}) }
	chain := ladder(step, altsOf([]int{19}))
	dead := ladder(step, altsOf([]int{19, 119}))
	ring := ladder(step, altsOf([]int{19, 100}))
	bare := ladder(func(k, next int) [][]int { return altsOf([]int{next, next}) }, altsOf(nil))
	loop := ladder(func(k, next int) [][]int { return altsOf([]int{next, k}, []int{k}) }, altsOf([]int{100, 19}, []int{19}))
	hidden := ladder(func(k, next int) [][]int { return altsOf([]int{next, 100, k}, nil) }, altsOf(nil))
	short := ladder(func(k, next int) [][]int {
		if k == 9 {
			return altsOf([]int{9})
		}
		return altsOf([]int{k, next})
	}, altsOf([]int{19}))
	for _, x := range []struct {
		g                     impl.Gram
		productive, reachable []int
		code                  int
	}{
		{chain, upTo(20), upTo(20), 0},
		{bare, upTo(20), upTo(20), 0},
		{dead, nil, upTo(20), 3},
		{ring, nil, upTo(20), 3},
		{loop, upTo(20), upTo(20), 2},
		{hidden, upTo(20), upTo(20), 2},
		{short, upTo(20), upTo(10), 4},
	} {
		for _, to := range orders() {
			g := renumbered(x.g, to)
			var reachable []int
			for _, k := range x.reachable {
				reachable = append(reachable, to[k])
			}
			wantList(t, g, "Productive", impl.Productive(g), x.productive)
			wantList(t, g, "Reachable", impl.Reachable(g), setOf(reachable))
			if got := checkedPlainly(t, g); got != x.code {
				t.Fatalf("Check(%v) = %d, want %d", g, got, x.code)
			}
		}
	}
}

func TestChecksOfRandomGrammars(t *testing.T) {
	r := rand.New(rand.NewSource(61))
	met := make([]int, 5)
	for i := range 20000 {
		g := randomGram(r, []int{2, 3, 6, 20}[i%4], 1+i%5, 1+i%4)
		if i%10 == 0 {
			alts := g.Parts[r.Intn(len(g.Parts))]
			alts[0] = append(alts[0], noSymbols(len(g.Parts))[r.Intn(16)])
		}
		// A letter ahead of each row leaves the other codes a chance.
		if i%3 == 0 {
			for _, alts := range g.Parts {
				for a, row := range alts {
					alts[a] = append([]int{r.Intn(26)}, row...)
				}
			}
		}
		met[checkedPlainly(t, g)]++
	}
	if slices.Min(met) < 500 {
		t.Error("too few of a code", met)
	}
	for range 20 {
		var full impl.Gram
		for range 20 {
			var rows [][]int
			for range 8 {
				rows = append(rows, randomRow(r, 20, 8))
			}
			full.Parts = append(full.Parts, rows)
		}
		checkedPlainly(t, full)
		full.Parts[r.Intn(20)][r.Intn(8)] = []int{7}
		checkedPlainly(t, full)
	}
}

// checksSeen are what is told of the parts, and what is seen of them in rows of at most long symbols.
func checksSeen(g impl.Gram, long int) []toldList {
	var productive, reached, round, starts []int
	for _, row := range formsOf(g, [][]int{{100}}, long) {
		for _, s := range row {
			if s >= 100 {
				reached = append(reached, s-100)
			}
		}
	}
	for k, alts := range g.Parts {
		forms := formsOf(g, alts, long)
		if slices.ContainsFunc(forms, func(row []int) bool { return len(row) == 0 || slices.Max(row) < 100 }) {
			productive = append(productive, k)
		}
		if slices.ContainsFunc(forms, func(row []int) bool { return len(row) > 0 && row[0] == 100+k }) {
			round = append(round, k)
		}
		if slices.Contains(impl.Starts(g, k), k) {
			starts = append(starts, k)
		}
	}
	return []toldList{
		{"Productive", impl.Productive(g), productive},
		{"Reachable", impl.Reachable(g), setOf(reached)},
		{"what is among its own Starts", starts, round},
	}
}

// seenAsTold looks at longer rows until all that is told is seen; whatever is seen must be told at once. It tells the code of what was seen.
func seenAsTold(t *testing.T, g impl.Gram, longest int) int {
	t.Helper()
	for long := 3; long <= longest; long++ {
		missing := false
		list := checksSeen(g, long)
		for _, x := range list {
			missing = missing || !slices.Equal(x.told, x.seen)
			if !holdsAll(x.told, x.seen) {
				t.Fatalf("%s of %v = %v, but there are %v", x.call, g, x.told, x.seen)
			}
		}
		if missing {
			continue
		}
		switch {
		case len(list[2].seen) > 0:
			return impl.CkLoop
		case len(list[0].seen) < len(g.Parts):
			return impl.CkDead
		case len(list[1].seen) < len(g.Parts):
			return impl.CkFar
		}
		return impl.CkOk
	}
	t.Fatalf("%v: what is told is not seen: %v", g, checksSeen(g, longest))
	return -1
}

// goesOn tells whether a row can go on for more steps than most, each of which puts an alternative for a part that stands first.
func goesOn(g impl.Gram, row []int, most int) bool {
	if len(row) == 0 || row[0] < 100 {
		return false
	}
	return most == 0 || slices.ContainsFunc(g.Parts[row[0]-100], func(alt []int) bool {
		return goesOn(g, slices.Concat(alt, row[1:]), most-1)
	})
}

// goesRound tells whether a part can go on for ever without a letter. Where no part comes back, none stands above itself,
// so that there are no more steps than a tree as high as there are parts has places, each with as many below it as a row has symbols.
func goesRound(g impl.Gram, long int) bool {
	most, level := 0, 1
	for range g.Parts {
		most += level
		level *= long
	}
	return slices.ContainsFunc(upTo(len(g.Parts)), func(k int) bool { return goesOn(g, []int{100 + k}, most) })
}

// Promise 6: in a grammar that is checked nothing goes round without a letter.
func TestNothingGoesRoundWithoutALetter(t *testing.T) {
	met := make([]int, 5)
	for _, first := range altsFrom(listsOf([]int{0, 100, 101}, 2)) {
		for _, second := range altsFrom(listsOf([]int{1, 100, 101}, 2)) {
			g := gramOf(first, second)
			code := impl.Check(g)
			met[code]++
			if round := goesRound(g, 2); round != (code == impl.CkLoop) {
				t.Fatalf("Check(%v) = %d, but that it goes round is %v", g, code, round)
			}
			if want := seenAsTold(t, g, 8); code != want {
				t.Fatalf("Check(%v) = %d, want %d", g, code, want)
			}
		}
	}
	if met[0] < 100 || met[2] < 100 || met[3] < 100 || met[4] < 100 {
		t.Error("too few of a code", met)
	}
}

func TestNothingInRandomGrammarsGoesRoundWithoutALetter(t *testing.T) {
	r := rand.New(rand.NewSource(62))
	met := make([]int, 5)
	for range 3000 {
		g := randomGram(r, 3, 2, 2)
		code := impl.Check(g)
		met[code]++
		if round := goesRound(g, 2); round != (code == impl.CkLoop) {
			t.Fatalf("Check(%v) = %d, but that it goes round is %v", g, code, round)
		}
	}
	if met[0] < 100 || met[2] < 100 || met[3] < 100 || met[4] < 100 {
		t.Error("too few of a code", met)
	}
}

// loadPlainly is Load put down as the document says it.
func loadPlainly(s string) (impl.Gram, int, int) {
	rules, at := rulesPlainly(s)
	if at >= 0 {
		return impl.Gram{}, 1, at
	}
	g, code := plainPlainly(rules)
	if code != 0 {
		return impl.Gram{}, 1, -1
	}
	if code := reasonsPlainly(g)[0]; code != 0 {
		return impl.Gram{}, code, -1
	}
	return g, 0, -1
}

// sameLoad holds Load against loadPlainly, and tells the code.
func sameLoad(t *testing.T, s string) int {
	t.Helper()
	g, code, at := impl.Load(s)
	want, wantCode, wantAt := loadPlainly(s)
	if code != wantCode || at != wantAt || !sameGram(g, want) {
		t.Fatalf("Load(%q) = %v, %d, %d, want %v, %d, %d", s, g, code, at, want, wantCode, wantAt)
	}
	return code
}

// refusedBy looks whether Load refuses a text with such a code and place, and no grammar.
func refusedBy(t *testing.T, s string, wantCode, wantAt int) {
	t.Helper()
	g, code, at := impl.Load(s)
	if code != wantCode || at != wantAt || g.Parts != nil {
		t.Errorf("Load(%q) = %v, %d, %d, want no grammar, %d, %d", s, g, code, at, wantCode, wantAt)
	}
	sameLoad(t, s)
}

func TestLoadOfTextsThatAreRight(t *testing.T) {
	for _, x := range []struct{ s, want string }{
		{"S=;", "P0 =;"},
		{"S = a ;", "P0 = a;"},
		{"S = a S b | ;", "P0 = a P0 b |;"},
		{"S = a T | b ; T = c S ;", "P0 = a P1 | b;P1 = c P0;"},
		{"\n\nS = (a | b)* c? d+ ;\n", "P0 = P1 P3 P4;P1 = P2 P1 |;P2 = a | b;P3 = c |;P4 = d P4 | d;"},
		{"S=a|b|c|d|e|f|g|h;", "P0 = a | b | c | d | e | f | g | h;"},
		{"S=abcdefgh;", "P0 = a b c d e f g h;"},
		{"S=((((((a))))));", "P0 = a;"},
		{"S=aT;T=aU;U=aV;V=aW;W=aX;X=aY;Y=aZ;Z=a;", "P0 = a P1;P1 = a P2;P2 = a P3;P3 = a P4;P4 = a P5;P5 = a P6;P6 = a P7;P7 = a;"},
		{"S = a ;" + strings.Repeat(" ", 293), "P0 = a;"},
	} {
		g, code, at := impl.Load(x.s)
		if text := strings.ReplaceAll(impl.GramText(g), "\n", ";"); code != impl.CkOk || at != -1 || text != x.want {
			t.Errorf("Load(%q) = %q, %d, %d, want %q", x.s, text, code, at, x.want)
		}
		sameLoad(t, x.s)
		if plain := gramFrom(t, x.s); !sameGram(g, plain) {
			t.Errorf("Load(%q) = %v, but Plain is %v", x.s, g, plain)
		}
	}
}

func TestLoadOfTextsThatReadRulesRefuses(t *testing.T) {
	for _, x := range []struct {
		s  string
		at int
	}{
		{"", 0}, {" \n", 2}, {"S", 1}, {"S =", 3}, {"S = a", 5}, {"S = a  ", 7}, {"S = (a", 6}, {"S = a ; T", 9}, {"S = a ; T = b | ", 16},
		{"1", 0}, {"S = 1 ;", 4}, {"S = a ;\t", 7}, {"S = a ; -", 8}, {"S = \u00e9 ;", 4}, {"S = S ; #", 8}, {"\x00", 0},
		{"a", 0}, {"= a ;", 0}, {"S a ;", 2}, {"S = a ; ;", 8}, {"S = * ;", 4}, {"S = a ) ;", 6}, {"S = ( ;", 6}, {"S = a = b ;", 6},
		{"S=(((((((a)))))));", 8}, {strings.Repeat("S=a;", 9), 32}, {strings.Repeat("S=S;", 9), 32},
		{strings.Repeat(" ", 301), 300}, {strings.Repeat("S", 301), 300}, {"S = a ;" + strings.Repeat(" ", 294), 300},
		{"1" + strings.Repeat("S", 300), 300}, {strings.Repeat("S=S;", 100), 300}, {strings.Repeat("a", 100000), 300},
		{strings.Repeat("a", 299) + "1", 299},
	} {
		refusedBy(t, x.s, impl.CkBad, x.at)
		if _, at := impl.ReadRules(x.s); at != x.at {
			t.Errorf("ReadRules(%q) = %d, want %d", x.s, at, x.at)
		}
	}
}

func TestLoadOfTextsThatPlainRefuses(t *testing.T) {
	for _, x := range []struct {
		s    string
		code int
	}{
		{"S = a ; S = a ;", impl.GrTwice}, {"S = a T ; T = b ; T = b ;", impl.GrTwice}, {"S = T ; S = U ;", impl.GrTwice}, {strings.Repeat("S=a;", 8), impl.GrTwice},
		{"S = T ;", impl.GrName}, {"S = a | b ; T = U ;", impl.GrName}, {"S = (a (b | T)*)? ;", impl.GrName}, {"S = S T ;", impl.GrName},
		{"S=a|b|c|d|e|f|g|h|i;", impl.GrMany}, {"S=abcdefghi;", impl.GrMany}, {"S=(abcdefgh)*;", impl.GrMany}, {"S=(abcdefgh)+;", impl.GrMany},
		{"S=a?b?c?d?e?f?g?T;T=a?b?c?d?e?f?g?U;U=a?b?c?d?;", impl.GrMany},
		{"S = S a a a a a a a a ; T = T ;", impl.GrMany},
	} {
		refusedBy(t, x.s, impl.CkBad, -1)
		if _, code := impl.Plain(readRules(t, x.s)); code != x.code {
			t.Errorf("Plain of %q = %d, want %d", x.s, code, x.code)
		}
	}
	for _, s := range []string{"S=(abcdefgh)?;", "S=(abcdefg)*;", "S=(abcdefg)+;", "S=a?b?c?d?e?f?g?T;T=a?b?c?d?e?f?g?U;U=a?b?c?;"} {
		if code := sameLoad(t, s); code != impl.CkOk {
			t.Errorf("Load(%q) = %d", s, code)
		}
	}
}

func TestLoadOfTextsThatCheckRefuses(t *testing.T) {
	for _, x := range []struct {
		s    string
		code int
	}{
		{"S = S a | b ;", impl.CkLoop}, {"S = A S b | c ; A = a? ;", impl.CkLoop}, {"S = A ; A = S ;", impl.CkLoop}, {"S = (a?)* ;", impl.CkLoop}, {"S = a ; T = T ;", impl.CkLoop},
		{"S = a S ;", impl.CkDead}, {"S = a T ; T = b T ;", impl.CkDead}, {"S = a ; T = b T ;", impl.CkDead}, {"S = (a S)+ ;", impl.CkDead},
		{"S = a ; T = b ;", impl.CkFar}, {"S = a U ; T = b? ; U = c ;", impl.CkFar}, {"S = ; T = S ;", impl.CkFar},
	} {
		refusedBy(t, x.s, x.code, -1)
		if code := impl.Check(gramFrom(t, x.s)); code != x.code {
			t.Errorf("Check of %q = %d, want %d", x.s, code, x.code)
		}
	}
}

// What is wrong in the text counts ahead of what Plain refuses, and that ahead of what Check does.
func TestLoadTellsTheReasonThatIsNamedFirst(t *testing.T) {
	refusedBy(t, "S = S ; S = T ; T", impl.CkBad, 17)
	refusedBy(t, "S = S ; S = T ; 1", impl.CkBad, 16)
	refusedBy(t, "S = T ; =", impl.CkBad, 8)
	refusedBy(t, "S = S ; S = S ;", impl.CkBad, -1)
	refusedBy(t, "S = S | U ; T = a T ;", impl.CkBad, -1)
	refusedBy(t, "S = S ; T = a b c d e f g h i ;", impl.CkBad, -1)
	refusedBy(t, "S = a ; T = a T ; U = U ;", impl.CkLoop, -1)
	refusedBy(t, "S = a ; T = b ; U = a U ;", impl.CkDead, -1)
}

func TestLoadOfShortAndRandomTexts(t *testing.T) {
	for _, s := range textsOf("ST=a;|", 5) {
		sameLoad(t, s)
	}
	met := make([]int, 5)
	for _, s := range textsOf("STa|*", 4) {
		met[sameLoad(t, "S="+s+";")]++
		met[sameLoad(t, "S="+s+";T=a;")]++
		met[sameLoad(t, "S="+s+";T=aS|aT;")]++
		met[sameLoad(t, "S=aT;T="+s+";")]++
	}
	if slices.Min(met) < 10 {
		t.Error("too few of a code", met)
	}
	r := rand.New(rand.NewSource(63))
	for range 10000 {
		sameLoad(t, randomText(r))
	}
}

func TestWhatIsCheckedIsToldAscendingAndOnce(t *testing.T) {
	r := rand.New(rand.NewSource(64))
	for range 1000 {
		g := randomGram(r, 20, 4, 4)
		for _, list := range [][]int{impl.Productive(g), impl.Reachable(g)} {
			for i, k := range list {
				if k < 0 || k >= len(g.Parts) || i > 0 && list[i-1] >= k {
					t.Fatalf("what is told of %v is not ascending, there twice, or no part: %v", g, list)
				}
			}
		}
		if !slices.Contains(impl.Reachable(g), 0) {
			t.Fatalf("Reachable(%v) has no part 0", g)
		}
	}
}

func TestChecksAreNewMemoryAndNothingIsWritten(t *testing.T) {
	r := rand.New(rand.NewSource(65))
	calls := []struct {
		name string
		tell func(impl.Gram) []int
	}{
		{"Productive", impl.Productive},
		{"Reachable", impl.Reachable},
		{"Check", func(g impl.Gram) []int { return []int{impl.Check(g)} }},
	}
	for i := range 1000 {
		plain := randomGram(r, 6, 3, 3)
		if i%10 == 0 {
			plain.Parts[0][0] = []int{0, 99}
		}
		for _, x := range calls {
			g := guardGram(plain)
			answer, again := x.tell(g.gram), x.tell(g.gram)
			g.unchanged(t, x.name)
			if !slices.Equal(answer, again) {
				t.Fatalf("%s of %v tells %v and then %v", x.name, plain, answer, again)
			}
			if a, b := memoryOf(answer), memoryOf(again); a.from < b.to && b.from < a.to {
				t.Fatalf("%s of %v: two answers share memory", x.name, plain)
			}
			ownMemory(t, x.name, answer, g.lists()...)
		}
	}
}

// apart looks whether no two of the lists share memory.
func apart(t *testing.T, call string, lists []memory) {
	t.Helper()
	for i, a := range lists {
		for _, b := range lists[:i] {
			if a.from < b.to && b.from < a.to {
				t.Fatalf("%s: two lists share memory", call)
			}
		}
	}
}

func TestLoadIsNewMemory(t *testing.T) {
	for _, s := range []string{"S = a S b | ;", "S = (a b)+ (c | d)* e? T ; T = f T | f ;", "S = (abcdefg)+ ;", "S = a? b? c? | d+ e+ ;"} {
		first, code, _ := impl.Load(s)
		again, _, _ := impl.Load(s)
		if code != impl.CkOk || !sameGram(first, again) {
			t.Fatalf("Load(%q) = %v, %d, and then %v", s, first, code, again)
		}
		apart(t, fmt.Sprintf("Load(%q), twice", s), append(memoriesOf(first), memoriesOf(again)...))
		for _, alts := range first.Parts {
			for _, row := range alts {
				whole := row[:cap(row)]
				for i := range whole {
					whole[i] = -9
				}
			}
		}
		sameLoad(t, s)
	}
}
