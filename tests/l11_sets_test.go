package tests

import (
	"cmp"
	"fmt"
	"maps"
	"math"
	"math/rand"
	"slices"
	"strings"
	"testing"

	"loop.example/g00485/impl"
)

// The functions as the document writes them down.
var (
	_ func(impl.Gram, int, []int) ([]impl.Conf, bool)          = impl.SetStart
	_ func(impl.Gram, []impl.Conf, int) ([]impl.Conf, bool)    = impl.SetMove
	_ func([]impl.Conf) []int                                  = impl.SetAlts
	_ func(impl.Gram, int, []int, []int, int) (int, int, bool) = impl.Simulate
	_                                                          = impl.Conf{Alt: 0, Row: []int{}}
)

func TestConstantsOfSets(t *testing.T) {
	if impl.MaxSet != 30 || impl.MaxWay != 200 {
		t.Error(impl.MaxSet, impl.MaxWay)
	}
}

func sameConf(a, b impl.Conf) bool { return a.Alt == b.Alt && slices.Equal(a.Row, b.Row) }

func sameSet(a, b []impl.Conf) bool { return slices.EqualFunc(a, b, sameConf) }

func copyOfSet(set []impl.Conf) []impl.Conf {
	var out []impl.Conf
	for _, c := range set {
		out = append(out, impl.Conf{Alt: c.Alt, Row: slices.Clone(c.Row)})
	}
	return out
}

// confsFrom reads Confs as setText tells them.
func confsFrom(s string) []impl.Conf {
	var out []impl.Conf
	for _, text := range strings.Split(s, ",") {
		var c impl.Conf
		words := strings.Fields(text)
		if len(words) == 0 {
			continue
		}
		fmt.Sscan(words[0], &c.Alt)
		for _, word := range words[1:] {
			symbol := int(word[0]) - 'a'
			if word[0] == 'P' {
				fmt.Sscan(word[1:], &symbol)
				symbol += 100
			}
			c.Row = append(c.Row, symbol)
		}
		out = append(out, c)
	}
	return out
}

func setText(set []impl.Conf) string {
	var out []string
	for _, c := range set {
		out = append(out, strings.TrimSpace(fmt.Sprintf("%d %s", c.Alt, impl.RowText(c.Row))))
	}
	return strings.Join(out, ", ")
}

// closedPlainly puts down all that is closed out of confs; false, where a limit is passed.
func closedPlainly(g impl.Gram, confs []impl.Conf) ([]impl.Conf, bool) {
	closed, way := map[string]impl.Conf{}, map[string]bool{}
	for at := 0; at < len(confs); at++ {
		c := confs[at]
		key := fmt.Sprint(c.Alt, c.Row)
		switch {
		case len(c.Row) == 0 || c.Row[0] < 100:
			closed[key] = c
		case !way[key]:
			way[key] = true
			for _, alt := range g.Parts[c.Row[0]-100] {
				confs = append(confs, impl.Conf{Alt: c.Alt, Row: slices.Concat(alt, c.Row[1:])})
			}
		}
		if len(c.Row) > 200 || len(closed) > 30 || len(way) > 200 {
			return nil, false
		}
	}
	return slices.SortedFunc(maps.Values(closed), func(a, b impl.Conf) int {
		return cmp.Or(cmp.Compare(a.Alt, b.Alt), slices.Compare(a.Row, b.Row))
	}), true
}

func isRowPlainly(g impl.Gram, row []int) bool {
	return len(row) <= 200 && !slices.ContainsFunc(row, func(s int) bool { return s < 0 || s > 25 && s < 100 || s >= 100+len(g.Parts) })
}

func startPlainly(g impl.Gram, checked bool, k int, rest []int) ([]impl.Conf, bool) {
	if !checked || k < 0 || k >= len(g.Parts) || !isRowPlainly(g, rest) {
		return nil, false
	}
	var confs []impl.Conf
	for a, alt := range g.Parts[k] {
		confs = append(confs, impl.Conf{Alt: a, Row: slices.Concat(alt, rest)})
	}
	return closedPlainly(g, confs)
}

func movePlainly(g impl.Gram, checked bool, set []impl.Conf, x int) ([]impl.Conf, bool) {
	if !checked || slices.ContainsFunc(set, func(c impl.Conf) bool { return !isRowPlainly(g, c.Row) }) {
		return nil, false
	}
	var confs []impl.Conf
	for _, c := range set {
		if x < 26 && len(c.Row) > 0 && c.Row[0] == x {
			confs = append(confs, impl.Conf{Alt: c.Alt, Row: c.Row[1:]})
		}
	}
	return closedPlainly(g, confs)
}

func altsPlainly(set []impl.Conf) []int {
	there := map[int]bool{}
	for _, c := range set {
		there[c.Alt] = true
	}
	return slices.Sorted(maps.Keys(there))
}

// An outlook is what Simulate tells.
type outlook struct {
	alt, look int
	told      bool
}

var noOutlook = outlook{-1, 0, false}

func outlookOf(g impl.Gram, k int, rest, w []int, at int) outlook {
	alt, look, told := impl.Simulate(g, k, rest, w, at)
	return outlook{alt, look, told}
}

func simulatedPlainly(g impl.Gram, checked bool, k int, rest, w []int, at int) outlook {
	set, told := startPlainly(g, checked, k, rest)
	if !told || !inputOkPlainly(w) || at < 0 || at > len(w) {
		return noOutlook
	}
	look, turned := 0, false
	for !turned && at+look < len(w) && len(altsPlainly(set)) > 1 {
		next, told := movePlainly(g, checked, set, w[at+look])
		if !told {
			return noOutlook
		}
		look++
		turned = len(next) == 0
		if !turned {
			set = next
		}
	}
	ended := slices.DeleteFunc(slices.Clone(set), func(c impl.Conf) bool { return len(c.Row) > 0 })
	if at+look == len(w) && !turned && len(ended) > 0 {
		set = ended
	}
	return outlook{slices.Min(altsPlainly(set)), look, true}
}

// A setAsker holds what is told of sets against what the document says.
type setAsker struct{ asker }

func setAskerOf(t *testing.T, g impl.Gram) setAsker { return setAsker{askerOf(t, g)} }

func (a setAsker) start(k int, rest []int) ([]impl.Conf, bool) {
	a.t.Helper()
	set, told := impl.SetStart(a.g, k, rest)
	want, is := startPlainly(a.g, a.checked, k, rest)
	if told != is || !sameSet(set, want) {
		a.t.Fatalf("SetStart(%v, %d, %v) = %v, %v, want %v, %v", a.g, k, rest, set, told, want, is)
	}
	return set, told
}

func (a setAsker) move(set []impl.Conf, x int) ([]impl.Conf, bool) {
	a.t.Helper()
	next, told := impl.SetMove(a.g, set, x)
	want, is := movePlainly(a.g, a.checked, set, x)
	if told != is || !sameSet(next, want) {
		a.t.Fatalf("SetMove(%v, %v, %d) = %v, %v, want %v, %v", a.g, set, x, next, told, want, is)
	}
	return next, told
}

func (a setAsker) alts(set []impl.Conf) []int {
	a.t.Helper()
	got, want := impl.SetAlts(set), altsPlainly(set)
	if !slices.Equal(got, want) {
		a.t.Fatalf("SetAlts(%v) = %v, want %v", set, got, want)
	}
	return got
}

// simulated wants what Choose tells, too.
func (a setAsker) simulated(k int, rest, w []int, at int) outlook {
	a.t.Helper()
	got := outlookOf(a.g, k, rest, w, at)
	if want := simulatedPlainly(a.g, a.checked, k, rest, w, at); got != want {
		a.t.Fatalf("Simulate(%v, %d, %v, %v, %d) = %v, want %v", a.g, k, rest, w, at, got, want)
	}
	if alt, look := impl.Choose(a.g, k, rest, w, at); got.told && (alt != got.alt || look != got.look) {
		a.t.Fatalf("Simulate(%v, %d, %v, %v, %d) = %v, but Choose tells %d, %d", a.g, k, rest, w, at, got, alt, look)
	}
	return got
}

// along asks for the sets to which a row of letters leads, and for those to which another letter does.
func (a setAsker) along(k int, rest, w []int) (sets int, told bool) {
	a.t.Helper()
	set, told := a.start(k, rest)
	for _, x := range w {
		if !told {
			return sets, false
		}
		sets++
		a.alts(set)
		a.move(set, (x+1)%26)
		set, told = a.move(set, x)
	}
	return sets, told
}

// nothing wants that nothing is told.
func (a setAsker) nothing(k int, rest, w []int, at int) {
	a.t.Helper()
	if set, told := impl.SetStart(a.g, k, rest); told || len(set) > 0 {
		a.t.Fatalf("SetStart(%v, %d, %v) = %v, %v", a.g, k, rest, set, told)
	}
	a.noOutlook(k, rest, w, at)
}

func (a setAsker) noOutlook(k int, rest, w []int, at int) {
	a.t.Helper()
	if got := outlookOf(a.g, k, rest, w, at); got != noOutlook {
		a.t.Fatalf("Simulate(%v, %d, %v, %v, %d) = %v", a.g, k, rest, w, at, got)
	}
}

func (a setAsker) noMove(set []impl.Conf, x int) {
	a.t.Helper()
	if next, told := impl.SetMove(a.g, set, x); told || len(next) > 0 {
		a.t.Fatalf("SetMove(%v, %v, %d) = %v, %v", a.g, set, x, next, told)
	}
}

func TestSetsOfGrammarsThatAreRefused(t *testing.T) {
	for _, x := range refusedGrams(t) {
		if code := impl.Check(x.g); code != x.code {
			t.Errorf("Check(%v) = %d, want %d", x.g, code, x.code)
		}
		a := setAskerOf(t, x.g)
		for _, w := range append(badInputs(), nil, []int{}, []int{0}, []int{1}, []int{0, 0}) {
			for _, row := range [][]int{nil, {}, w, {0}, {100}, {100, 100}, {101}, {26}} {
				for k := -1; k < 3; k++ {
					for _, at := range []int{-1, 0, len(w), len(w) + 1} {
						a.nothing(k, row, w, at)
					}
					a.noMove([]impl.Conf{{Alt: k, Row: row}}, 0)
					a.noMove([]impl.Conf{{Alt: k, Row: row}, {Alt: k}}, k)
				}
			}
		}
		for _, letter := range []int{-1, 0, 25, 26, 100} {
			a.noMove(nil, letter)
			a.noMove([]impl.Conf{}, letter)
		}
	}
}

func TestSetStart(t *testing.T) {
	for _, x := range []struct {
		s    string
		k    int
		rest []int
		want string
	}{
		{"S = A b | a c ; A = a | ;", 0, nil, "0 a b, 0 b, 1 a c"},
		{"S = A b | a c ; A = a | ;", 0, []int{3}, "0 a b d, 0 b d, 1 a c d"},
		{"S = A b | a c ; A = a | ;", 0, []int{101, 100}, "0 a b P1 P0, 0 b P1 P0, 1 a c P1 P0"},
		{"S = A b | a c ; A = a | ;", 1, nil, "0 a, 1"},
		{"S = A b | a c ; A = a | ;", 1, []int{25}, "0 a z, 1 z"},
		{"S = A b | a c ; A = a | ;", 1, []int{101}, "0 a P1, 1, 1 a"},
		{"S = A b | a c ; A = a | ;", 1, []int{101, 101}, "0 a P1 P1, 1, 1 a, 1 a P1"},
		{"S = A b | a c ; A = a | ;", 1, []int{100}, "0 a P0, 1 a b, 1 a c, 1 b"},
		// An alternative of no symbol.
		{"S = ;", 0, nil, "0"},
		{"S = ;", 0, []int{0}, "0 a"},
		{"S = ;", 0, []int{25, 100}, "0 z P0"},
		{"S = ;", 0, []int{100}, "0"},
		{"S = ;", 0, []int{100, 100, 100}, "0"},
		{"S = ;", 0, []int{100, 1, 100}, "0 b P0"},
		{"S = | ;", 0, nil, "0, 1"},
		{"S = | a | ;", 0, nil, "0, 1 a, 2"},
		{"S = | a | ;", 0, []int{1}, "0 b, 1 a b, 2 b"},
		// Alternatives out of which the same comes.
		{"S = a | a ;", 0, nil, "0 a, 1 a"},
		{"S = a | b | a ;", 0, []int{2}, "0 a c, 1 b c, 2 a c"},
		{"S = T | a ; T = a | b ;", 0, nil, "0 a, 0 b, 1 a"},
		{"S = T | U ; T = a ; U = a ;", 0, nil, "0 a, 1 a"},
		// One that comes out twice.
		{"S = T ; T = U | V ; U = a ; V = a ;", 0, nil, "0 a"},
		{"S = T ; T = a | a | a ;", 0, nil, "0 a"},
		{"S = T ; T = | ;", 0, nil, "0"},
		{"S = T ; T = U | V ; U = W ; V = W ; W = a | ;", 0, nil, "0, 0 a"},
		{"S = T T ; T = a | ;", 0, nil, "0, 0 a, 0 a P1"},
		{"S = T T T ; T = a | ;", 0, nil, "0, 0 a, 0 a P1, 0 a P1 P1"},
		{"S = T T T ; T = a | | ;", 0, []int{0}, "0 a, 0 a a, 0 a P1 a, 0 a P1 P1 a"},
		{"S = T T | T ; T = a | ;", 0, nil, "0, 0 a, 0 a P1, 1, 1 a"},
		{"S = T T | T ; T = a | ;", 1, []int{101, 100}, "0 a P1 P0, 1, 1 a, 1 a P0, 1 a P1"},
		// A row is ahead of one of which it is the beginning, a letter ahead of a part.
		{"S = T ; T = b | a b | a | | a a ;", 0, nil, "0, 0 a, 0 a a, 0 a b, 0 b"},
		{"S = T ; T = a S | a z | a | z | a T ;", 0, nil, "0 a, 0 a z, 0 a P0, 0 a P1, 0 z"},
		{"S = z | y | T | x ; T = w | v ;", 0, nil, "0 z, 1 y, 2 v, 2 w, 3 x"},
		// Deeper, and no further than to the first letter.
		{"S = T ; T = U ; U = V ; V = a T | b U | c ;", 0, nil, "0 a P1, 0 b P2, 0 c"},
		{"S = T U ; T = a T | ; U = b U | ;", 0, nil, "0, 0 a P1 P2, 0 b P2"},
		{"S = T U c ; T = a T | ; U = b U | ;", 0, nil, "0 a P1 P2 c, 0 b P2 c, 0 c"},
		{"S = T U c ; T = a T | ; U = b U | ;", 1, []int{102, 101, 3}, "0 a P1 P2 P1 d, 1 a P1 d, 1 b P2 P1 d, 1 d"},
		{"S = i S ( e S )? | o ;", 0, []int{101}, "0 i P0 P1 P1, 1 o P1"},
		{"S = i S ( e S )? | o ;", 1, []int{101}, "0 e P0 P1, 1, 1 e P0"},
		{"S = a b c d e f g h | i ;", 0, []int{9}, "0 a b c d e f g h j, 1 i j"},
	} {
		a := setAskerOf(t, gramFrom(t, x.s))
		if set, told := a.start(x.k, x.rest); !told || setText(set) != x.want {
			t.Errorf("SetStart of %q, %d, %v is %s, %v, want %s", x.s, x.k, x.rest, setText(set), told, x.want)
		}
	}
}

func TestSetStartOfParts(t *testing.T) {
	wide := ladder(func(k, next int) [][]int { return altsOf([]int{next}, nil) }, altsOf([]int{0}, []int{1}))
	for _, g := range []impl.Gram{gramFrom(t, "S = ;"), gramFrom(t, "S = a | ;"), gramFrom(t, "S = a T ; T = b | ;"), wide} {
		n := len(g.Parts)
		a := setAskerOf(t, g)
		for _, rest := range [][]int{nil, {0}, {100}, {100, 3}} {
			for k := range n {
				if _, told := a.start(k, rest); !told {
					t.Errorf("SetStart(%v, %d, %v) is not told", g, k, rest)
				}
			}
			for _, k := range []int{-1, -2, -100, n, n + 1, 20, 21, 26, 100, 100 + n, 1 << 32, math.MaxInt, math.MaxInt - 1, math.MinInt, math.MinInt + 1} {
				for _, w := range [][]int{nil, {0}, {0, 1}, make([]int, 10)} {
					for at := range len(w) + 1 {
						a.nothing(k, rest, w, at)
					}
				}
			}
		}
	}
	if set, told := impl.SetStart(wide, 19, []int{119}); !told || setText(set) != "0 a P19, 1 b P19" {
		t.Error("the last part of twenty", set, told)
	}
}

func TestSetsOfWhatIsNoSymbol(t *testing.T) {
	wide := ladder(func(k, next int) [][]int { return altsOf([]int{0, next}, nil) }, altsOf([]int{0}, nil))
	for _, g := range []impl.Gram{gramFrom(t, "S = a S b | ;"), gramFrom(t, "S = a T | ; T = b S | c ;"), wide} {
		a := setAskerOf(t, g)
		for _, x := range noSymbols(len(g.Parts)) {
			for _, row := range [][]int{nil, {0}, {100}, {0, 1}, {100, 100}, {0, 100, 1}, {7}, {7, 100}, slices.Repeat([]int{100}, 191), slices.Repeat([]int{7}, 199)} {
				for _, at := range []int{0, len(row) / 2, len(row)} {
					wrong := slices.Insert(slices.Clone(row), at, x)
					for _, k := range []int{0, len(g.Parts) - 1} {
						a.nothing(k, wrong, nil, 0)
						a.nothing(k, wrong, []int{0, 1}, 1)
						a.nothing(k, wrong, []int{7, x}, 0)
					}
					bad := impl.Conf{Alt: at, Row: wrong}
					for _, letter := range []int{0, 7, x, 25, 26, 100} {
						a.noMove([]impl.Conf{bad}, letter)
						a.noMove([]impl.Conf{{Row: []int{0}}, bad}, letter)
						a.noMove([]impl.Conf{bad, {Row: []int{0}}, {}}, letter)
					}
				}
			}
		}
	}
	if set, told := impl.SetStart(wide, 0, []int{119}); !told || setText(set) != "0 a P1 P19, 1, 1 a" {
		t.Error("the last part of twenty", set, told)
	}
}

// lettersAlts has an alternative of one letter for each of n letters from the first one on.
func lettersAlts(first, n int) [][]int {
	var out [][]int
	for x := range n {
		out = append(out, []int{first + x})
	}
	return out
}

// gramUnder has parts from 1 on, and a part 0 that leads to all of them.
func gramUnder(parts ...[][]int) impl.Gram {
	top := []int{0}
	for k := range parts {
		top = append(top, 101+k)
	}
	return gramOf(append([][][]int{{top}}, parts...)...)
}

// wideGram has a part 1 out of whose only alternative n Confs are closed, and a part 2 out of whose alternatives together as many are; n is up to 32.
func wideGram(n int) impl.Gram {
	var all [][]int
	var parts [][][]int
	for i := range n {
		if i%8 == 0 {
			all = append(all, []int{103 + len(parts)})
			parts = append(parts, nil)
		}
		last := len(parts) - 1
		parts[last] = append(parts[last], []int{i % 8, last})
	}
	return gramUnder(append([][][]int{{{102}}, all}, parts...)...)
}

func TestHowManyConfsThereMayBe(t *testing.T) {
	for n := 1; n <= 32; n++ {
		a := setAskerOf(t, wideGram(n))
		for _, k := range []int{1, 2} {
			for _, rest := range [][]int{nil, {0}, {101}, {7, 7, 7}} {
				set, told := a.start(k, rest)
				if told != (n <= 30) || told && len(set) != n {
					t.Errorf("SetStart of %d Confs, part %d, is %v, %v", n, k, set, told)
				}
				from := []impl.Conf{{Alt: 4, Row: append([]int{3, 100 + k}, rest...)}}
				if next, ok := a.move(from, 3); ok != told || len(next) != len(set) {
					t.Errorf("SetMove to %d Confs is %v, %v", n, next, ok)
				}
				for _, w := range [][]int{nil, {0}, {0, 0}, {1, 3}, {7, 1}, {9}} {
					if got := a.simulated(k, rest, w, 0); got.told != (n <= 30) {
						t.Errorf("Simulate of %d Confs, part %d, is %v", n, k, got)
					}
				}
			}
		}
	}
}

// What comes out again is not counted again; what comes out of another alternative is.
func TestConfsAreCountedOnce(t *testing.T) {
	first, second, third := lettersAlts(0, 8), lettersAlts(8, 8), lettersAlts(16, 8)
	for n := 1; n <= 8; n++ {
		for _, x := range []struct {
			top  [][]int
			last [][]int
			want int
		}{
			{altsOf([]int{102}), lettersAlts(26-n, n), 24 + min(n, 2)},
			{altsOf([]int{102}), lettersAlts(0, n), 24},
			{altsOf([]int{102}, []int{106}), lettersAlts(0, n), 24 + n},
			{altsOf([]int{102}, []int{106}), lettersAlts(18, n), 24 + n},
			{altsOf([]int{106}, []int{102}, []int{106}), lettersAlts(0, n), 24 + 2*n},
			{altsOf([]int{102}, []int{102}), lettersAlts(0, n), 48},
		} {
			g := gramUnder(x.top, altsOf([]int{103}, []int{104}, []int{105}, []int{106}), first, second, third, x.last)
			set, told := setAskerOf(t, g).start(1, nil)
			if told != (x.want <= 30) || told && len(set) != x.want {
				t.Errorf("SetStart(%v, 1, nil) is %v, %v, want %d", g, set, told, x.want)
			}
		}
	}
}

func TestHowLongARowMayCome(t *testing.T) {
	nothing := altsOf(nil)
	for m := range 9 {
		full, gone := slices.Repeat([]int{0}, m), slices.Repeat([]int{101}, m)
		for _, x := range []struct {
			alts, instead [][]int // of part 2, and of part 3
			most          int
		}{
			{altsOf(full), nothing, m},
			{altsOf(nil, full), nothing, m},
			{altsOf(full, nil), nothing, m},
			// A part that becomes nothing is there on the way.
			{altsOf(gone), nothing, m},
			{altsOf([]int{103}), altsOf(gone), max(1, m)},
			{altsOf([]int{103}), altsOf(full), max(1, m)},
			{altsOf([]int{103}), altsOf([]int{2}, full, []int{3}), max(1, m)},
			{altsOf([]int{103}), altsOf([]int{101, 2}, gone), max(2, m)},
			// What stands behind the first letter is not replaced.
			{altsOf([]int{0, 103}), altsOf(full), 2},
		} {
			g := gramUnder(nothing, x.alts, x.instead)
			a := setAskerOf(t, g)
			for _, n := range longRows() {
				told, rest := n+x.most <= 200, slices.Repeat([]int{1}, n)
				set, is := a.start(2, rest)
				if is != told || slices.ContainsFunc(set, func(c impl.Conf) bool { return len(c.Row) < n }) {
					t.Fatalf("SetStart(%v, 2, %d symbols) is %v, %v", g, n, set, is)
				}
				if got := a.simulated(2, rest, []int{0, 1}, 0); got.told != told {
					t.Fatalf("Simulate(%v, 2, %d symbols) is %v", g, n, got)
				}
			}
		}
	}
}

func TestHowLongARowMayComeByAMove(t *testing.T) {
	for m := range 9 {
		full, gone := slices.Repeat([]int{0}, m), slices.Repeat([]int{101}, m)
		for _, alt := range [][]int{full, gone} {
			a := setAskerOf(t, gramUnder(altsOf(nil), altsOf(alt, []int{2})))
			for _, n := range longRows() {
				row := append([]int{3, 102}, slices.Repeat([]int{1}, n)...)
				told := len(row) <= 200 && n+m <= 200
				if _, is := a.move([]impl.Conf{{Row: row}}, 3); is != told {
					t.Fatalf("SetMove by a Row of %d, with %d that come instead, is told: %v", len(row), m, is)
				}
				if next, is := a.move([]impl.Conf{{Row: row}, {Alt: 1, Row: []int{4}}}, 4); is != (len(row) <= 200) || is && len(next) != 1 {
					t.Fatalf("SetMove beside a Row of %d is %v, %v", len(row), next, is)
				}
			}
		}
	}
}

// The parts of goneGram all become nothing: part 1 by itself, part 2 by part 1, part 3 by part 2 or by part 1; parts 4 to 7 are alternatives of nothing.
func goneGram() impl.Gram {
	return gramUnder(altsOf(nil), altsOf([]int{101}), altsOf([]int{102}, []int{101}),
		altsOf(nil), altsOf(nil, nil), altsOf(nil, []int{0}), altsOf([]int{101}, nil, []int{102}))
}

func goneRow(ones, twos, threes int) []int {
	return slices.Concat(slices.Repeat([]int{103}, threes), slices.Repeat([]int{102}, twos), slices.Repeat([]int{101}, ones))
}

func TestHowManyConfsMayComeOnTheWay(t *testing.T) {
	a := setAskerOf(t, goneGram())
	met := make([]int, 2)
	for _, x := range []struct{ ones, twos, threes int }{
		{0, 0, 0}, {1, 0, 0}, {199, 0, 0}, {200, 0, 0}, {0, 99, 0}, {0, 100, 0}, {0, 101, 0}, {1, 99, 0}, {2, 99, 0}, {3, 99, 0}, {1, 100, 0}, {199, 1, 0}, {198, 1, 0},
		{0, 0, 66}, {0, 0, 67}, {2, 0, 66}, {3, 0, 66}, {0, 1, 66}, {1, 1, 66}, {0, 49, 34}, {0, 50, 33}, {1, 50, 33}, {2, 50, 33},
		{99, 0, 0}, {100, 0, 0}, {101, 0, 0}, {0, 50, 0}, {1, 50, 0}, {1, 49, 0}, {65, 0, 0}, {66, 0, 0}, {67, 0, 0}, {64, 0, 0}, {63, 1, 0},
	} {
		rest := goneRow(x.ones, x.twos, x.threes)
		n := x.ones + 2*x.twos + 3*x.threes
		for k, ways := range map[int]int{4: n, 5: 2 * n, 6: n, 7: 3*n + 3} {
			longest := len(rest) + oneIf(k >= 6)
			set, told := a.start(k, rest)
			met[oneIf(told)]++
			if told != (ways <= 200 && longest <= 200) || told && len(set) != len(a.g.Parts[k]) {
				t.Errorf("SetStart of part %d with %v is %v, %v", k, x, set, told)
			}
			if got := a.simulated(k, rest, []int{0}, 0); got.told != told {
				t.Errorf("Simulate of part %d with %v is %v", k, x, got)
			}
		}
		if len(rest) < 200 {
			row := append([]int{5}, rest...)
			set, told := a.move([]impl.Conf{{Alt: 3, Row: row}, {Alt: 3, Row: row}, {Alt: 2, Row: []int{5}}}, 5)
			if told != (n <= 200) || told && setText(set) != "2, 3" {
				t.Errorf("SetMove to %v is %v, %v", x, set, told)
			}
			if _, told := a.move([]impl.Conf{{Alt: 3, Row: row}, {Alt: 4, Row: row}}, 5); told != (2*n <= 200) {
				t.Errorf("SetMove of two to %v is told: %v", x, told)
			}
			if _, told := a.move([]impl.Conf{{Alt: 3, Row: row}, {Alt: 3, Row: append([]int{5}, goneRow(x.ones/2, 0, 0)...)}}, 5); told != (n <= 200) {
				t.Errorf("SetMove to %v, and to some of them again, is told: %v", x, told)
			}
		}
	}
	if slices.Min(met) < 20 {
		t.Error("too few", met)
	}
}

func TestSetMove(t *testing.T) {
	for _, x := range []struct {
		s, set string
		x      int
		want   string
	}{
		{"S = A b | a c ; A = a | ;", "0 a b d, 0 b d, 1 a c d", 0, "0 b d, 1 c d"},
		{"S = A b | a c ; A = a | ;", "0 a b d, 0 b d, 1 a c d", 1, "0 d"},
		{"S = A b | a c ; A = a | ;", "0 a b d, 0 b d, 1 a c d", 2, ""},
		{"S = A b | a c ; A = a | ;", "0 a b d, 0 b d, 1 a c d", 3, ""},
		{"S = A b | a c ; A = a | ;", "0 a b d, 0 b d, 1 a c d", 25, ""},
		{"S = A b | a c ; A = a | ;", "0 d", 3, "0"},
		{"S = A b | a c ; A = a | ;", "", 0, ""},
		{"S = A b | a c ; A = a | ;", "0, 1", 0, ""},
		{"S = A b | a c ; A = a | ;", "0, 0 a, 1", 0, "0"},
		// What is behind the letter is closed.
		{"S = A b | a c ; A = a | ;", "0 z P1", 25, "0, 0 a"},
		{"S = A b | a c ; A = a | ;", "0 z P1 P1", 25, "0, 0 a, 0 a P1"},
		{"S = A b | a c ; A = a | ;", "0 z P1 b, 1 z P0", 25, "0 a b, 0 b, 1 a b, 1 a c, 1 b"},
		{"S = A b | a c ; A = a | ;", "0 z P1 b, 0 z P0", 25, "0 a b, 0 a c, 0 b"},
		// In no order, and twice.
		{"S = A b | a c ; A = a | ;", "1 a, 0 a b, 1 a, 0 a, 1 a, 0 a b", 0, "0, 0 b, 1"},
		{"S = A b | a c ; A = a | ;", "3 z y, 2 z a, 1 z, 0 z z, 3 z, 1 z a", 25, "0 z, 1, 1 a, 2 a, 3, 3 y"},
		{"S = A b | a c ; A = a | ;", "1 a b, 1 a b, 1 a P1 b", 0, "1 a b, 1 b"},
		// One that begins with a part stays behind, whatever it could begin with.
		{"S = A b | a c ; A = a | ;", "0 P1 a, 0 P0, 0 a P1 b", 0, "0 a b, 0 b"},
		{"S = A b | a c ; A = a | ;", "0 P1 a, 0 P0", 0, ""},
		{"S = A b | a c ; A = a | ;", "0 P1 a, 0 P0", 100, ""},
		{"S = A b | a c ; A = a | ;", "0 P1 a, 0 P0", 101, ""},
		{"S = A b | a c ; A = a | ;", "0 P1 a, 0 P0", -1, ""},
		{"S = A b | a c ; A = a | ;", "0 P1 a, 0 z, 0 P0", 26, ""},
		{"S = A b | a c ; A = a | ;", "0 P1 a, 0 z, 0 P0", 25, "0"},
		// Alts are any numbers.
		{"S = A b | a c ; A = a | ;", "7 a, -1 a, 9223372036854775807 a b, -9223372036854775808 a c, 0 a", 0, "-9223372036854775808 c, -1, 0, 7, 9223372036854775807 b"},
		{"S = A b | a c ; A = a | ;", "-2 a P1, -1 a P1", 0, "-2, -2 a, -1, -1 a"},
		{"S = i S ( e S )? | o ;", "0 i P0 P1 P1, 1 o P1", 8, "0 i P0 P1 P1 P1, 0 o P1 P1"},
		{"S = i S ( e S )? | o ;", "0 i P0 P1 P1, 1 o P1", 14, "1, 1 e P0"},
	} {
		a := setAskerOf(t, gramFrom(t, x.s))
		if set := confsFrom(x.set); setText(set) != x.set {
			t.Fatalf("%q is read as %q", x.set, setText(set))
		}
		if next, told := a.move(confsFrom(x.set), x.x); !told || setText(next) != x.want {
			t.Errorf("SetMove of %q, %q, %d is %s, %v, want %s", x.s, x.set, x.x, setText(next), told, x.want)
		}
	}
}

func TestSetMoveByWhatIsNoLetter(t *testing.T) {
	for _, s := range []string{"S = ;", "S = a S | T ; T = b | ;"} {
		g := gramFrom(t, s)
		a := setAskerOf(t, g)
		last := 99 + len(g.Parts)
		sets := [][]impl.Conf{nil, {}, {{}}, {{Row: []int{0}}, {Row: []int{last}}}, {{Row: []int{100, 0}}, {Row: []int{25, 100}}, {Row: []int{last, last}}}}
		for _, x := range append(noLetters(), 100, 101, last, last+1) {
			for _, set := range sets {
				if next, told := a.move(set, x); !told || len(next) > 0 {
					t.Errorf("SetMove(%v, %v, %d) = %v, %v", g, set, x, next, told)
				}
			}
		}
		for x := range 26 {
			row := []impl.Conf{{Alt: x, Row: []int{x, x}}, {Alt: x, Row: []int{(x + 1) % 26}}, {Alt: -x, Row: []int{x}}}
			next, told := a.move(row, x)
			if !told || len(next) != 2 || !sameConf(next[1], impl.Conf{Alt: x, Row: []int{x}}) && x > 0 {
				t.Errorf("SetMove(%v, %v, %d) = %v, %v", g, row, x, next, told)
			}
		}
	}
}

// Of a set that is handed in it is not asked how great it is, only what comes out of it.
func TestSetMoveOfGreatSets(t *testing.T) {
	a := setAskerOf(t, gramFrom(t, "S = a T | T b ; T = c | ;"))
	for _, n := range []int{29, 30, 31, 32, 1000} {
		var others, alike, all []impl.Conf
		for i := range n {
			others = append(others, impl.Conf{Alt: i, Row: []int{1, 101}})
			alike = append(alike, impl.Conf{Alt: 7, Row: []int{0, 2}})
			all = append(all, impl.Conf{Alt: -i, Row: []int{0, 1}})
		}
		mixed := slices.Concat(others, []impl.Conf{{Alt: 4, Row: []int{0, 101}}}, others)
		if next, told := a.move(mixed, 0); !told || setText(next) != "4, 4 c" {
			t.Errorf("SetMove of one of %d is %v, %v", len(mixed), next, told)
		}
		if next, told := a.move(alike, 0); !told || setText(next) != "7 c" {
			t.Errorf("SetMove of %d that are alike is %v, %v", n, next, told)
		}
		if next, told := a.move(all, 0); told != (n <= 30) || told && len(next) != n {
			t.Errorf("SetMove of %d is %v, %v", n, next, told)
		}
		if next, told := a.move(others[:n/2], 1); told != (n/2 <= 15) || told && len(next) != n/2*2 {
			t.Errorf("SetMove to twice %d is %v, %v", n/2, next, told)
		}
	}
}

func TestSetAlts(t *testing.T) {
	a := setAskerOf(t, gramFrom(t, "S = ;"))
	confs := func(alts ...int) []impl.Conf {
		var out []impl.Conf
		for i, alt := range alts {
			out = append(out, impl.Conf{Alt: alt, Row: make([]int, i%3)})
		}
		return out
	}
	for _, x := range []struct{ alts, want []int }{
		{nil, nil},
		{[]int{0}, []int{0}},
		{[]int{0, 0, 0}, []int{0}},
		{[]int{0, 1, 2}, []int{0, 1, 2}},
		{[]int{2, 1, 0}, []int{0, 1, 2}},
		{[]int{5, 0, 5, 0, 3}, []int{0, 3, 5}},
		{[]int{0, 1, 0}, []int{0, 1}},
		{[]int{-1, 1, -1}, []int{-1, 1}},
		{[]int{7, -3, 0, -3, -4}, []int{-4, -3, 0, 7}},
		{[]int{math.MaxInt, math.MinInt, 0, math.MinInt + 1, math.MaxInt}, []int{math.MinInt, math.MinInt + 1, 0, math.MaxInt}},
	} {
		if got := a.alts(confs(x.alts...)); !slices.Equal(got, x.want) {
			t.Errorf("SetAlts of %v = %v, want %v", x.alts, got, x.want)
		}
	}
	// Rows do not count, whatever stands in them.
	odd := []impl.Conf{{Alt: 2, Row: []int{-1, 26, 1000}}, {Alt: 1, Row: make([]int, 1000)}, {Alt: 2}}
	if got := a.alts(odd); !slices.Equal(got, []int{1, 2}) {
		t.Error("SetAlts of odd Rows", got)
	}
	for _, alts := range listsOf([]int{-2, 0, 3, 9}, 5) {
		a.alts(confs(alts...))
	}
	great := confs(slices.Repeat(upTo(1000), 100)...)
	slices.Reverse(great)
	if got := a.alts(great); !slices.Equal(got, upTo(1000)) {
		t.Error("SetAlts of many", len(got))
	}
}

func TestSimulate(t *testing.T) {
	for _, x := range []struct {
		s    string
		k    int
		rest []int
		w    string
		at   int
		want outlook
	}{
		{"S = A b | a c ; A = a | ;", 0, []int{3}, "acd", 0, outlook{1, 2, true}},
		{"S = A b | a c ; A = a | ;", 0, []int{3}, "abd", 0, outlook{0, 2, true}},
		{"S = A b | a c ; A = a | ;", 0, []int{3}, "bd", 0, outlook{0, 1, true}},
		{"S = A b | a c ; A = a | ;", 0, []int{3}, "x", 0, outlook{0, 1, true}},
		{"S = A b | a c ; A = a | ;", 0, []int{3}, "a", 0, outlook{0, 1, true}},
		{"S = A b | a c ; A = a | ;", 0, []int{3}, "", 0, outlook{0, 0, true}},
		{"S = A b | a c ; A = a | ;", 0, []int{3}, "xacd", 1, outlook{1, 2, true}},
		{"S = A b | a c ; A = a | ;", 0, []int{3}, "xacd", 0, outlook{0, 1, true}},
		{"S = A b | a c ; A = a | ;", 0, []int{3}, "xacd", 4, outlook{0, 0, true}},
		{"S = A b | a c ; A = a | ;", 0, []int{3}, "xacd", 5, noOutlook},
		{"S = A b | a c ; A = a | ;", 0, []int{3}, "xacd", -1, noOutlook},
		{"S = A b | a c ; A = a | ;", 2, []int{3}, "xacd", 0, noOutlook},
		{"S = A b | a c ; A = a | ;", -1, []int{3}, "xacd", 0, noOutlook},
		{"S = A b | a c ; A = a | ;", 0, []int{102}, "xacd", 0, noOutlook},
		// One alternative alone is taken with no letter looked at.
		{"S = a ;", 0, nil, "a", 0, outlook{0, 0, true}},
		{"S = a ;", 0, nil, "b", 0, outlook{0, 0, true}},
		{"S = a ;", 0, nil, "", 0, outlook{0, 0, true}},
		{"S = T ; T = a | b ;", 0, nil, "b", 0, outlook{0, 0, true}},
		{"S = T ; T = a | b ;", 1, nil, "b", 0, outlook{1, 1, true}},
		{"S = ;", 0, nil, "", 0, outlook{0, 0, true}},
		{"S = ;", 0, nil, "a", 0, outlook{0, 0, true}},
		// The letters end while two are left.
		{"S = a b c | a b d ;", 0, nil, "ab", 0, outlook{0, 2, true}},
		{"S = a b c | a b d ;", 0, nil, "a", 0, outlook{0, 1, true}},
		{"S = a b c | a b d ;", 0, nil, "", 0, outlook{0, 0, true}},
		{"S = a b c | a b ;", 0, nil, "ab", 0, outlook{1, 2, true}},
		{"S = a b | a b c ;", 0, nil, "ab", 0, outlook{0, 2, true}},
		{"S = a b c | a | a b | a b ;", 0, nil, "ab", 0, outlook{2, 2, true}},
		{"S = a b c | a | a b | a b ;", 0, nil, "a", 0, outlook{1, 1, true}},
		{"S = a b c | a | a b | a b ;", 0, nil, "", 0, outlook{0, 0, true}},
		{"S = a | ;", 0, nil, "", 0, outlook{1, 0, true}},
		{"S = a | | ;", 0, nil, "", 0, outlook{1, 0, true}},
		{"S = a | | ;", 0, []int{1}, "", 0, outlook{0, 0, true}},
		{"S = | a | ;", 0, nil, "", 0, outlook{0, 0, true}},
		{"S = a* ;", 1, nil, "aaa", 0, outlook{0, 1, true}},
		{"S = a* ;", 1, []int{101}, "aaa", 0, outlook{0, 3, true}},
		{"S = a* ;", 1, []int{101}, "", 0, outlook{1, 0, true}},
		{"S = a S | a S | ;", 0, nil, "aaaaaaaaaa", 0, outlook{0, 10, true}},
		{"S = a S | a S | ;", 0, nil, "aaaaaaaaaa", 4, outlook{0, 6, true}},
		{"S = a S | a a S | ;", 0, []int{1}, "aaaaaaaaab", 0, outlook{0, 10, true}},
		// A letter turns the set to nothing.
		{"S = a b c | a b d ;", 0, nil, "abx", 0, outlook{0, 3, true}},
		{"S = a b c | a b d ;", 0, nil, "abxc", 0, outlook{0, 3, true}},
		{"S = a b c | a b d ;", 0, nil, "xabd", 0, outlook{0, 1, true}},
		{"S = a b c | a b d ;", 0, nil, "axbd", 0, outlook{0, 2, true}},
		{"S = c | a b c | a b d ;", 0, nil, "abx", 0, outlook{1, 3, true}},
		{"S = c | a b c | a b d ;", 0, nil, "abxabd", 0, outlook{1, 3, true}},
		{"S = | a ;", 0, nil, "b", 0, outlook{0, 1, true}},
		{"S = a | ;", 0, nil, "b", 0, outlook{0, 1, true}},
		// It does, and another one has nothing to come: the least one counts, even where no letter is left.
		{"S = a b c | a b ;", 0, nil, "abx", 0, outlook{0, 3, true}},
		{"S = a b c | a b ;", 0, nil, "abxx", 0, outlook{0, 3, true}},
		{"S = a b | a ;", 0, nil, "ax", 0, outlook{0, 2, true}},
		{"S = a b | a ;", 0, nil, "xa", 0, outlook{0, 1, true}},
		{"S = b | a b | a ;", 0, nil, "ax", 0, outlook{1, 2, true}},
		// One has nothing to come while a letter is left, and another goes on.
		{"S = a | a b ;", 0, nil, "ab", 0, outlook{1, 2, true}},
		{"S = a | a b ;", 0, nil, "abb", 0, outlook{1, 2, true}},
		{"S = a | a b c | a b d ;", 0, nil, "abd", 0, outlook{2, 3, true}},
		{"S = a | a b c | a b d ;", 0, nil, "ab", 0, outlook{1, 2, true}},
		{"S = | a ;", 0, nil, "a", 0, outlook{1, 1, true}},
		{"S = | a | a b ;", 0, nil, "a", 0, outlook{1, 1, true}},
		{"S = | a | a b ;", 0, nil, "ab", 0, outlook{2, 2, true}},
		// One is left alone, whatever comes behind.
		{"S = a b | c d ;", 0, nil, "azz", 0, outlook{0, 1, true}},
		{"S = a b | c d ;", 0, nil, "cdd", 0, outlook{1, 1, true}},
		{"S = a b | c d ;", 0, nil, "cab", 1, outlook{0, 1, true}},
		{"S = a b | a b | c ;", 0, nil, "c", 0, outlook{2, 1, true}},
		// What stands behind counts.
		{"S = T b ; T = a | a b ;", 1, nil, "ab", 0, outlook{1, 2, true}},
		{"S = T b ; T = a | a b ;", 1, []int{1}, "ab", 0, outlook{0, 2, true}},
		{"S = T b ; T = a | a b ;", 1, []int{1}, "abb", 0, outlook{1, 3, true}},
		{"S = T b ; T = a | a b ;", 1, []int{1, 101}, "abba", 0, outlook{1, 3, true}},
		{"S = T b ; T = a | a b ;", 1, []int{101}, "aab", 0, outlook{0, 2, true}},
		{"S = T b ; T = a | ;", 1, []int{101}, "a", 0, outlook{0, 1, true}},
		{"S = i S ( e S )? | o ;", 1, []int{101}, "eo", 0, outlook{0, 2, true}},
		{"S = i S ( e S )? | o ;", 1, nil, "eo", 0, outlook{0, 1, true}},
	} {
		a := setAskerOf(t, gramFrom(t, x.s))
		if got := a.simulated(x.k, x.rest, lettersOf(x.w), x.at); got != x.want {
			t.Errorf("Simulate of %q, %d, %v, %q, %d is %v, want %v", x.s, x.k, x.rest, x.w, x.at, got, x.want)
		}
	}
}

func TestSimulateOfInputsAndPlaces(t *testing.T) {
	for _, s := range []string{"S = a S | z S | ;", "S = ;", "S = a ;", "S = a b | a | ;"} {
		a := setAskerOf(t, gramFrom(t, s))
		for _, w := range badInputs() {
			for _, rest := range [][]int{nil, {0}, {100, 100}} {
				for _, at := range []int{-1, 0, 1, len(w) / 2, len(w) - 1, len(w), len(w) + 1} {
					a.noOutlook(0, rest, w, at)
				}
			}
		}
		for n := range 11 {
			for _, letters := range []string{"aaaaaaaaaa", "abababab", "zaazbzzaaz"} {
				w := lettersOf(letters)[:min(n, len(letters))]
				for _, at := range noPlaces(len(w)) {
					a.noOutlook(0, nil, w, at)
				}
				for at := range len(w) + 1 {
					if got := a.simulated(0, nil, w, at); !got.told || got.look > len(w)-at {
						t.Errorf("Simulate of %q, %v, %d is %v", s, w, at, got)
					}
				}
			}
		}
	}
	a := setAskerOf(t, gramFrom(t, "S = a S | a S | ;"))
	for n := range 14 {
		want := outlook{0, n, true}
		if n == 0 {
			want = outlook{2, 0, true}
		}
		if n > 10 {
			want = noOutlook
		}
		if got := a.simulated(0, nil, make([]int, n), 0); got != want {
			t.Errorf("Simulate of %d letters is %v, want %v", n, got, want)
		}
	}
}

// A set that would be too great counts only where it is come to.
func TestSimulateOfSetsThatAreTooGreat(t *testing.T) {
	g := wideGram(31)
	g.Parts[0][0] = append(g.Parts[0][0], 107)
	g.Parts = append(g.Parts,
		altsOf([]int{0, 1, 102}, []int{0, 2}, []int{3, 101}, []int{0, 4, 5, 108, 109, 110}),
		altsOf([]int{101}, []int{0}),
		altsOf([]int{0, 102}, nil),
		altsOf([]int{102}))
	a := setAskerOf(t, g)
	for _, x := range []struct {
		k    int
		rest []int
		w    string
		want outlook
	}{
		{7, nil, "", outlook{0, 0, true}},
		{7, nil, "a", outlook{0, 1, true}},
		{7, nil, "ac", outlook{1, 2, true}},
		{7, nil, "ae", outlook{3, 2, true}},
		{7, nil, "d", noOutlook},
		{7, nil, "ab", noOutlook},
		{7, nil, "abc", noOutlook},
		{7, nil, "x", outlook{0, 1, true}},
		{7, nil, "ax", outlook{0, 2, true}},
		{7, nil, "acd", outlook{1, 2, true}},
		{8, nil, "", noOutlook},
		{8, nil, "a", noOutlook},
		{8, nil, "z", noOutlook},
		{9, nil, "", outlook{1, 0, true}},
		{9, nil, "b", outlook{0, 1, true}},
		{9, nil, "a", noOutlook},
		{9, []int{102}, "b", noOutlook},
		{9, []int{1, 102}, "", outlook{0, 0, true}},
		{9, []int{1, 102}, "b", noOutlook},
		{9, []int{1, 102}, "a", noOutlook},
		{10, nil, "", noOutlook},
		{10, nil, "a", noOutlook},
	} {
		if got := a.simulated(x.k, x.rest, lettersOf(x.w), 0); got != x.want {
			t.Errorf("Simulate(%v, %d, %v, %q, 0) is %v, want %v", g, x.k, x.rest, x.w, got, x.want)
		}
	}
	h := setAskerOf(t, gramFrom(t, "S = a S X | a S Y | c ; X = x ; Y = y | x ;"))
	for n := range 10 {
		w := append(make([]int, n), 2)
		if got := h.simulated(0, nil, w, 0); got.told != (n < 4) {
			t.Errorf("Simulate of %v is %v", w, got)
		}
	}
}

// askSets asks of a grammar by chance: of parts and rests, and of what they become or what is near to it.
func askSets(a setAsker, r *rand.Rand, rows, letters int, met map[string]int) {
	a.t.Helper()
	n := len(a.g.Parts)
	for range rows {
		k, rest := r.Intn(n), checkedRow(r, -1, n, r.Intn(4), letters)
		for _, input := range rightAndNear(r, a.g, append([]int{100 + k}, rest...)) {
			sets, told := a.along(k, rest, input)
			met["sets"] += sets
			met["not told"] += oneIf(!told)
			for _, at := range []int{0, r.Intn(len(input) + 1)} {
				got := a.simulated(k, rest, input, at)
				met["not simulated"] += oneIf(!got.told)
				met["looked far"] += oneIf(got.look > 1)
				met["not the first"] += oneIf(got.alt > 0)
			}
		}
	}
}

func TestSetsOfRandomGrammars(t *testing.T) {
	r := rand.New(rand.NewSource(111))
	met := map[string]int{}
	for i := range 800 {
		a := setAskerOf(t, randomChecked(r, []int{1, 2, 3, 5, 8}[i%5], 1+i%4, 2+i%3, 2))
		askSets(a, r, 5, 2, met)
		wrong := randomRow(r, len(a.g.Parts), 3)
		wrong[r.Intn(3)] = noSymbols(len(a.g.Parts))[r.Intn(16)]
		a.nothing(r.Intn(len(a.g.Parts)), wrong, []int{0, 1}, r.Intn(3))
		a.noOutlook(0, nil, []int{0, 1}, noPlaces(2)[r.Intn(19)])
	}
	for name, least := range map[string]int{"sets": 10000, "not told": 200, "not simulated": 200, "looked far": 1500, "not the first": 1500} {
		if met[name] < least {
			t.Error("too few", name, met)
		}
	}
}

func TestSetsOfGreatGrammars(t *testing.T) {
	r := rand.New(rand.NewSource(112))
	met := map[string]int{}
	for i := range 40 {
		g := greatGram(r, func(rows [][]int) {
			for at, row := range rows {
				rows[at] = append([]int{r.Intn(5)}, row[:r.Intn(len(row))]...)
			}
			rows[0] = []int{r.Intn(5)}
		})
		if i == 0 {
			g = manyEmpty(t)
		}
		askSets(setAskerOf(t, g), r, 6, 3, met)
	}
	if met["sets"] < 500 || met["not the first"] < 50 {
		t.Error("too few", met)
	}
}

func TestSetsByWayOfAllPartsAndAllLetters(t *testing.T) {
	full := lettersOf("abcdefghij")
	for _, to := range orders() {
		for _, g := range []impl.Gram{singleLadder(), turnedLadder(), skippingLadder()} {
			a := setAskerOf(t, renumbered(g, to))
			for _, w := range [][]int{full, full[:9], full[1:], nil, lettersOf("jjabcdefgh"), append([]int{20}, full[:9]...)} {
				for _, k := range []int{0, to[1], to[18], to[19]} {
					a.along(k, []int{9}, w)
					a.simulated(k, []int{9}, w, 0)
				}
			}
		}
	}
}

// Sets of Confs in any order, such as do not come out of a part.
func TestSetMoveOfRandomSets(t *testing.T) {
	r := rand.New(rand.NewSource(113))
	met := map[int]int{}
	for i := range 3000 {
		a := setAskerOf(t, randomChecked(r, 1+i%6, 1+i%4, 3, 3))
		var set []impl.Conf
		for range r.Intn(12) {
			row := randomRow(r, len(a.g.Parts), r.Intn(4))
			for at, s := range row {
				if s < 100 {
					row[at] = s % 3
				}
			}
			set = append(set, impl.Conf{Alt: r.Intn(7) - 3, Row: row})
		}
		if len(set) > 1 {
			set[0] = set[len(set)-1]
		}
		if len(set) > 0 && i%20 == 0 {
			bad := &set[r.Intn(len(set))]
			bad.Row = append(slices.Clone(bad.Row), noSymbols(len(a.g.Parts))[r.Intn(16)])
		}
		for x := range 3 {
			next, told := a.move(set, x)
			met[oneIf(told)+oneIf(len(next) > 0)]++
			a.alts(next)
		}
		a.alts(set)
	}
	if met[0] < 200 || met[1] < 1000 || met[2] < 1000 {
		t.Error("too few", met)
	}
}

// Promise 11: looking ahead by sets tells what the farthest alternative tells.
func TestLookingAheadBySetsTellsWhatChooseTells(t *testing.T) {
	met := make([]int, 3)
	ofSmallChecked(func(g impl.Gram, k int, rest, w []int, at int) {
		a := setAsker{asker{t, g, true}}
		met[a.simulated(k, rest, w, at).alt+1]++
	})
	if met[0] > 500 || met[1] < 1000 || met[2] < 1000 {
		t.Error("too many that are not told, or too few", met)
	}
}

func TestLookingAheadInARandomGrammarTellsWhatChooseTells(t *testing.T) {
	r := rand.New(rand.NewSource(114))
	met := map[string]int{}
	for i := range 3000 {
		g := randomChecked(r, 1+i%5, 2+i%4, 2+i%3, 2)
		k := r.Intn(len(g.Parts))
		rest := checkedRow(r, -1, len(g.Parts), r.Intn(4), 2)
		for _, input := range rightAndNear(r, g, append([]int{100 + k}, rest...)) {
			got := outlookOf(g, k, rest, input, 0)
			met[fmt.Sprint(got.told)]++
			if !got.told {
				if got != noOutlook {
					t.Fatalf("Simulate(%v, %d, %v, %v, 0) is %v", g, k, rest, input, got)
				}
				continue
			}
			alt, look := impl.Choose(g, k, rest, input, 0)
			sure := impl.Sure(g, k, rest, input, 0)
			if alt != got.alt || look != got.look || len(sure) > 0 && sure[0] != got.alt {
				t.Fatalf("Simulate(%v, %d, %v, %v, 0) is %v, but Choose tells %d, %d, and those are sure: %v", g, k, rest, input, got, alt, look, sure)
			}
			met["sure"] += oneIf(len(sure) > 0)
			met["unsure"] += oneIf(len(sure) == 0)
		}
	}
	if met["true"] < 4000 || met["false"] < 100 || met["sure"] < 1000 || met["unsure"] < 1000 {
		t.Error("too few", met)
	}
}

// guardedSet is a set of Confs whose lists all have spare room behind them, so that a write into any of them shows.
type guardedSet struct {
	set  []impl.Conf
	room []impl.Conf // with the room behind it
	rows []*guarded
	want []impl.Conf
}

func guardSet(set []impl.Conf) *guardedSet {
	out := &guardedSet{want: copyOfSet(set)}
	for _, c := range set {
		row := guard("a Row", c.Row)
		out.rows = append(out.rows, row)
		out.room = append(out.room, impl.Conf{Alt: c.Alt, Row: row.list})
	}
	spare := impl.Conf{Alt: guardSpare, Row: []int{guardSpare}}
	out.want = append(out.want, spare, spare)
	out.room = append(out.room, copyOfSet(out.want[len(set):])...)
	out.set = out.room[:len(set)]
	return out
}

func (x *guardedSet) unchanged(t *testing.T, call string) {
	t.Helper()
	if !sameSet(x.room, x.want) {
		t.Fatalf("%s wrote into a set: %v became %v", call, x.want, x.room)
	}
	for _, row := range x.rows {
		row.unchanged(t, call)
	}
}

func memoriesOfSet(set []impl.Conf) []memory {
	out := []memory{memoryOf(set)}
	for _, c := range set {
		out = append(out, memoryOf(c.Row))
	}
	return out
}

func overwriteSet(set []impl.Conf) {
	for _, c := range set {
		fill(c.Row, -9)
	}
	fill(set, impl.Conf{Alt: -9})
}

func TestSetsAreNewMemoryAndNothingIsWritten(t *testing.T) {
	r := rand.New(rand.NewSource(115))
	calls := []struct {
		name string
		tell func(g impl.Gram, k int, rest []int, set []impl.Conf) ([]impl.Conf, bool)
	}{
		{"SetStart", func(g impl.Gram, k int, rest []int, set []impl.Conf) ([]impl.Conf, bool) {
			return impl.SetStart(g, k, rest)
		}},
		{"SetMove", func(g impl.Gram, k int, rest []int, set []impl.Conf) ([]impl.Conf, bool) {
			return impl.SetMove(g, set, 0)
		}},
		{"SetMove by another letter", func(g impl.Gram, k int, rest []int, set []impl.Conf) ([]impl.Conf, bool) {
			return impl.SetMove(g, set, 1)
		}},
	}
	done := 0
	for i := range 1500 {
		plain := randomChecked(r, 1+i%4, 4, 3, 2)
		k, behind := r.Intn(len(plain.Parts)), checkedRow(r, -1, len(plain.Parts), r.Intn(4), 2)
		whole, _ := impl.SetStart(plain, r.Intn(len(plain.Parts)), behind)
		whole = append(whole, impl.Conf{Alt: -1, Row: append([]int{i % 2}, behind...)}, impl.Conf{Alt: 1}, impl.Conf{Alt: -1, Row: append([]int{i % 2}, behind...)})
		for _, x := range calls {
			g, rest, set := guardGram(plain), guard("a rest", behind), guardSet(whole)
			told, is := x.tell(g.gram, k, rest.list, set.set)
			again, _ := x.tell(g.gram, k, rest.list, set.set)
			other, _ := x.tell(copyOfGram(plain), k, slices.Clone(behind), copyOfSet(whole))
			if !sameSet(told, again) || !sameSet(told, other) {
				t.Fatalf("%s of %v, %d, %v and %v tells %v and then something else", x.name, plain, k, behind, whole, told)
			}
			done += oneIf(is && len(told) > 1)
			apart(t, x.name+", twice", append(memoriesOfSet(told), memoriesOfSet(again)...))
			kept := copyOfSet(told)
			overwriteSet(again)
			g.unchanged(t, x.name)
			rest.unchanged(t, x.name)
			set.unchanged(t, x.name)
			for _, list := range append(g.lists(), append(set.rows, rest)...) {
				fill(list.array, -5)
			}
			fill(set.room, impl.Conf{Alt: -5})
			if !sameSet(told, kept) {
				t.Fatalf("%s of %v, %d, %v and %v: its answer changed with an argument", x.name, plain, k, behind, whole)
			}
		}
	}
	if done < 1500 {
		t.Error("too few answers", done)
	}
}

func TestSetAltsIsNewMemoryAndWritesNothing(t *testing.T) {
	r := rand.New(rand.NewSource(116))
	for range 1000 {
		var plain []impl.Conf
		for range r.Intn(9) {
			plain = append(plain, impl.Conf{Alt: r.Intn(5) - 2, Row: randomRow(r, 3, r.Intn(3))})
		}
		set := guardSet(plain)
		first, again := impl.SetAlts(set.set), impl.SetAlts(set.set)
		set.unchanged(t, "SetAlts")
		if !slices.Equal(first, again) {
			t.Fatalf("SetAlts(%v) is %v and then %v", plain, first, again)
		}
		apart(t, "SetAlts, twice", []memory{memoryOf(first), memoryOf(again)})
		ownMemory(t, "SetAlts", first, set.rows...)
	}
}

func TestSimulateWritesNothing(t *testing.T) {
	r := rand.New(rand.NewSource(117))
	for i := range 1500 {
		plain := randomChecked(r, 5, 3, 3, 2)
		if i%10 == 0 {
			plain = randomGram(r, 5, 3, 3)
		}
		k, behind := r.Intn(len(plain.Parts)), randomRow(r, len(plain.Parts), r.Intn(4))
		input := []int{0, 26}
		if i%10 > 1 {
			input = sampleOf(r, plain, append([]int{100 + k}, behind...))
		}
		at := r.Intn(len(input)+3) - 1
		g, rest, w := guardGram(plain), guard("a rest", behind), guard("an input", input)
		told := outlookOf(g.gram, k, rest.list, w.list, at)
		again := outlookOf(g.gram, k, rest.list, w.list, at)
		g.unchanged(t, "Simulate")
		rest.unchanged(t, "Simulate")
		w.unchanged(t, "Simulate")
		if told != again || told != outlookOf(copyOfGram(plain), k, slices.Clone(behind), slices.Clone(input), at) {
			t.Fatalf("Simulate of %v, %d, %v, %v and %d tells %v and then something else", plain, k, behind, input, at, told)
		}
	}
}
