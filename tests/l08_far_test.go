package tests

import (
	"fmt"
	"math"
	"math/rand"
	"slices"
	"testing"

	"loop.example/g00485/impl"
)

// The functions as the document writes them down.
var (
	_ func(impl.Gram, []int, []int, int) int             = impl.Far
	_ func(impl.Gram, int, []int, []int, int) (int, int) = impl.Choose
	_ func(impl.Gram, int, []int, []int, int) []int      = impl.Sure
)

func TestConstantsOfFar(t *testing.T) {
	if impl.MaxRow != 200 {
		t.Error("MaxRow", impl.MaxRow)
	}
}

// plainBeginner asks what can begin, by all places at which an input can be cut.
// In a grammar that is checked whatever stands behind becomes something, so it does not count.
type plainBeginner struct {
	plainCounter
	begins map[span]bool
}

func (b *plainBeginner) ofPart(k, from, to int) bool {
	key := span{k, -1, 0, from, to}
	is, ok := b.begins[key]
	if !ok {
		for a, row := range b.g.Parts[k] {
			is = is || b.ofRow(row, span{k, a, 0, from, to})
		}
		b.begins[key] = is
	}
	return is
}

func (b *plainBeginner) ofRow(row []int, key span) bool {
	if key.from == key.to || len(row) == 0 {
		return key.from == key.to
	}
	if is, ok := b.begins[key]; ok {
		return is
	}
	is := row[0] >= 100 && b.ofPart(row[0]-100, key.from, key.to)
	for cut := key.from; cut <= key.to && !is; cut++ {
		if b.becomes(row[0], key.from, cut) {
			is = b.ofRow(row[1:], span{key.part, key.alt, key.ahead + 1, cut, key.to})
		}
	}
	b.begins[key] = is
	return is
}

func (b *plainBeginner) becomes(s, from, to int) bool {
	if s >= 100 {
		return b.part(s-100, from, to) > 0
	}
	return to == from+1 && b.w[from] == s
}

// goesPlainly is Far of what it can be asked of.
func goesPlainly(g impl.Gram, row, w []int, at int) int {
	b := plainBeginner{plainCounter{g, w, map[span]int{}}, map[span]bool{}}
	n := len(w) - at
	for !b.ofRow(row, span{-1, -2, 0, at, at + n}) {
		n--
	}
	if at+n == len(w) && waysPlainly(g, row, w[at:]) > 0 {
		return n + 1
	}
	return n
}

// farPlainly is Far put down as the document says it, of a grammar of which it is known whether it is checked.
func farPlainly(g impl.Gram, checked bool, row, w []int, at int) int {
	if !checked || !inputOkPlainly(w) || at < 0 || at > len(w) || len(row) > 200 {
		return -1
	}
	if slices.ContainsFunc(row, func(s int) bool { return s < 0 || s > 25 && s < 100 || s >= 100+len(g.Parts) }) {
		return -1
	}
	return goesPlainly(g, row, w, at)
}

// A choice is what Choose and Sure tell.
type choice struct {
	alt, look int
	sure      []int
}

func sameChoice(a, b choice) bool {
	return a.alt == b.alt && a.look == b.look && slices.Equal(a.sure, b.sure)
}

var noChoice = choice{-1, 0, nil}

// choiceAmong is what is to be told of alternatives that go so far.
func choiceAmong(fars []int, left int) choice {
	if slices.Contains(fars, -1) {
		return noChoice
	}
	var c choice
	for a, far := range fars {
		if far > fars[c.alt] {
			c.alt = a
		}
		if far == left+1 {
			c.sure = append(c.sure, a)
		}
	}
	if len(fars) > 1 {
		others := slices.Delete(slices.Clone(fars), c.alt, c.alt+1)
		c.look = min(left, slices.Max(others)+1)
	}
	return c
}

func choicePlainly(g impl.Gram, checked bool, k int, rest, w []int, at int) choice {
	if k < 0 || k >= len(g.Parts) || !checked {
		return noChoice
	}
	var fars []int
	for _, alt := range g.Parts[k] {
		fars = append(fars, farPlainly(g, checked, slices.Concat(alt, rest), w, at))
	}
	return choiceAmong(fars, len(w)-at)
}

func choiceOf(g impl.Gram, k int, rest, w []int, at int) choice {
	alt, look := impl.Choose(g, k, rest, w, at)
	return choice{alt, look, impl.Sure(g, k, rest, w, at)}
}

// An asker holds what is told of a grammar against what the document says.
type asker struct {
	t       *testing.T
	g       impl.Gram
	checked bool
}

func askerOf(t *testing.T, g impl.Gram) asker {
	return asker{t, g, reasonsPlainly(g)[0] == 0}
}

func (a asker) far(row, w []int, at int) int {
	a.t.Helper()
	got := impl.Far(a.g, row, w, at)
	if want := farPlainly(a.g, a.checked, row, w, at); got != want {
		a.t.Fatalf("Far(%v, %v, %v, %d) = %d, want %d", a.g, row, w, at, got, want)
	}
	return got
}

func (a asker) choice(k int, rest, w []int, at int) choice {
	a.t.Helper()
	got := choiceOf(a.g, k, rest, w, at)
	if want := choicePlainly(a.g, a.checked, k, rest, w, at); !sameChoice(got, want) {
		a.t.Fatalf("Choose and Sure of %v, %d, %v, %v, %d are %v, want %v", a.g, k, rest, w, at, got, want)
	}
	return got
}

// all holds what is told of each place of an input, and of each part with such rests behind it.
func (a asker) all(w []int, rows ...[]int) {
	a.t.Helper()
	for at := range len(w) + 1 {
		for _, row := range rows {
			a.far(row, w, at)
			for k := range a.g.Parts {
				a.choice(k, row, w, at)
			}
		}
	}
}

// nothing wants that nothing is told.
func (a asker) nothing(k int, row, w []int, at int) {
	a.t.Helper()
	if got := a.far(row, w, at); got != -1 {
		a.t.Fatalf("Far(%v, %v, %v, %d) = %d, want -1", a.g, row, w, at, got)
	}
	if got := a.choice(k, row, w, at); !sameChoice(got, noChoice) {
		a.t.Fatalf("Choose and Sure of %v, %d, %v, %v, %d are %v", a.g, k, row, w, at, got)
	}
}

func TestFarOfGrammarsThatAreRefused(t *testing.T) {
	for _, x := range refusedGrams(t) {
		if code := impl.Check(x.g); code != x.code {
			t.Errorf("Check(%v) = %d, want %d", x.g, code, x.code)
		}
		a := askerOf(t, x.g)
		for _, w := range append(badInputs(), nil, []int{}, []int{0}, []int{1}, []int{0, 0}) {
			for _, row := range [][]int{nil, {}, w, {0}, {100}, {100, 100}, {101}, {26}} {
				for _, at := range []int{-1, 0, len(w), len(w) + 1} {
					for k := -1; k < 3; k++ {
						a.nothing(k, row, w, at)
					}
				}
			}
		}
	}
}

func TestFarOfInputsThatAreNotOk(t *testing.T) {
	for _, s := range []string{"S = a S | z S | ;", "S = ;", "S = a ;"} {
		a := askerOf(t, gramFrom(t, s))
		for _, w := range badInputs() {
			for _, row := range [][]int{nil, {0}, {100}, {100, 100}, {0, 100}, w[:min(len(w), 200)]} {
				for _, at := range []int{-1, 0, 1, len(w) / 2, len(w) - 1, len(w), len(w) + 1} {
					a.nothing(0, row, w, at)
				}
			}
		}
	}
	g := gramFrom(t, "S = a S | ;")
	for n := range 14 {
		w := make([]int, n)
		far, choice := impl.Far(g, []int{100}, w, 0), choiceOf(g, 0, nil, w, 0)
		if n > 10 && (far != -1 || !sameChoice(choice, noChoice)) || n <= 10 && far != n+1 {
			t.Errorf("Far of %d letters = %d, %v", n, far, choice)
		}
	}
}

// noPlaces are numbers that are no place of an input of so many letters.
func noPlaces(n int) []int {
	return []int{-1, -2, -n - 1, -11, -1000, n + 1, n + 2, 11, 12, 100, 1000, 1 << 32, 1<<32 + n, -1 << 32, math.MaxInt, math.MaxInt - 1, math.MinInt, math.MinInt + 1, math.MinInt + n}
}

func TestFarOfPlaces(t *testing.T) {
	for _, s := range []string{"S = a S b | ;", "S = a b | a | ;", "S = ;", "S = a ;", "S = T T | T a T ; T = b | b a | ;"} {
		a := askerOf(t, gramFrom(t, s))
		for _, full := range []string{"aaaaabbbbb", "aaaaaaaaaa", "abababab", "bbabba"} {
			for n := range len(full) + 1 {
				w := lettersOf(full[:n])
				for _, row := range [][]int{nil, {0}, {100}, {100, 1}, {26}} {
					for _, at := range noPlaces(n) {
						a.nothing(0, row, w, at)
					}
				}
				a.all(w, nil, []int{0}, []int{100}, []int{100, 1}, []int{26})
			}
		}
	}
}

func TestFar(t *testing.T) {
	for _, x := range []struct {
		s    string
		row  []int
		w    string
		at   int
		want int
	}{
		{"S = a b c | a b d ;", []int{100}, "abd", 0, 4},
		{"S = a b c | a b d ;", []int{100}, "abc", 0, 4},
		{"S = a b c | a b d ;", []int{100}, "abcd", 0, 3},
		{"S = a b c | a b d ;", []int{100}, "abx", 0, 2},
		{"S = a b c | a b d ;", []int{100}, "ab", 0, 2},
		{"S = a b c | a b d ;", []int{100}, "axb", 0, 1},
		{"S = a b c | a b d ;", []int{100}, "a", 0, 1},
		{"S = a b c | a b d ;", []int{100}, "x", 0, 0},
		{"S = a b c | a b d ;", []int{100}, "bc", 0, 0},
		{"S = a b c | a b d ;", []int{100}, "", 0, 0},
		{"S = a b c | a b d ;", []int{100}, "xabd", 1, 4},
		{"S = a b c | a b d ;", []int{100}, "xabx", 1, 2},
		{"S = a b c | a b d ;", []int{100}, "xabd", 0, 0},
		{"S = a b c | a b d ;", []int{100}, "xabd", 2, 0},
		{"S = a b c | a b d ;", []int{100}, "xabd", 4, 0},
		{"S = a b c | a b d ;", []int{100, 100}, "abcabd", 0, 7},
		{"S = a b c | a b d ;", []int{100, 100}, "abcabx", 0, 5},
		{"S = a b c | a b d ;", []int{100, 100}, "abdabc", 3, 3},
		{"S = a b c | a b d ;", nil, "", 0, 1},
		{"S = a b c | a b d ;", nil, "a", 0, 0},
		{"S = a b c | a b d ;", nil, "a", 1, 1},
		{"S = a b c | a b d ;", []int{0}, "xa", 1, 2},
		{"S = a b c | a b d ;", []int{0}, "a", 0, 2},
		{"S = a b c | a b d ;", []int{0}, "aa", 0, 1},
		{"S = a b c | a b d ;", []int{0}, "aa", 1, 2},
		{"S = a b c | a b d ;", []int{0}, "aa", 2, 0},
		{"S = a b c | a b d ;", []int{0}, "b", 0, 0},
		{"S = a b c | a b d ;", []int{25, 24, 23}, "zyx", 0, 4},
		{"S = a b c | a b d ;", []int{25, 24, 23}, "zy", 0, 2},
		{"S = a b c | a b d ;", []int{25, 24, 23}, "zx", 0, 1},
		{"S = a b c | a b d ;", []int{25, 24, 23}, "zyxw", 0, 3},
		{"S = a b c | a b d ;", []int{25, 100, 23}, "zabdx", 0, 6},
		{"S = a b c | a b d ;", []int{25, 100, 23}, "zabdy", 0, 4},
		{"S = a b c | a b d ;", []int{101}, "", 0, -1},
		{"S = a S b | ;", []int{100}, "", 0, 1},
		{"S = a S b | ;", []int{100}, "a", 0, 1},
		{"S = a S b | ;", []int{100}, "ab", 0, 3},
		{"S = a S b | ;", []int{100}, "aab", 0, 3},
		{"S = a S b | ;", []int{100}, "aabb", 0, 5},
		{"S = a S b | ;", []int{100}, "aabbb", 0, 4},
		{"S = a S b | ;", []int{100}, "aaba", 0, 3},
		{"S = a S b | ;", []int{100}, "b", 0, 0},
		{"S = a S b | ;", []int{100}, "b", 1, 1},
		{"S = a S b | ;", []int{100}, "aaaaabbbbb", 0, 11},
		{"S = a S b | ;", []int{100}, "aaaaaabbbb", 0, 10},
		{"S = a S b | ;", []int{100}, "aaaabbbbbb", 0, 8},
		{"S = a S b | ;", []int{100}, "aaaaabbbbb", 2, 6},
		{"S = a S b | ;", []int{100, 100}, "aba", 0, 3},
		{"S = a S b | ;", []int{100, 100}, "abab", 0, 5},
		{"S = a S b | ;", []int{100, 100}, "ababa", 0, 4},
		{"S = a S b | ;", []int{100, 100, 100}, "ababa", 0, 5},
		{"S = a S b | ;", []int{100, 0}, "aba", 0, 4},
		{"S = a S b | ;", []int{100, 0}, "a", 0, 2},
		{"S = a S b | ;", []int{100, 1}, "aabb", 0, 4},
		{"S = a S b | ;", []int{100, 2}, "c", 0, 2},
		{"S = a S b | ;", []int{100, 2}, "", 0, 0},
		{"S = a* ;", []int{100}, "aaa", 0, 4},
		{"S = a* ;", []int{100}, "aaab", 0, 3},
		{"S = a* ;", []int{100}, "b", 0, 0},
		{"S = a+ ;", []int{100}, "", 0, 0},
		{"S = a+ ;", []int{100}, "aaaaaaaaaa", 0, 11},
		{"S = a | a b ;", []int{100}, "a", 0, 2},
		{"S = a b | a ;", []int{100}, "a", 0, 2},
		{"S = a b c d e f g h ;", []int{100}, "abc", 0, 3},
		{"S = a b c d e f g h ;", []int{100, 100}, "abcdefgh", 0, 8},
		{"S = a b c d e f g h ;", []int{100, 100}, "abcdefghab", 0, 10},
		{"S = a b c d e f g h ;", []int{100}, "abcdefghab", 0, 8},
		{"S = a ;", []int{100}, "aaaaaaaaaa", 0, 1},
		{"S = a ;", []int{100}, "aaaaaaaaaa", 9, 2},
		{"S = a? b? c? ;", []int{100}, "", 0, 1},
		{"S = a? b? c? ;", []int{100}, "ac", 0, 3},
		{"S = a? b? c? ;", []int{100}, "acb", 0, 2},
		{"S = a? b? c? ;", []int{100}, "cb", 0, 1},
		{"S = a? b? c? ;", []int{100, 100}, "cb", 0, 3},
		{"S = a? b? c? ;", []int{101, 102, 103, 101}, "ca", 0, 3},
		{"S = a? b? c? ;", []int{101, 102, 103, 3}, "d", 0, 2},
		{"S = a? b? c? ;", []int{101, 102, 103, 3}, "abcd", 0, 5},
		{"S = a? b? c? ;", []int{101, 102, 103, 3}, "ca", 0, 1},
		// What goes farther on the way need not be what goes farther in the end.
		{"S = T U ; T = a | a b c ; U = b c d | e ;", []int{100}, "abcd", 0, 5},
		{"S = T U ; T = a | a b c ; U = b c d | e ;", []int{100}, "abce", 0, 5},
		{"S = T U ; T = a | a b c ; U = b c d | e ;", []int{100}, "abcx", 0, 3},
		{"S = T U ; T = a | a b c ; U = b c d | e ;", []int{100}, "abe", 0, 2},
		{"S = T U ; T = a | a b c ; U = b c d | e ;", []int{100}, "ae", 0, 3},
		// A part that goes on may reach behind all the places where it can end.
		{"S = T x ; T = a | a b c d ;", []int{100}, "abcx", 0, 3},
		{"S = T x ; T = a | a b c d ;", []int{100}, "ax", 0, 3},
		{"S = T x ; T = b c d | ;", []int{100}, "bcx", 0, 2},
		{"S = i S ( e S )? | o ;", []int{100}, "iioeo", 0, 6},
		{"S = i S ( e S )? | o ;", []int{100}, "iioeoeo", 0, 8},
		{"S = i S ( e S )? | o ;", []int{100}, "ioeoeo", 0, 4},
		{"S = i S ( e S )? | o ;", []int{100}, "iie", 0, 2},
		{"S = i S ( e S )? | o ;", []int{101, 101}, "eoeo", 0, 5},
	} {
		a := askerOf(t, gramFrom(t, x.s))
		if got := a.far(x.row, lettersOf(x.w), x.at); got != x.want {
			t.Errorf("Far of %q, %v, %q, %d = %d, want %d", x.s, x.row, x.w, x.at, got, x.want)
		}
	}
}

func TestFarOfEachLetter(t *testing.T) {
	a := askerOf(t, gramFrom(t, "S = ;"))
	for s := -3; s < 30; s++ {
		for x := range 26 {
			want := 2 * oneIf(s == x)
			if s < 0 || s > 25 {
				want = -1
			}
			if got := a.far([]int{s}, []int{x}, 0); got != want {
				t.Errorf("Far of %d and %d = %d, want %d", s, x, got, want)
			}
		}
	}
}

// longRows are numbers of symbols up to more than there may be.
func longRows() []int {
	return []int{0, 1, 2, 8, 9, 10, 11, 12, 100, 190, 191, 192, 193, 198, 199, 200, 201, 202, 203, 1000, 100000}
}

func TestFarOfLongRows(t *testing.T) {
	a := askerOf(t, gramFrom(t, "S = T S | b ; T = a | ;"))
	for _, n := range longRows() {
		for m := range 11 {
			w := make([]int, m)
			letters, maybe, ends := slices.Repeat([]int{0}, n), slices.Repeat([]int{102}, n), slices.Repeat([]int{103}, n)
			for _, x := range []struct {
				g    impl.Gram
				row  []int
				want int
			}{
				{gramFrom(t, "S = a ;"), letters, min(n, m) + oneIf(n == m)},
				{gramFrom(t, "S = a? b ;"), slices.Repeat([]int{101}, n), min(n, m) + oneIf(n >= m)},
				{gramFrom(t, "S = T ; T = | a ;"), slices.Repeat([]int{101}, n), min(n, m) + oneIf(n >= m)},
				{gramFrom(t, "S = T U b V ; T = a ; U = a? ; V = ;"), maybe, min(n, m) + oneIf(n >= m)},
				{gramFrom(t, "S = T U b V ; T = a ; U = a? ; V = ;"), ends, oneIf(m == 0)},
				{gramFrom(t, "S = a* b ;"), slices.Repeat([]int{101}, n), oneIf(m == 0) + oneIf(n > 0)*(m+oneIf(m > 0))},
			} {
				if n > 200 {
					x.want = -1
				}
				if got := impl.Far(x.g, x.row, w, 0); got != x.want {
					t.Errorf("Far of %v, %d times one symbol, and %d letters = %d, want %d", x.g, n, m, got, x.want)
				}
			}
		}
		if n <= 300 {
			for _, w := range [][]int{nil, {0}, {1}, {0, 1}, {0, 0, 1, 0, 1}, lettersOf("aababaabbb")} {
				mixed := slices.Repeat([]int{101, 101, 0, 100}, n)[:n]
				a.far(mixed, w, 0)
				a.far(append(slices.Repeat([]int{101}, max(n-1, 0)), 1), w, len(w)/2)
			}
		}
	}
}

func TestChooseOfLongRests(t *testing.T) {
	full := make([]int, 8)
	for _, alts := range [][][]int{
		altsOf(nil), altsOf(full), altsOf(nil, full), altsOf(full, nil), altsOf(nil, full[:3], nil), altsOf(full[:1], full[:7]),
		altsOf(nil, []int{101, 101, 101, 101, 101, 101, 101, 101}), slices.Repeat(altsOf([]int{101, 0}), 8), slices.Repeat(altsOf(nil), 8),
	} {
		g := gramOf(altsOf([]int{101, 102}), altsOf([]int{0}, nil), alts)
		a := askerOf(t, g)
		longest := 0
		for _, alt := range alts {
			longest = max(longest, len(alt))
		}
		for _, n := range longRows() {
			for _, s := range []int{0, 1, 100, 101, 102} {
				rest := slices.Repeat([]int{s}, n)
				for _, w := range [][]int{nil, {0}, {0, 0, 0}, make([]int, 10)} {
					got := choiceOf(g, 2, rest, w, 0)
					if told := got.alt >= 0; told != (n+longest <= 200) || !told && !sameChoice(got, noChoice) {
						t.Fatalf("Choose and Sure of alternatives of %d symbols with %d behind are %v", longest, n, got)
					}
					if n <= 12 || n > 190 && n <= 203 && len(w) < 4 {
						a.choice(2, rest, w, 0)
					}
				}
			}
		}
	}
}

func TestFarOfWhatIsNoSymbol(t *testing.T) {
	wide := ladder(func(k, next int) [][]int { return altsOf([]int{0, next}, nil) }, altsOf([]int{0}, nil))
	for _, g := range []impl.Gram{gramFrom(t, "S = a S b | ;"), gramFrom(t, "S = a T | ; T = b S | c ;"), wide} {
		a := askerOf(t, g)
		for _, x := range noSymbols(len(g.Parts)) {
			for _, row := range [][]int{nil, {0}, {100}, {0, 1}, {100, 100}, {0, 100, 1}, {7}, {7, 100}, {100, 7, 100}, slices.Repeat([]int{100}, 191), slices.Repeat([]int{7}, 150)} {
				for _, at := range []int{0, len(row) / 2, len(row)} {
					wrong := slices.Insert(slices.Clone(row), at, x)
					for _, w := range [][]int{nil, {0}, {1}, {0, 1}, {0, 0, 1, 1}, {7}, {5}, {0, 5}, {x}, {0, x}} {
						for place := range len(w) + 1 {
							for _, k := range []int{0, len(g.Parts) - 1} {
								a.nothing(k, wrong, w, place)
							}
						}
					}
				}
			}
		}
	}
	if impl.Far(wide, []int{119, 100, 119}, make([]int, 3), 0) != 4 || impl.Far(wide, []int{120}, nil, 0) != -1 {
		t.Error("the last part of twenty")
	}
}

func TestFarBehindTheLastLetter(t *testing.T) {
	for _, x := range []struct {
		s    string
		row  []int
		want int
	}{
		{"S = ;", []int{100}, 1},
		{"S = ;", nil, 1},
		{"S = a ;", []int{100}, 0},
		{"S = a ;", []int{0}, 0},
		{"S = a ;", nil, 1},
		{"S = a | ;", []int{100}, 1},
		{"S = a | ;", []int{100, 100, 100}, 1},
		{"S = a | ;", []int{100, 100, 0}, 0},
		{"S = a | ;", []int{0, 100, 100}, 0},
		{"S = T a ; T = | b ;", []int{101}, 1},
		{"S = T a ; T = | b ;", []int{101, 100}, 0},
		{"S = T T ; T = U U | a ; U = b | ;", []int{100, 101, 102}, 1},
		{"S = T T ; T = U U | a ; U = b | ;", []int{100, 101, 102, 1}, 0},
	} {
		a := askerOf(t, gramFrom(t, x.s))
		for _, w := range []string{"", "a", "b", "ab", "aaaaaaaaa", "aaaaaaaaab", "bbbbbbbbbb"} {
			if got := a.far(x.row, lettersOf(w), len(w)); got != x.want {
				t.Errorf("Far of %q, %v behind %q = %d, want %d", x.s, x.row, w, got, x.want)
			}
			for k := range a.g.Parts {
				if got := a.choice(k, x.row, lettersOf(w), len(w)); got.look != 0 {
					t.Errorf("Choose of %q, %d, %v behind %q looks at %d", x.s, k, x.row, w, got.look)
				}
			}
		}
	}
}

func TestChooseAndSure(t *testing.T) {
	for _, x := range []struct {
		s    string
		k    int
		rest []int
		w    string
		at   int
		want choice
	}{
		{"S = a b c | a b d ;", 0, nil, "abd", 0, choice{1, 3, []int{1}}},
		{"S = a b c | a b d ;", 0, nil, "abx", 0, choice{0, 3, nil}},
		{"S = a b c | a b d ;", 0, nil, "ab", 0, choice{0, 2, nil}},
		{"S = a b c | a b d ;", 0, nil, "", 0, choice{0, 0, nil}},
		{"S = a b c | a b d ;", 0, nil, "abcx", 0, choice{0, 3, nil}},
		{"S = a b c | a b d ;", 0, nil, "zabd", 1, choice{1, 3, []int{1}}},
		{"S = a b c | a b d ;", 0, nil, "zabd", 0, choice{0, 1, nil}},
		{"S = a b c | a b d ;", 0, nil, "zabd", 4, choice{0, 0, nil}},
		{"S = a b c | a b d ;", 1, nil, "abd", 0, noChoice},
		{"S = a b c | a b d ;", -1, nil, "abd", 0, noChoice},
		// One alternative is taken with no letter looked at, whatever it goes with.
		{"S = a ;", 0, nil, "a", 0, choice{0, 0, []int{0}}},
		{"S = a ;", 0, nil, "b", 0, choice{0, 0, nil}},
		{"S = a ;", 0, nil, "", 0, choice{0, 0, nil}},
		{"S = a ;", 0, []int{1}, "ab", 0, choice{0, 0, []int{0}}},
		{"S = a ;", 0, []int{26}, "ab", 0, noChoice},
		{"S = ;", 0, nil, "", 0, choice{0, 0, []int{0}}},
		// All go with no letter.
		{"S = a | b | c ;", 0, nil, "d", 0, choice{0, 1, nil}},
		{"S = a | b | c ;", 0, nil, "dabc", 0, choice{0, 1, nil}},
		{"S = a | b | c ;", 0, nil, "", 0, choice{0, 0, nil}},
		{"S = a | b | c ;", 0, nil, "abc", 3, choice{0, 0, nil}},
		// The greatest first, in the midst and last.
		{"S = a | b | c ;", 0, nil, "a", 0, choice{0, 1, []int{0}}},
		{"S = a | b | c ;", 0, nil, "b", 0, choice{1, 1, []int{1}}},
		{"S = a | b | c ;", 0, nil, "c", 0, choice{2, 1, []int{2}}},
		{"S = a | b | c ;", 0, nil, "cab", 0, choice{2, 1, nil}},
		{"S = a | b | c ;", 0, nil, "cab", 1, choice{0, 1, nil}},
		{"S = a b c d | a b | a ;", 0, nil, "abcd", 0, choice{0, 3, []int{0}}},
		{"S = a b | a b c d | a ;", 0, nil, "abcd", 0, choice{1, 3, []int{1}}},
		{"S = a b | a | a b c d ;", 0, nil, "abcd", 0, choice{2, 3, []int{2}}},
		{"S = a b | a | a b c d ;", 0, nil, "abc", 0, choice{2, 3, nil}},
		{"S = a b | a | a b c d ;", 0, nil, "ab", 0, choice{0, 2, []int{0}}},
		{"S = a b | a | a b c d ;", 0, nil, "a", 0, choice{1, 1, []int{1}}},
		// The look that is bounded by the letters that are left, and one that is not.
		{"S = a a a b | a c ;", 0, nil, "aaab", 0, choice{0, 2, []int{0}}},
		{"S = a a a b | a a a c ;", 0, nil, "aaab", 0, choice{0, 4, []int{0}}},
		{"S = a a a b | a a a c ;", 0, nil, "aaa", 0, choice{0, 3, nil}},
		{"S = a a a b | a a a c ;", 0, nil, "aaad", 0, choice{0, 4, nil}},
		{"S = a a a b | a a a c ;", 0, nil, "aaaddd", 0, choice{0, 4, nil}},
		{"S = a a a b | a a a c ;", 0, nil, "aaaddd", 1, choice{0, 3, nil}},
		{"S = a a a b | a a a c ;", 0, nil, "aaaddd", 3, choice{0, 1, nil}},
		// Two and three with the same greatest.
		{"S = a b | a c | a d x ;", 0, nil, "ad", 0, choice{2, 2, nil}},
		{"S = a b | a c | a d x ;", 0, nil, "adxx", 0, choice{2, 2, nil}},
		{"S = a b | a c | a d x ;", 0, nil, "axxx", 0, choice{0, 2, nil}},
		{"S = a b | a c | a b ;", 0, nil, "ab", 0, choice{0, 2, []int{0, 2}}},
		{"S = a c | a b | a b ;", 0, nil, "abx", 0, choice{1, 3, nil}},
		{"S = b | a a | a c | a d ;", 0, nil, "ae", 0, choice{1, 2, nil}},
		{"S = b | a a | a c | a d ;", 0, nil, "aexxx", 0, choice{1, 2, nil}},
		{"S = b | a a | a c | a d ;", 0, nil, "a", 0, choice{1, 1, nil}},
		// Two that are the same, and none, some and all that are sure.
		{"S = a | a ;", 0, nil, "a", 0, choice{0, 1, []int{0, 1}}},
		{"S = a | a ;", 0, nil, "aaa", 0, choice{0, 2, nil}},
		{"S = a | a ;", 0, nil, "b", 0, choice{0, 1, nil}},
		{"S = b | a | b | a | b ;", 0, nil, "a", 0, choice{1, 1, []int{1, 3}}},
		{"S = | | ;", 0, nil, "", 0, choice{0, 0, []int{0, 1, 2}}},
		{"S = | | ;", 0, nil, "a", 0, choice{0, 1, nil}},
		{"S = a S | a S | ;", 0, nil, "aaaaaaaaaa", 0, choice{0, 10, []int{0, 1}}},
		{"S = a* ;", 1, nil, "aa", 0, choice{0, 1, []int{0}}},
		{"S = a* ;", 1, nil, "", 0, choice{1, 0, []int{1}}},
		{"S = a* ;", 1, nil, "ab", 0, choice{0, 1, nil}},
		{"S = a* ;", 1, nil, "ba", 0, choice{0, 1, nil}},
		{"S = a* ;", 1, []int{101}, "aa", 0, choice{0, 2, []int{0, 1}}},
		// What stands behind counts.
		{"S = T b ; T = a | a b ;", 1, nil, "ab", 0, choice{1, 2, []int{1}}},
		{"S = T b ; T = a | a b ;", 1, []int{1}, "ab", 0, choice{0, 2, []int{0}}},
		{"S = T b ; T = a | a b ;", 1, []int{1}, "abb", 0, choice{1, 3, []int{1}}},
		{"S = T b ; T = a | a b ;", 1, []int{1, 101}, "abba", 0, choice{1, 3, []int{1}}},
		{"S = T b ; T = a | a b ;", 1, []int{101}, "aab", 0, choice{0, 2, []int{0}}},
		{"S = T b ; T = a | a b ;", 1, []int{101, 101}, "aab", 0, choice{0, 2, nil}},
		{"S = T b ; T = a | ;", 1, []int{0}, "a", 0, choice{1, 1, []int{1}}},
		{"S = T b ; T = a | ;", 1, []int{0}, "aa", 0, choice{0, 2, []int{0}}},
		{"S = T b ; T = a | ;", 1, []int{1}, "b", 0, choice{1, 1, []int{1}}},
		{"S = i S ( e S )? | o ;", 1, []int{101}, "eo", 0, choice{0, 2, []int{0, 1}}},
		{"S = i S ( e S )? | o ;", 1, nil, "eo", 0, choice{0, 1, []int{0}}},
		{"S = i S ( e S )? | o ;", 1, nil, "oeo", 1, choice{0, 1, []int{0}}},
		{"S = i S ( e S )? | o ;", 2, nil, "", 0, noChoice},
	} {
		a := askerOf(t, gramFrom(t, x.s))
		if got := a.choice(x.k, x.rest, lettersOf(x.w), x.at); !sameChoice(got, x.want) {
			t.Errorf("Choose and Sure of %q, %d, %v, %q, %d are %v, want %v", x.s, x.k, x.rest, x.w, x.at, got, x.want)
		}
	}
}

func TestChooseOfPartsThatAreNotThere(t *testing.T) {
	wide := ladder(func(k, next int) [][]int { return altsOf([]int{next}, nil) }, altsOf([]int{0}, nil))
	for _, g := range []impl.Gram{gramFrom(t, "S = ;"), gramFrom(t, "S = a | ;"), gramFrom(t, "S = a T ; T = b | ;"), wide} {
		n := len(g.Parts)
		a := askerOf(t, g)
		for _, k := range []int{-1, -2, -100, n, n + 1, 20, 21, 26, 100, 100 + n, 1 << 32, math.MaxInt, math.MaxInt - 1, math.MinInt, math.MinInt + 1} {
			for _, w := range [][]int{nil, {0}, {0, 1}, make([]int, 10)} {
				for at := range len(w) + 1 {
					for _, rest := range [][]int{nil, {0}, {100}, {26}} {
						if got := a.choice(k, rest, w, at); !sameChoice(got, noChoice) {
							t.Errorf("Choose and Sure of %v, part %d, are %v", g, k, got)
						}
					}
				}
			}
		}
	}
}

// partOfFars has for each of fars an alternative that goes so far with the letters a, b and so on, with seven of which eight are all of it.
func partOfFars(fars []int) [][]int {
	var alts [][]int
	for _, far := range fars {
		row := upTo(min(far, 7))
		if far < 8 {
			row = append(row, 25)
		}
		alts = append(alts, row)
	}
	return alts
}

// farsWith is how far they go with n letters of which the first seven are a to g.
func farsWith(fars []int, n int) []int {
	var out []int
	for _, far := range fars {
		switch {
		case far == 8:
			out = append(out, min(7, n)+oneIf(n == 7))
		default:
			out = append(out, min(far, n))
		}
	}
	return out
}

func TestChooseOfEachNumberOfLetters(t *testing.T) {
	asked := func(fars []int) {
		t.Helper()
		g := gramOf(partOfFars(fars))
		for n := range 11 {
			w := lettersOf("abcdefgxyz")[:n]
			for at := range 11 - n {
				shifted := append(slices.Repeat([]int{at}, at), w...)
				got := choiceOf(g, 0, nil, shifted, at)
				if want := choiceAmong(farsWith(fars, n), n); !sameChoice(got, want) {
					t.Fatalf("Choose and Sure of %v, %v, %d are %v, want %v", g, shifted, at, got, want)
				}
			}
		}
	}
	for a := range 9 {
		asked([]int{a})
		for b := range 9 {
			asked([]int{a, b})
			for c := range 9 {
				asked([]int{a, b, c})
			}
		}
	}
	r := rand.New(rand.NewSource(81))
	for range 1000 {
		var fars []int
		for range 4 + r.Intn(5) {
			fars = append(fars, r.Intn(9))
		}
		asked(fars)
	}
	for at := range 8 {
		for far := range 9 {
			for others := range 9 {
				fars := slices.Repeat([]int{others}, 8)
				fars[at] = far
				asked(fars)
			}
		}
	}
}

func TestFarByWayOfAllPartsAndAllLetters(t *testing.T) {
	full := lettersOf("abcdefghij")
	single, turned, skips := singleLadder(), turnedLadder(), skippingLadder()
	tries := ladder(func(k, next int) [][]int {
		return altsOf([]int{25}, []int{0, 1, 25}, []int{0, 1, 2, 25}, []int{0, 1, 2, 3, 25}, []int{24}, []int{next, 25}, []int{23}, []int{next})
	}, altsOf([]int{25}, []int{0, 25}, nil, []int{0, 1, 2, 3, 4, 5, 6, 7}, []int{25}, nil, []int{0, 1, 2, 3, 4, 5, 6}, []int{0, 1, 2, 3, 4, 5, 25}))
	for _, to := range orders() {
		for _, x := range []struct {
			g    impl.Gram
			row  []int
			w    []int
			want int
		}{
			{single, nil, full, 11}, {single, []int{0}, full, 10}, {single, nil, full[:9], 9}, {single, nil, full[1:], 0},
			{single, nil, append(slices.Clone(full[:9]), 25), 9}, {single, nil, nil, 0},
			{turned, nil, full, 11}, {turned, nil, full[:9], 9}, {turned, nil, append([]int{20}, full[:9]...), 10}, {turned, []int{25}, lettersOf("abz"), 2},
			{skips, nil, full, 11}, {skips, nil, full[:9], 10}, {skips, nil, lettersOf("abcdefghia"), 11}, {skips, nil, lettersOf("jjabcdefgh"), 1}, {skips, []int{9}, lettersOf("hgj"), 4}, {skips, []int{9}, lettersOf("hgfj"), 2},
			{tries, nil, lettersOf("abcdefgh"), 9}, {tries, nil, lettersOf("abcdefgz"), 9}, {tries, nil, lettersOf("abcdefgzzz"), 11},
			{tries, nil, lettersOf("abcdefgy"), 7}, {tries, nil, lettersOf("abcdefghz"), 10}, {tries, nil, lettersOf("abcdefghy"), 8},
		} {
			g := renumbered(x.g, to)
			a := askerOf(t, g)
			row := append([]int{100}, x.row...)
			if got := a.far(row, x.w, 0); got != x.want {
				t.Fatalf("Far(%v, %v, %v, 0) = %d, want %d", g, row, x.w, got, x.want)
			}
			for _, k := range []int{0, to[1], to[18], to[19]} {
				a.choice(k, x.row, x.w, 0)
			}
		}
	}
	last := choiceOf(tries, 19, []int{25}, lettersOf("abcdefghz"), 0)
	if want := (choice{3, 8, []int{3}}); !sameChoice(last, want) {
		t.Errorf("the last part of twenty: %v, want %v", last, want)
	}
}

func TestFarOfManyPartsThatCanBecomeNothing(t *testing.T) {
	g := manyEmpty(t)
	a := askerOf(t, g)
	r := rand.New(rand.NewSource(82))
	met := map[int]int{}
	for range 300 {
		row := randomRow(r, 20, []int{r.Intn(9), r.Intn(201)}[r.Intn(2)])
		for i, s := range row {
			if s < 100 && r.Intn(40) > 0 {
				row[i] = 100 + r.Intn(20)
			}
		}
		w := sampleOf(r, g, row)
		if len(w) > 10 {
			w = w[:10]
		}
		near := nearTo(w)
		for _, input := range [][]int{w, near[r.Intn(len(near))]} {
			if len(input) <= 10 {
				at := r.Intn(len(input) + 1)
				met[oneIf(a.far(row, input, at) > len(input)-at)]++
				a.choice(r.Intn(20), row, input, at)
			}
		}
	}
	if met[0] < 100 || met[1] < 100 {
		t.Error("too few", met)
	}
}

// rightAndNear are an input that a row becomes, or the beginning of one, and one that is near to it.
func rightAndNear(r *rand.Rand, g impl.Gram, row []int) [][]int {
	w := sampleOf(r, g, row)
	w = w[:min(len(w), 10)]
	near := nearTo(w)
	other := near[r.Intn(len(near))]
	return [][]int{w, other[:min(len(other), 10)]}
}

// askSome asks of a grammar by chance: of parts and rests, of what they become or what is near to it, and of places.
func askSome(a asker, r *rand.Rand, rows int, met map[int]int) {
	a.t.Helper()
	n := len(a.g.Parts)
	for range rows {
		k, rest := r.Intn(n), randomRow(r, n, r.Intn(4))
		for i, s := range rest {
			if s < 100 {
				rest[i] = s % 3
			}
		}
		row := append([]int{100 + k}, rest...)
		for _, input := range rightAndNear(r, a.g, row) {
			for _, place := range []int{0, r.Intn(len(input) + 1)} {
				a.far(row, input, place)
				met[len(a.choice(k, rest, input, place).sure)]++
			}
		}
	}
}

func TestFarOfRandomGrammars(t *testing.T) {
	r := rand.New(rand.NewSource(83))
	met := map[int]int{}
	for i := range 800 {
		g := randomChecked(r, []int{2, 3, 5, 8}[i%4], 1+i%5, 2+i%4, 2)
		a := askerOf(t, g)
		if i%5 == 0 {
			a.all([]int{0, 1, 0}, nil, []int{100}, []int{1, 100})
		}
		askSome(a, r, 6, met)
		wrong := randomRow(r, len(g.Parts), 3)
		wrong[r.Intn(3)] = noSymbols(len(g.Parts))[r.Intn(16)]
		a.nothing(r.Intn(len(g.Parts)), wrong, []int{0, 1}, r.Intn(3))
		a.nothing(0, nil, []int{0, 1}, noPlaces(2)[r.Intn(19)])
	}
	if met[0] < 1000 || met[1] < 1000 || met[2] < 500 || met[3] < 100 {
		t.Error("too few that are sure", met)
	}
}

func TestFarOfGreatGrammars(t *testing.T) {
	r := rand.New(rand.NewSource(84))
	met := map[int]int{}
	someShort := func(rows [][]int) {
		for _, a := range r.Perm(8)[:4] {
			rows[a] = listsOf([]int{0, 1}, 2)[1+r.Intn(6)]
		}
	}
	for range 25 {
		g := greatGram(r, someShort)
		askSome(askerOf(t, g), r, 6, met)
	}
	if met[0] < 100 || met[1] < 20 {
		t.Error("too few that are sure", met)
	}
}

// closedForms are the rows that begin with a letter, or are empty, to which such rows come by alternatives that are put for a part that stands first; false, where they are too many.
func closedForms(g impl.Gram, rows [][]int, most int) ([][]int, bool) {
	var out [][]int
	seen := map[string]bool{}
	for at := 0; at < len(rows); at++ {
		row := rows[at]
		key := fmt.Sprint(row)
		switch {
		case len(seen) > most:
			return nil, false
		case seen[key]:
		case len(row) == 0 || row[0] < 100:
			out = append(out, row)
		default:
			for _, alt := range g.Parts[row[0]-100] {
				rows = append(rows, slices.Concat(alt, row[1:]))
			}
		}
		seen[key] = true
	}
	return out, true
}

// farSeen goes letter by letter with all that a row can become; false, where that is too much.
func farSeen(g impl.Gram, row, w []int) (int, bool) {
	forms, ok := closedForms(g, [][]int{row}, 500)
	for n, x := range w {
		var next [][]int
		for _, form := range forms {
			if len(form) > 0 && form[0] == x {
				next = append(next, form[1:])
			}
		}
		if len(next) == 0 || !ok {
			return n, ok
		}
		forms, ok = closedForms(g, next, 500)
	}
	whole := slices.ContainsFunc(forms, func(form []int) bool { return len(form) == 0 })
	return len(w) + oneIf(whole), ok
}

// sureSeen holds what is told of the alternatives of a part against what they can become, and tells how many are sure, or -1 where there is too much to go through.
func sureSeen(t *testing.T, g impl.Gram, k int, rest, w []int, at int) int {
	t.Helper()
	var fars, sure []int
	for a, alt := range g.Parts[k] {
		row := slices.Concat(alt, rest)
		far, ok := farSeen(g, row, w[at:])
		if !ok {
			return -1
		}
		if got := impl.Far(g, row, w, at); got != far {
			t.Fatalf("Far(%v, %v, %v, %d) = %d, but it is seen to be %d", g, row, w, at, got, far)
		}
		is := impl.Derives(g, row, w[at:])
		if is != (far == len(w)-at+1) {
			t.Fatalf("Derives(%v, %v, %v) = %v, but Far is %d", g, row, w[at:], is, far)
		}
		if is {
			sure = append(sure, a)
		}
		fars = append(fars, far)
	}
	got := choiceOf(g, k, rest, w, at)
	if want := choiceAmong(fars, len(w)-at); !slices.Equal(got.sure, sure) || !sameChoice(got, want) {
		t.Fatalf("Choose and Sure of %v, %d, %v, %v, %d are %v, want %v", g, k, rest, w, at, got, want)
	}
	if len(sure) > 0 && !slices.Contains(sure, got.alt) {
		t.Fatalf("Choose(%v, %d, %v, %v, %d) = %d, but those are sure: %v", g, k, rest, w, at, got.alt, sure)
	}
	return len(sure)
}

// ofSmallChecked asks of each small grammar with each short input, and with parts, rests and places by turns.
func ofSmallChecked(ask func(g impl.Gram, k int, rest, w []int, at int)) {
	turn := 0
	inputs := listsOf([]int{0, 1}, 3)
	rests := [][]int{nil, {0}, {100}, {101}, {101, 100}, {1, 101}}
	for _, g := range smallChecked() {
		for _, w := range inputs {
			turn++
			ask(g, turn/6%2, rests[turn%6], w, turn/12%(len(w)+1))
		}
	}
}

// Promise 8: where some alternative becomes what is left, the one that is chosen does.
func TestTheOneThatIsChosenBecomesWhatIsLeft(t *testing.T) {
	met := make([]int, 3)
	ofSmallChecked(func(g impl.Gram, k int, rest, w []int, at int) {
		n := sureSeen(t, g, k, rest, w, at)
		if n < 0 {
			t.Fatalf("%v of %v becomes too much", w, g)
		}
		met[n]++
	})
	if slices.Min(met) < 100 {
		t.Error("too few that are sure", met)
	}
}

func TestTheOneThatIsChosenInARandomGrammarBecomesWhatIsLeft(t *testing.T) {
	r := rand.New(rand.NewSource(85))
	met := map[int]int{}
	for i := range 2500 {
		g := randomChecked(r, 1+i%5, 1+i%4, 2+i%3, 2)
		k := r.Intn(len(g.Parts))
		for range 4 {
			rest := checkedRow(r, -1, len(g.Parts), r.Intn(4), 2)
			w := sampleOf(r, g, append([]int{100 + k}, rest...))
			w = w[:min(len(w), 10)]
			near := nearTo(w)
			for _, input := range [][]int{w, near[r.Intn(len(near))]} {
				if len(input) <= 10 {
					met[min(sureSeen(t, g, k, rest, input, 0), 2)]++
					met[min(sureSeen(t, g, k, rest, input, r.Intn(len(input)+1)), 2)]++
				}
			}
		}
	}
	if met[0] < 1000 || met[1] < 1000 || met[2] < 300 || met[-1] > 5000 {
		t.Error("too few that are sure", met)
	}
}

// What is told of a row at 0 is one more than there are letters just where Derives is true.
func TestARowGoesWithAllJustWhereItBecomesIt(t *testing.T) {
	r := rand.New(rand.NewSource(86))
	met := make([]int, 2)
	for i := range 2000 {
		g := randomChecked(r, 1+i%6, 3, 3, 2)
		row := randomRow(r, len(g.Parts), r.Intn(9))
		for at := range row {
			if row[at] < 100 {
				row[at] %= 2
			}
		}
		inputs := listsOf([]int{0, 1}, 2)
		for range 4 {
			w := sampleOf(r, g, row)
			near := nearTo(w[:min(len(w), 10)])
			inputs = append(inputs, w, near[r.Intn(len(near))])
		}
		for _, w := range inputs {
			is := impl.Derives(g, row, w)
			if far := impl.Far(g, row, w, 0); is != (far == len(w)+1) {
				t.Fatalf("Far(%v, %v, %v, 0) = %d, but Derives is %v", g, row, w, far, is)
			}
			met[oneIf(is)]++
		}
	}
	if slices.Min(met) < 2000 {
		t.Error("too few", met)
	}
}

// What stands ahead of the place does not count, and a part goes as far as one of its alternatives.
func TestFarOfWhatIsLeft(t *testing.T) {
	r := rand.New(rand.NewSource(87))
	for i := range 1500 {
		g := randomChecked(r, 1+i%6, 4, 4, 2)
		rest := checkedRow(r, -1, len(g.Parts), r.Intn(4), 2)
		w := sampleOf(r, g, append([]int{100}, rest...))
		w = w[:min(len(w), 10)]
		for at := range len(w) + 1 {
			other := slices.Clone(w)
			for place := range at {
				other[place] = 25 - other[place]
			}
			for k, alts := range g.Parts {
				row := append([]int{100 + k}, rest...)
				far, most := impl.Far(g, row, w, at), -1
				for _, alt := range alts {
					most = max(most, impl.Far(g, slices.Concat(alt, rest), w, at))
				}
				if far != most || far != impl.Far(g, row, w[at:], 0) || far != impl.Far(g, row, other, at) {
					t.Fatalf("Far(%v, %v, %v, %d) = %d; of its alternatives %d, of the letters alone %d", g, row, w, at, far, most, impl.Far(g, row, w[at:], 0))
				}
				if got, alone := choiceOf(g, k, rest, w, at), choiceOf(g, k, rest, w[at:], 0); !sameChoice(got, alone) {
					t.Fatalf("Choose and Sure of %v, %d, %v, %v, %d are %v, but of the letters alone %v", g, k, rest, w, at, got, alone)
				}
			}
		}
	}
}

func TestFarIsAskedWithoutWriting(t *testing.T) {
	r := rand.New(rand.NewSource(88))
	calls := []struct {
		name string
		tell func(g impl.Gram, k int, row, w []int, at int) string
	}{
		{"Far", func(g impl.Gram, k int, row, w []int, at int) string { return fmt.Sprint(impl.Far(g, row, w, at)) }},
		{"Choose", func(g impl.Gram, k int, row, w []int, at int) string {
			return fmt.Sprint(impl.Choose(g, k, row, w, at))
		}},
		{"Sure", func(g impl.Gram, k int, row, w []int, at int) string { return fmt.Sprint(impl.Sure(g, k, row, w, at)) }},
	}
	for i := range 1000 {
		plain := randomChecked(r, 5, 3, 3, 2)
		if i%10 == 0 {
			plain = randomGram(r, 5, 3, 3)
		}
		k := r.Intn(len(plain.Parts))
		behind := randomRow(r, len(plain.Parts), r.Intn(5))
		input := []int{0, 26}
		if i%10 > 1 {
			input = sampleOf(r, plain, append([]int{100 + k}, behind...))
		}
		at := r.Intn(len(input)+3) - 1
		for _, x := range calls {
			g, row, w := guardGram(plain), guard("a row", behind), guard("an input", input)
			told := x.tell(g.gram, k, row.list, w.list, at)
			again := x.tell(g.gram, k, row.list, w.list, at)
			g.unchanged(t, x.name)
			row.unchanged(t, x.name)
			w.unchanged(t, x.name)
			if told != again || told != x.tell(copyOfGram(plain), k, slices.Clone(behind), slices.Clone(input), at) {
				t.Fatalf("%s of %v, %d, %v, %v and %d tells %q and then something else", x.name, plain, k, behind, input, at, told)
			}
		}
	}
}

func TestSureIsNewMemory(t *testing.T) {
	r := rand.New(rand.NewSource(89))
	done := 0
	for range 2000 {
		plain := randomChecked(r, 4, 4, 3, 2)
		k := r.Intn(len(plain.Parts))
		behind := checkedRow(r, -1, len(plain.Parts), r.Intn(3), 2)
		g, row, w := guardGram(plain), guard("a rest", behind), guard("an input", sampleOf(r, plain, append([]int{100 + k}, behind...)))
		first, again := impl.Sure(g.gram, k, row.list, w.list, 0), impl.Sure(g.gram, k, row.list, w.list, 0)
		if a, b := memoryOf(first), memoryOf(again); !slices.Equal(first, again) || a.from < b.to && b.from < a.to {
			t.Fatalf("Sure of %v, twice: %v and %v, and two answers share memory", plain, first, again)
		}
		done += oneIf(len(first) > 0)
		ownMemory(t, "Sure", first, append(g.lists(), row, w)...)
	}
	if done < 1000 {
		t.Error("too few answers", done)
	}
}
