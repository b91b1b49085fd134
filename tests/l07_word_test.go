package tests

import (
	"bytes"
	"fmt"
	"math"
	"math/rand"
	"slices"
	"strings"
	"sync"
	"testing"

	"loop.example/g00485/impl"
)

// The functions as the document writes them down.
var (
	_ func([]int) bool                   = impl.InputOk
	_ func(impl.Gram, []int, []int) bool = impl.Derives
	_ func(impl.Gram, []int) bool        = impl.Accepts
	_ func(impl.Gram, []int, int) int    = impl.Ways
	_ func([]int) string                 = impl.InputText
	_ func(string) ([]int, bool)         = impl.InputOf
)

func TestConstantsOfInputs(t *testing.T) {
	if impl.MaxInput != 10 {
		t.Error("MaxInput", impl.MaxInput)
	}
}

// lettersOf are the numbers of a text of small letters.
func lettersOf(s string) []int {
	var out []int
	for _, b := range []byte(s) {
		out = append(out, int(b)-'a')
	}
	return out
}

func inputOkPlainly(w []int) bool {
	return len(w) <= 10 && !slices.ContainsFunc(w, func(x int) bool { return x < 0 || x > 25 })
}

// noLetters are numbers that are no letter.
func noLetters() []int {
	return []int{-1, 26, -26, 27, 97, 99, 100, 101, 256, -231, math.MinInt, math.MinInt + 1, math.MaxInt, math.MaxInt - 1}
}

// badInputs are rows that are not InputOk.
func badInputs() [][]int {
	out := [][]int{make([]int, 11), make([]int, 12), make([]int, 1000), slices.Repeat([]int{25}, 11), slices.Repeat([]int{26}, 11)}
	for _, x := range noLetters() {
		out = append(out, []int{x}, []int{x, 0}, []int{0, x}, []int{0, x, 0}, append(make([]int, 9), x), slices.Repeat([]int{x}, 10))
	}
	return out
}

func TestInputOk(t *testing.T) {
	for _, w := range [][]int{nil, {}, {0}, {25}, {0, 25}, {25, 0}, upTo(10), make([]int, 10), slices.Repeat([]int{25}, 10)} {
		if !impl.InputOk(w) {
			t.Errorf("InputOk(%v) is false", w)
		}
	}
	for _, w := range badInputs() {
		if impl.InputOk(w) {
			t.Errorf("InputOk(%v)", w)
		}
	}
	for n := range 14 {
		for x := -130; x < 400; x++ {
			w := slices.Repeat([]int{x}, n)
			if impl.InputOk(w) != inputOkPlainly(w) {
				t.Errorf("InputOk(%v) = %v", w, impl.InputOk(w))
			}
		}
	}
	for n := 1; n <= 10; n++ {
		for at := range n {
			for _, x := range append(noLetters(), upTo(26)...) {
				w := make([]int, n)
				w[at] = x
				if impl.InputOk(w) != inputOkPlainly(w) {
					t.Errorf("InputOk(%v) = %v", w, impl.InputOk(w))
				}
			}
		}
	}
}

// A span is a row of a part, without some of its first symbols, that is to become what stands between two places.
type span struct{ part, alt, ahead, from, to int }

func oneIf(is bool) int { return len(flag(is)) }

// countMost is far above what is told, and so small that it can be squared.
const countMost = 1 << 30

// plainCounter counts by all places at which an input can be cut, up to countMost.
type plainCounter struct {
	g     impl.Gram
	w     []int
	known map[span]int
}

func (c *plainCounter) part(k, from, to int) int {
	key := span{k, -1, 0, from, to}
	if n, ok := c.known[key]; ok {
		return n
	}
	sum := 0
	for a, row := range c.g.Parts[k] {
		sum = min(sum+c.row(row, span{k, a, 0, from, to}), countMost)
	}
	c.known[key] = sum
	return sum
}

func (c *plainCounter) row(row []int, key span) int {
	if len(row) == 0 {
		return oneIf(key.from == key.to)
	}
	if n, ok := c.known[key]; ok {
		return n
	}
	sum := 0
	for cut := key.from; cut <= key.to; cut++ {
		var first int
		if row[0] >= 100 {
			first = c.part(row[0]-100, key.from, cut)
		} else {
			first = oneIf(cut == key.from+1 && c.w[key.from] == row[0])
		}
		// What stands behind something that is not there is not asked for: it could lead here again.
		if first > 0 {
			rest := c.row(row[1:], span{key.part, key.alt, key.ahead + 1, cut, key.to})
			sum = min(sum+first*rest, countMost)
		}
	}
	c.known[key] = sum
	return sum
}

// waysPlainly counts in how many ways a row becomes an input, where all of them are as the chapter wants them.
func waysPlainly(g impl.Gram, row, w []int) int {
	c := plainCounter{g, w, map[span]int{}}
	return c.row(row, span{-1, -2, 0, 0, len(w)})
}

// derivesPlainly is Derives put down as the document says it.
func derivesPlainly(g impl.Gram, row, w []int) bool {
	if reasonsPlainly(g)[0] != 0 || !inputOkPlainly(w) || len(row) > 8 {
		return false
	}
	if slices.ContainsFunc(row, func(s int) bool { return s < 0 || s > 25 && s < 100 || s >= 100+len(g.Parts) }) {
		return false
	}
	return waysPlainly(g, row, w) > 0
}

// saidOf holds what is told of an input against what the document says, and tells how many ways there are, 1001 of more.
func saidOf(t *testing.T, g impl.Gram, w []int) int {
	t.Helper()
	n := 0
	if reasonsPlainly(g)[0] == 0 && inputOkPlainly(w) {
		n = waysPlainly(g, []int{100}, w)
	}
	if got := impl.Accepts(g, w); got != (n > 0) {
		t.Fatalf("Accepts(%v, %v) = %v, but there are %v ways", g, w, got, n)
	}
	if got := impl.Derives(g, []int{100}, w); got != (n > 0) {
		t.Fatalf("Derives(%v, [100], %v) = %v, but there are %v ways", g, w, got, n)
	}
	for _, most := range []int{math.MinInt, -1, 0, 1, 2, min(n, 1001) - 1, min(n, 1001), min(n, 1001) + 1, 999, 1000, 1001, math.MaxInt} {
		want := 0
		if most >= 0 && most <= 1000 {
			want = min(n, most)
		}
		if got := impl.Ways(g, w, most); got != want {
			t.Fatalf("Ways(%v, %v, %d) = %d, want %d of %v", g, w, most, got, want, n)
		}
	}
	return min(n, 1001)
}

// derivesAs holds Derives against what the document says, and tells it.
func derivesAs(t *testing.T, g impl.Gram, row, w []int) bool {
	t.Helper()
	got := impl.Derives(g, row, w)
	if want := derivesPlainly(g, row, w); got != want {
		t.Fatalf("Derives(%v, %v, %v) = %v", g, row, w, got)
	}
	return got
}

// A refused grammar is one with another code than CkOk.
type refused struct {
	g    impl.Gram
	code int
}

func refusedGrams(t *testing.T) []refused {
	t.Helper()
	one := altsOf([]int{0}, nil)
	return []refused{
		{impl.Gram{}, impl.CkBad},
		{gramOf(nil), impl.CkBad},
		{gramOf(one, nil), impl.CkBad},
		{gramOf(altsOf([]int{0}, nil, []int{26})), impl.CkBad},
		{gramOf(altsOf([]int{0}, nil, []int{-1})), impl.CkBad},
		{gramOf(altsOf([]int{0}, nil, []int{99})), impl.CkBad},
		{gramOf(altsOf([]int{0}, nil, []int{101})), impl.CkBad},
		{gramOf(altsOf([]int{0}, nil, []int{math.MaxInt})), impl.CkBad},
		{gramOf(altsOf([]int{0}, nil, []int{math.MinInt})), impl.CkBad},
		{gramOf(altsOf([]int{0}, nil, make([]int, 9))), impl.CkBad},
		{gramOf(slices.Repeat([][]int{{0}, nil, {0}}, 3)), impl.CkBad},
		{gramOf(slices.Repeat([][][]int{one}, 21)...), impl.CkBad},
		{gramFrom(t, "S = a | | S a ;"), impl.CkLoop},
		{gramFrom(t, "S = a | | S ;"), impl.CkLoop},
		{gramFrom(t, "S = a | | T ; T = T b | b ;"), impl.CkLoop},
		{gramFrom(t, "S = a | | T S ; T = a? ;"), impl.CkLoop},
		{gramFrom(t, "S = a | ; T = T ;"), impl.CkLoop},
		{gramFrom(t, "S = a | | b T ; T = b T ;"), impl.CkDead},
		{gramFrom(t, "S = a | ; T = b T ;"), impl.CkDead},
		{gramFrom(t, "S = a | ; T = b ;"), impl.CkFar},
		{gramFrom(t, "S = a | ; T = S ;"), impl.CkFar},
	}
}

func TestWhatBelongsToGrammarsThatAreRefused(t *testing.T) {
	for _, x := range refusedGrams(t) {
		if code := impl.Check(x.g); code != x.code {
			t.Errorf("Check(%v) = %d, want %d", x.g, code, x.code)
		}
		for _, w := range append(badInputs(), nil, []int{}, []int{0}, []int{1}, []int{0, 0}) {
			for _, row := range [][]int{nil, {}, w, {0}, {100}, {100, 100}, {101}, {26}} {
				if impl.Derives(x.g, row, w) {
					t.Errorf("Derives(%v, %v, %v)", x.g, row, w)
				}
			}
			if impl.Accepts(x.g, w) {
				t.Errorf("Accepts(%v, %v)", x.g, w)
			}
			for _, most := range []int{-1, 0, 1, 9, 1000, 1001} {
				if got := impl.Ways(x.g, w, most); got != 0 {
					t.Errorf("Ways(%v, %v, %d) = %d", x.g, w, most, got)
				}
			}
		}
	}
}

func TestWhatBelongsOfInputsThatAreNotOk(t *testing.T) {
	all := gramFrom(t, "S = a S | z S | ;")
	one := gramFrom(t, "S = ;")
	for _, w := range badInputs() {
		for _, g := range []impl.Gram{all, one} {
			for _, row := range [][]int{nil, {100}, {100, 100}, {0, 100}, w} {
				if impl.Derives(g, row, w) {
					t.Errorf("Derives(%v, %v, %v)", g, row, w)
				}
			}
			if n := saidOf(t, g, w); n != 0 {
				t.Errorf("%v has %d ways", w, n)
			}
		}
	}
	for n := range 14 {
		w := slices.Repeat([]int{0}, n)
		if got := impl.Accepts(all, w); got != (n <= 10) {
			t.Errorf("Accepts of %d letters = %v", n, got)
		}
		if got := oneIf(n <= 10); saidOf(t, all, w) != got || impl.Ways(all, w, 9) != got {
			t.Errorf("Ways of %d letters = %d", n, impl.Ways(all, w, 9))
		}
	}
}

func TestDerives(t *testing.T) {
	for _, x := range []struct {
		s   string
		row []int
		w   string
		is  bool
	}{
		{"S = a S b | ;", nil, "", true},
		{"S = a S b | ;", []int{}, "", true},
		{"S = a S b | ;", nil, "a", false},
		{"S = a S b | ;", []int{0}, "a", true},
		{"S = a S b | ;", []int{0}, "", false},
		{"S = a S b | ;", []int{0}, "b", false},
		{"S = a S b | ;", []int{0}, "aa", false},
		{"S = a S b | ;", []int{0}, "ab", false},
		{"S = a S b | ;", []int{25}, "z", true},
		{"S = a S b | ;", []int{2, 1, 0}, "cba", true},
		{"S = a S b | ;", []int{2, 1, 0}, "cbb", false},
		{"S = a S b | ;", []int{2, 1, 0}, "cb", false},
		{"S = a S b | ;", []int{2, 1, 0}, "cbaa", false},
		{"S = a S b | ;", []int{0, 1, 2, 3, 4, 5, 6, 7}, "abcdefgh", true},
		{"S = a S b | ;", []int{0, 1, 2, 3, 4, 5, 6, 7}, "abcdefg", false},
		{"S = a S b | ;", []int{0, 1, 2, 3, 4, 5, 6, 7, 8}, "abcdefghi", false},
		{"S = a S b | ;", []int{0, 1, 2, 3, 4, 5, 6, 7, 8, 9}, "abcdefghij", false},
		{"S = a S b | ;", []int{100}, "", true},
		{"S = a S b | ;", []int{100}, "ab", true},
		{"S = a S b | ;", []int{100}, "aaaaabbbbb", true},
		{"S = a S b | ;", []int{100}, "aaaaabbbb", false},
		{"S = a S b | ;", []int{100}, "aaaabbbbbb", false},
		{"S = a S b | ;", []int{0, 100, 1}, "aabb", true},
		{"S = a S b | ;", []int{0, 100, 1}, "", false},
		{"S = a S b | ;", []int{0, 100}, "aab", true},
		{"S = a S b | ;", []int{100, 0}, "aba", true},
		{"S = a S b | ;", []int{100, 0}, "aaa", false},
		{"S = a S b | ;", []int{100, 100}, "abaabb", true},
		{"S = a S b | ;", []int{100, 100}, "ababab", false},
		{"S = a S b | ;", []int{100, 100, 100}, "ababab", true},
		{"S = a S b | ;", slices.Repeat([]int{100}, 8), "", true},
		{"S = a S b | ;", slices.Repeat([]int{100}, 8), "ababababab", true},
		{"S = a S b | ;", slices.Repeat([]int{100}, 9), "", false},
		{"S = a S b | ;", slices.Repeat([]int{100}, 9), "ab", false},
		{"S = a S b | ;", slices.Repeat([]int{100}, 1000), "", false},
		{"S = a S b | ;", append(slices.Repeat([]int{100}, 7), 2), "c", true},
		{"S = a S b | ;", append(slices.Repeat([]int{100}, 7), 2), "abc", true},
		{"S = a S b | ;", append(slices.Repeat([]int{100}, 7), 2), "ab", false},
		{"S = a S b | ;", []int{101}, "", false},
		{"S = T U ; T = a | a a ; U = a | b ;", []int{101, 102}, "aa", true},
		{"S = T U ; T = a | a a ; U = a | b ;", []int{101, 102}, "aab", true},
		{"S = T U ; T = a | a a ; U = a | b ;", []int{101, 102}, "aaaa", false},
		{"S = T U ; T = a | a a ; U = a | b ;", []int{102, 101}, "baa", true},
		{"S = T U ; T = a | a a ; U = a | b ;", []int{102, 101}, "aab", false},
		{"S = T U ; T = a | a a ; U = a | b ;", []int{101, 101, 101}, "aa", false},
		{"S = T U ; T = a | a a ; U = a | b ;", []int{101, 101, 101}, "aaa", true},
		{"S = T U ; T = a | a a ; U = a | b ;", []int{101, 101, 101}, "aaaaaa", true},
		{"S = T U ; T = a | a a ; U = a | b ;", []int{101, 101, 101}, "aaaaaaa", false},
		{"S = T U ; T = a | a a ; U = a | b ;", []int{100, 1}, "aab", true},
		{"S = a* b ;", []int{101, 101, 101, 0}, "aaaa", true},
		{"S = a* b ;", []int{101, 101, 101, 0}, "a", true},
		{"S = a* b ;", []int{101, 101, 101, 0}, "", false},
		{"S = a* b ;", []int{101, 101, 101, 1}, "aaaaaaaaab", true},
	} {
		g := gramFrom(t, x.s)
		if got := derivesAs(t, g, x.row, lettersOf(x.w)); got != x.is {
			t.Errorf("Derives of %q, %v, %q = %v", x.s, x.row, x.w, got)
		}
	}
}

func TestDerivesOfEachLetter(t *testing.T) {
	g := gramFrom(t, "S = ;")
	for a := -3; a < 30; a++ {
		for b := -3; b < 30; b++ {
			if got := derivesAs(t, g, []int{a}, []int{b}); got != (a == b && a >= 0 && a <= 25) {
				t.Errorf("Derives of %d and %d = %v", a, b, got)
			}
		}
	}
}

func TestDerivesOfWhatIsNoSymbol(t *testing.T) {
	wide := gramOf(slices.Repeat([][][]int{altsOf([]int{0}, nil)}, 20)...)
	for k := range 19 {
		wide.Parts[k] = altsOf([]int{0, 101 + k}, nil)
	}
	for _, g := range []impl.Gram{gramFrom(t, "S = a S b | ;"), gramFrom(t, "S = a T | ; T = b S | ;"), wide} {
		for _, x := range noSymbols(len(g.Parts)) {
			for _, row := range [][]int{nil, {0}, {100}, {0, 1}, {100, 100}, {0, 100, 1}, {7}, {7, 100}, {100, 7, 100}} {
				for at := range len(row) + 1 {
					wrong := slices.Insert(slices.Clone(row), at, x)
					for _, w := range [][]int{nil, {0}, {1}, {0, 1}, {0, 0, 1, 1}, {7}, {5}, {0, 5}, {x}, {0, x}, {x, 0}} {
						if derivesAs(t, g, wrong, w) {
							t.Errorf("Derives(%v, %v, %v)", g, wrong, w)
						}
					}
				}
			}
		}
	}
	if !impl.Derives(wide, []int{119, 100, 119}, make([]int, 3)) || impl.Derives(wide, []int{120}, nil) {
		t.Error("the last part of twenty")
	}
}

func TestAccepts(t *testing.T) {
	for _, x := range []struct {
		s           string
		are, areNot string
	}{
		{"S = ;", ",", "a,aa,z"},
		{"S = a ;", "a", ",b,aa,ab,ba"},
		{"S = a | ;", ",a", "aa,b"},
		{"S = a S b | ;", ",ab,aabb,aaabbb,aaaabbbb,aaaaabbbbb", "a,b,ba,aab,abb,abab,aaaaabbbb,aaaaabbbba"},
		{"S = a S a | b S b | ;", ",aa,bb,abba,aabbaa,abbbbbbbba,bbbbbbbbbb", "a,b,ab,aba,abab,abbbbbbbbb,aaaaaaaaa"},
		{"S = i S ( e S )? | o ;", "o,io,ioeo,iioeo,iioeoeo,iiiiiiiiio", ",i,e,oe,ioe,ioeoeo,oo,iiiiiiiii"},
		{"S = T ( p T )* ; T = F ( m F )* ; F = x | l S r ;", "x,xpx,xmxpx,lxr,lxpxrmx,llllxrrrr", ",p,xp,px,xx,lx,xr,lr,llllxrrr,xpxm"},
		{"S = (a | b)* c ;", "c,ac,bc,abbac,ababababac,aaaaaaaaac", ",a,ab,ca,cc,abca,aaaaaaaaaa,ababababab"},
		{"S = a+ b+ ;", "ab,aab,abb,aaaaaaaaab,abbbbbbbbb", ",a,b,ba,aba,abab,aaaaaaaaaa"},
		{"S = a? b? c? ;", ",a,b,c,ab,ac,bc,abc", "ba,aa,cb,abca,abcc"},
		{"S = T T T ; T = a | ;", ",a,aa,aaa", "aaaa,b,aab"},
		{"S = a b c d e f g h | ;", ",abcdefgh", "abcdefg,abcdefghi,bcdefgh,abcdefgi"},
		{"S = ((((((a b)))))) ;", "ab", ",a,b,ba,abab"},
		{"S = T U V W X Y Z ; T = ; U = ; V = ; W = a ; X = ; Y = ; Z = ;", "a", ",aa,b"},
	} {
		g := gramFrom(t, x.s)
		for _, s := range strings.Split(x.are, ",") {
			if saidOf(t, g, lettersOf(s)); !impl.Accepts(g, lettersOf(s)) {
				t.Errorf("%q does not belong to %q", s, x.s)
			}
		}
		for _, s := range strings.Split(x.areNot, ",") {
			if saidOf(t, g, lettersOf(s)); impl.Accepts(g, lettersOf(s)) {
				t.Errorf("%q belongs to %q", s, x.s)
			}
		}
	}
}

// nearTo are inputs that differ from one by a letter that is gone, one that is more, or one that is another.
func nearTo(w []int) [][]int {
	var out [][]int
	for at := range len(w) + 1 {
		if at < len(w) {
			out = append(out, slices.Delete(slices.Clone(w), at, at+1))
		}
		for x := range 26 {
			out = append(out, slices.Insert(slices.Clone(w), at, x))
			if at < len(w) && w[at] != x {
				other := slices.Clone(w)
				other[at] = x
				out = append(out, other)
			}
		}
	}
	return out
}

func TestAcceptsOfInputsThatAreNearlyRight(t *testing.T) {
	for _, x := range []struct{ s, w string }{
		{"S = a b c d e f g T ; T = h i j ;", "abcdefghij"},
		{"S = a b c d e f g T ; T = h i ;", "abcdefghi"},
		{"S = T U V ; T = a b c ; U = d ; V = e f g ;", "abcdefg"},
		{"S = T U T ; T = ; U = z y x ;", "zyx"},
		{"S = ;", ""},
	} {
		g := gramFrom(t, x.s)
		if !impl.Accepts(g, lettersOf(x.w)) {
			t.Errorf("%q does not belong to %q", x.w, x.s)
		}
		for _, w := range nearTo(lettersOf(x.w)) {
			if impl.Accepts(g, w) || impl.Ways(g, w, 9) != 0 {
				t.Errorf("%v belongs to %q", w, x.s)
			}
		}
	}
}

func TestWays(t *testing.T) {
	for _, x := range []struct {
		s, w string
		want int
	}{
		{"S = ;", "", 1},
		{"S = ;", "a", 0},
		{"S = | ;", "", 2},
		{"S = | | | | | | | ;", "", 8},
		{"S = a | a ;", "a", 2},
		{"S = a | b | a | a ;", "a", 3},
		{"S = a | b | a | a ;", "b", 1},
		{"S = a | b | a | a ;", "", 0},
		{"S = a | b | a | a ;", "aa", 0},
		{"S = a S | a S | ;", "", 1},
		{"S = a S | a S | ;", "a", 2},
		{"S = a S | a S | ;", "aaaaaaaaa", 512},
		{"S = a S | a S | ;", "aaaaaaaaaa", 1001},
		{"S = a S | a S | | ;", "aaaaaaaa", 512},
		{"S = a? a? ;", "", 1},
		{"S = a? a? ;", "a", 2},
		{"S = a? a? ;", "aa", 1},
		{"S = a? a? a? ;", "a", 3},
		{"S = a? a? a? ;", "aa", 3},
		{"S = a* a* ;", "aaaaaaaaaa", 11},
		{"S = a* a* a* ;", "aaaaaaaaaa", 66},
		{"S = a* a* a* a* ;", "aaaaaaaaaa", 286},
		{"S = a* a* a* a* a* ;", "aaaaaaaaaa", 1001},
		{"S = a* a* a* a* a* ;", "aaaaaaaaa", 715},
		{"S = a+ a+ ;", "a", 0},
		{"S = a+ a+ ;", "aaaaaaaaaa", 9},
		{"S = T U ; T = | ; U = | | ;", "", 6},
		{"S = T U | ; T = | ; U = | | ;", "", 7},
		{"S = T T | T | ; T = U | ; U = | ;", "", 13},
		{"S = T a T ; T = | ;", "a", 4},
		{"S = T | U ; T = a ; U = a ;", "a", 2},
		{"S = a S S | b ;", "b", 1},
		{"S = a S S | b ;", "aabbb", 1},
		{"S = a S a S | a S | ;", "aaa", 4},
		{"S = a S a S | a S | ;", "aaaa", 9},
		{"S = i S ( e S )? | o ;", "io", 1},
		{"S = i S ( e S )? | o ;", "iioeo", 2},
		{"S = i S ( e S )? | o ;", "iiioeo", 3},
		{"S = i S ( e S )? | o ;", "iiioeoeo", 3},
		{"S = T S T | a ; T = b ;", "bab", 1},
	} {
		g := gramFrom(t, x.s)
		if n := saidOf(t, g, lettersOf(x.w)); n != x.want {
			t.Errorf("%q of %q has %d ways, want %d", x.w, x.s, n, x.want)
		}
		if got := impl.Ways(g, lettersOf(x.w), 1000); got != min(x.want, 1000) {
			t.Errorf("Ways of %q and %q = %d, want %d", x.s, x.w, got, x.want)
		}
	}
}

// gramOfWays has n ways in which it becomes what row does: each part goes for eight times what the next one does, and for a digit more.
func gramOfWays(n int, row []int) impl.Gram {
	var digits []int
	for ; n > 0; n /= 8 {
		digits = append(digits, n%8)
	}
	var g impl.Gram
	eight := 100 + len(digits)
	for k, d := range digits {
		alts := slices.Repeat([][]int{row}, d)
		if k+1 < len(digits) {
			alts = append(alts, []int{eight, 101 + k})
		}
		g.Parts = append(g.Parts, alts)
	}
	if len(digits) > 1 {
		g.Parts = append(g.Parts, make([][]int, 8))
	}
	return g
}

func TestWaysOfEachNumber(t *testing.T) {
	for n := 1; n <= 1100; n++ {
		for _, w := range [][]int{nil, {0}, {3, 1, 4, 1, 5}} {
			g := gramOfWays(n, w)
			if impl.Check(g) != impl.CkOk {
				t.Fatalf("%v is refused", g)
			}
			for _, most := range []int{-1, 0, 1, n - 1, n, n + 1, 999, 1000, 1001} {
				want := min(n, most)
				if most < 0 || most > 1000 {
					want = 0
				}
				if got := impl.Ways(g, w, most); got != want {
					t.Fatalf("Ways(%v, %v, %d) = %d, want %d", g, w, most, got, want)
				}
			}
			if !impl.Accepts(g, w) || impl.Ways(g, []int{7}, 9) != 0 {
				t.Fatalf("Accepts of %d ways", n)
			}
		}
	}
	for _, n := range []int{1000, 1001, 4096, 1 << 20, 1<<40 + 5, 1 << 56, 1<<57 - 1} {
		if got := saidOf(t, gramOfWays(n, []int{2}), []int{2}); got != min(n, 1001) {
			t.Errorf("%d of %d ways", got, n)
		}
	}
}

func TestWaysOfMost(t *testing.T) {
	g := gramFrom(t, "S = a S | a S | ;")
	for most := -20; most < 1100; most++ {
		for n, w := range [][]int{nil, make([]int, 1), make([]int, 2), make([]int, 3), make([]int, 4), make([]int, 5), make([]int, 6), make([]int, 7), make([]int, 8), make([]int, 9), make([]int, 10)} {
			want := 0
			if most >= 0 && most <= 1000 {
				want = min(most, 1<<n)
			}
			if got := impl.Ways(g, w, most); got != want {
				t.Fatalf("Ways of %d letters, %d at most = %d, want %d", n, most, got, want)
			}
		}
	}
	for _, most := range []int{math.MinInt, math.MinInt + 1, -1000, 1001, 1 << 40, math.MaxInt - 1, math.MaxInt} {
		if got := impl.Ways(g, nil, most); got != 0 {
			t.Errorf("Ways of %d at most = %d", most, got)
		}
	}
}

// There may be more ways than numbers can tell; what a number of 64 bits would tell of them is often 0.
func TestWaysThatAreMoreThanNumbers(t *testing.T) {
	doubled := ladder(func(k, next int) [][]int { return altsOf([]int{next, next}) }, altsOf(nil, nil))
	eightfold := ladder(func(k, next int) [][]int { return slices.Repeat(altsOf(slices.Repeat([]int{next}, 8)), 8) }, make([][]int, 8))
	lettered := ladder(func(k, next int) [][]int { return slices.Repeat(altsOf([]int{next}), 8) }, slices.Repeat(altsOf([]int{4}), 8))
	longer := ladder(func(k, next int) [][]int { return slices.Repeat(altsOf([]int{next}, []int{next, 119}), 4) }, slices.Repeat(altsOf([]int{4}), 8))
	for _, to := range orders()[:8] {
		for _, x := range []struct {
			g impl.Gram
			w []int
		}{
			{doubled, nil}, {eightfold, nil}, {lettered, []int{4}}, {longer, []int{4}}, {longer, slices.Repeat([]int{4}, 10)},
		} {
			g := renumbered(x.g, to)
			for _, most := range []int{0, 1, 2, 500, 999, 1000} {
				if got := impl.Ways(g, x.w, most); got != most {
					t.Fatalf("Ways(%v, %v, %d) = %d", g, x.w, most, got)
				}
			}
			if !impl.Accepts(g, x.w) || impl.Accepts(g, append(slices.Clone(x.w), 3)) || impl.Ways(g, []int{3}, 9) != 0 {
				t.Fatalf("Accepts(%v, %v)", g, x.w)
			}
			for k := range 20 {
				derivesAs(t, g, []int{100 + k}, x.w)
			}
		}
	}
}

// singleLadder has a letter in every second part, the others go on as they are.
func singleLadder() impl.Gram {
	return ladder(func(k, next int) [][]int {
		if k%2 == 0 {
			return altsOf([]int{k / 2, next})
		}
		return altsOf([]int{next})
	}, altsOf(nil))
}

// turnedLadder has the letters behind what comes of all other parts.
func turnedLadder() impl.Gram {
	return ladder(func(k, next int) [][]int {
		if k%2 == 1 {
			return altsOf([]int{next, 9 - k/2})
		}
		return altsOf([]int{next}, []int{20, next})
	}, altsOf([]int{0}))
}

func skippingLadder() impl.Gram {
	return ladder(func(k, next int) [][]int { return altsOf([]int{k % 10, next}, []int{next}) }, altsOf(nil))
}

func TestWhatBelongsByWayOfAllPartsAndAllLetters(t *testing.T) {
	full := lettersOf("abcdefghij")
	single, turned, skips := singleLadder(), turnedLadder(), skippingLadder()
	ring := ladder(func(k, next int) [][]int { return altsOf([]int{next}, []int{next}) }, altsOf([]int{5, 100}, nil))
	tries := ladder(func(k, next int) [][]int {
		return altsOf([]int{25}, []int{0, 1, 2, 3, 4, 5, 6, 25}, []int{next, 25}, []int{next})
	}, altsOf([]int{0, 1, 2, 3, 4, 5, 6, 7}, []int{0, 1, 2, 3, 4, 5, 6}))
	for _, to := range orders() {
		for _, x := range []struct {
			g    impl.Gram
			w    []int
			ways int
		}{
			{single, full, 1}, {single, full[:9], 0}, {single, full[1:], 0}, {single, nil, 0},
			{turned, full, 1}, {turned, full[:9], 0}, {turned, append([]int{20}, full[:9]...), 0}, {turned, full[1:], 0},
			{ring, nil, 1001}, {ring, []int{5}, 1001}, {ring, slices.Repeat([]int{5}, 10), 1001}, {ring, []int{4}, 0},
			{skips, full, 1}, {skips, full[:9], 10}, {skips, lettersOf("abcdefghia"), 1}, {skips, lettersOf("jjabcdefgh"), 0}, {skips, lettersOf("hgf"), 0},
			{tries, lettersOf("abcdefgh"), 1}, {tries, lettersOf("abcdefg"), 1}, {tries, lettersOf("abcdefghz"), 19}, {tries, lettersOf("z"), 19},
			{tries, lettersOf("abcdefgy"), 0}, {tries, lettersOf("abcdefghzz"), 171},
		} {
			g := renumbered(x.g, to)
			if n := saidOf(t, g, x.w); n != x.ways {
				t.Fatalf("%v of %v has %d ways, want %d", x.w, g, n, x.ways)
			}
		}
	}
}

// manyEmpty has parts that can become nothing one behind the other; what stands behind them is asked for at the same place.
func manyEmpty(t *testing.T) impl.Gram {
	t.Helper()
	var g impl.Gram
	g.Parts = append(g.Parts, altsOf([]int{101, 102, 103, 104, 105, 106, 107, 108}, nil))
	for k := 1; k < 20; k++ {
		alts := altsOf(nil, []int{k - 1})
		if k+8 < 20 {
			alts = append(alts, []int{100 + k + 8, 100 + k + 8})
		}
		g.Parts = append(g.Parts, alts)
	}
	for k := 17; k < 20; k++ {
		g.Parts[9] = append(g.Parts[9], []int{100 + k})
	}
	if impl.Check(g) != impl.CkOk {
		t.Fatal("refused", impl.Check(g))
	}
	return g
}

func TestDerivesOfManyPartsThatCanBecomeNothing(t *testing.T) {
	g := manyEmpty(t)
	r := rand.New(rand.NewSource(71))
	for range 3000 {
		row := randomRow(r, 20, r.Intn(9))
		for i, s := range row {
			if s < 100 && r.Intn(4) > 0 {
				row[i] = 100 + r.Intn(20)
			}
		}
		w := sampleOf(r, g, row)
		if len(w) <= 10 && !derivesAs(t, g, row, w) {
			t.Fatalf("Derives(%v, %v, %v) is false", g, row, w)
		}
		derivesAs(t, g, row, nil)
		if near := nearTo(w); len(w) <= 10 {
			derivesAs(t, g, row, near[r.Intn(len(near))])
		}
	}
	saidOf(t, g, nil)
	for _, w := range listsOf([]int{0, 1, 8, 16}, 3) {
		saidOf(t, g, w)
	}
}

// sampleOf is something that a row becomes by alternatives that are taken by chance.
func sampleOf(r *rand.Rand, g impl.Gram, row []int) []int {
	letters, _ := sampleBy(r, g, row)
	return letters
}

// sampleBy tells a sample and its way: the alternatives that were taken, from the left. Long ones are let grow only so far; what is told of such is too long for an input, and has no way.
func sampleBy(r *rand.Rand, g impl.Gram, row []int) (letters, way []int) {
	todo := slices.Clone(row)
	for steps := 0; len(todo) > 0 && steps < 200 && len(letters) < 12; steps++ {
		s := todo[0]
		todo = todo[1:]
		if s < 100 {
			letters = append(letters, s)
			continue
		}
		alts := g.Parts[s-100]
		a := r.Intn(len(alts))
		way = append(way, a)
		todo = slices.Concat(alts[a], todo)
	}
	if len(todo) > 0 {
		return slices.Repeat([]int{0}, 11), nil
	}
	return letters, way
}

// randomChecked is a grammar that is checked, of a few letters, so that there is something that belongs to it.
func randomChecked(r *rand.Rand, parts, alts, long, letters int) impl.Gram {
	for {
		var g impl.Gram
		n := 1 + r.Intn(parts)
		for k := range n {
			var rows [][]int
			for range 1 + r.Intn(alts) {
				rows = append(rows, checkedRow(r, k, n, r.Intn(long+1), letters))
			}
			g.Parts = append(g.Parts, rows)
		}
		if reasonsPlainly(g)[0] == 0 {
			return g
		}
	}
}

// checkedRow has parts of greater numbers alone ahead of its first letter, most times.
func checkedRow(r *rand.Rand, k, parts, long, letters int) []int {
	var row []int
	free := r.Intn(20) == 0
	for range long {
		switch {
		case r.Intn(5) < 2:
			row = append(row, r.Intn(letters))
			free = true
		case free:
			row = append(row, 100+r.Intn(parts))
		case k+1 < parts:
			row = append(row, 101+k+r.Intn(parts-k-1))
		}
	}
	return row
}

func TestWhatBelongsToRandomGrammars(t *testing.T) {
	r := rand.New(rand.NewSource(72))
	ways := map[int]int{}
	for i := range 1500 {
		g := randomChecked(r, []int{2, 3, 5, 8}[i%4], 1+i%4, 2+i%4, 2)
		inputs := listsOf([]int{0, 1}, 3)
		for range 8 {
			if w := sampleOf(r, g, []int{100}); len(w) <= 10 {
				near := nearTo(w)
				inputs = append(inputs, w, near[r.Intn(len(near))], near[r.Intn(len(near))])
			}
		}
		for _, w := range inputs {
			ways[min(saidOf(t, g, w), 3)]++
			derivesAs(t, g, randomRow(r, len(g.Parts), r.Intn(10)), w)
		}
	}
	if ways[0] < 1000 || ways[1] < 1000 || ways[2] < 500 || ways[3] < 500 {
		t.Error("too few of some ways", ways)
	}
}

// greatGram has as many parts and alternatives as there may be; shorten puts short rows in the place of some, so that it is productive.
func greatGram(r *rand.Rand, shorten func(rows [][]int)) impl.Gram {
	var g impl.Gram
	for k := range 20 {
		var rows [][]int
		for range 8 {
			row := checkedRow(r, k, 20, 6, 2)
			rows = append(rows, append(row, 100+r.Intn(20)))
			if len(row) == 0 || row[0] >= 100 {
				rows[len(rows)-1][0] = r.Intn(2)
			}
		}
		shorten(rows)
		g.Parts = append(g.Parts, rows)
	}
	return g
}

func TestWhatBelongsToGreatGrammars(t *testing.T) {
	r := rand.New(rand.NewSource(73))
	belong := 0
	for range 60 {
		g := greatGram(r, func(rows [][]int) { rows[7] = []int{r.Intn(2)} })
		for range 4 {
			w := sampleOf(r, g, []int{100})
			if n := saidOf(t, g, w); n > 0 {
				belong++
			}
			for range 2 {
				near := nearTo(w)
				saidOf(t, g, near[r.Intn(len(near))])
			}
			derivesAs(t, g, randomRow(r, 20, 8), w)
		}
	}
	if belong < 20 {
		t.Error("too few that belong", belong)
	}
}

// choicesOf are the ways in which a row becomes an input, each by the numbers of the alternatives that were taken, from the left; false, where there is too much to go through.
func choicesOf(g impl.Gram, row, w []int, fuel *int) (list [][]int, all bool) {
	if *fuel--; *fuel < 0 {
		return nil, false
	}
	if len(row) == 0 {
		if len(w) == 0 {
			return [][]int{nil}, true
		}
		return nil, true
	}
	if row[0] < 100 {
		if len(w) == 0 || w[0] != row[0] {
			return nil, true
		}
		return choicesOf(g, row[1:], w[1:], fuel)
	}
	for a, alt := range g.Parts[row[0]-100] {
		more, ok := choicesOf(g, slices.Concat(alt, row[1:]), w, fuel)
		if !ok {
			return nil, false
		}
		for _, way := range more {
			list = append(list, append([]int{a}, way...))
		}
	}
	return list, true
}

// becomesBy is what comes of part 0 by such alternatives, from the left.
func becomesBy(g impl.Gram, way []int) []int {
	row := []int{100}
	for _, a := range way {
		at := slices.IndexFunc(row, func(s int) bool { return s >= 100 })
		row = slices.Concat(row[:at], g.Parts[row[at]-100][a], row[at+1:])
	}
	return row
}

// hasWays holds what is told of an input against the ways that there are, one by one, and tells how many.
func hasWays(t *testing.T, g impl.Gram, w []int) int {
	t.Helper()
	fuel := 20000
	ways, all := choicesOf(g, []int{100}, w, &fuel)
	if !all {
		return -1
	}
	seen := map[string]bool{}
	for _, way := range ways {
		seen[fmt.Sprint(way)] = true
		if !slices.Equal(becomesBy(g, way), w) {
			t.Fatalf("%v by %v is not %v", g, way, w)
		}
	}
	if got := impl.Ways(g, w, 1000); len(seen) != len(ways) || got != min(len(ways), 1000) {
		t.Fatalf("Ways(%v, %v, 1000) = %d, but there are %v", g, w, got, ways)
	}
	for _, belongs := range []bool{impl.Accepts(g, w), impl.Derives(g, []int{100}, w), impl.Ways(g, w, 1) == 1} {
		if belongs != (len(ways) > 0) {
			t.Fatalf("%v belongs to %v: %v, but it has the ways %v", w, g, belongs, ways)
		}
	}
	return len(ways)
}

// smallChecked are grammars of two parts with short rows, all that are checked.
func smallChecked() []impl.Gram {
	var out []impl.Gram
	for _, first := range altsFrom(listsOf([]int{0, 100, 101}, 2)) {
		for _, second := range altsFrom(listsOf([]int{0, 1, 100, 101}, 2)) {
			if g := gramOf(first, second); impl.Check(g) == impl.CkOk {
				out = append(out, g)
			}
		}
	}
	return out
}

// Promise 7: a row belongs to a grammar just where it has a way.
func TestARowBelongsJustWhereItHasAWay(t *testing.T) {
	met := make([]int, 4)
	inputs := listsOf([]int{0, 1}, 4)
	for _, g := range smallChecked() {
		for _, w := range inputs {
			n := hasWays(t, g, w)
			if n < 0 {
				t.Fatalf("%v of %v has too many ways", w, g)
			}
			met[min(n, 3)]++
		}
	}
	if slices.Min(met) < 100 {
		t.Error("too few of some ways", met)
	}
}

func TestARowBelongsToARandomGrammarJustWhereItHasAWay(t *testing.T) {
	r := rand.New(rand.NewSource(74))
	met := map[int]int{}
	for i := range 3000 {
		g := randomChecked(r, 1+i%5, 1+i%3, 2+i%3, 2)
		inputs := [][]int{nil, {0}, {1}, {0, 1}, {2}}
		for range 5 {
			if w := sampleOf(r, g, []int{100}); len(w) <= 10 {
				near := nearTo(w)
				inputs = append(inputs, w, near[r.Intn(len(near))])
			}
		}
		for _, w := range inputs {
			if len(w) <= 10 {
				met[min(hasWays(t, g, w), 3)]++
			}
		}
	}
	if met[0] < 1000 || met[1] < 1000 || met[2] < 300 || met[3] < 300 {
		t.Error("too few of some ways", met)
	}
}

// What each part says in words of at most three letters is known from chapter 4.
func TestWhatBelongsIsWhatThePartsSay(t *testing.T) {
	r := rand.New(rand.NewSource(75))
	belong := 0
	inputs := listsOf([]int{0, 1, 2}, 3)
	for i := range 600 {
		g := randomChecked(r, 1+i%6, 3, 3, 2)
		for k, said := range wordsOfParts(g) {
			for _, w := range inputs {
				if got := impl.Derives(g, []int{100 + k}, w); got != said[impl.InputText(w)] {
					t.Fatalf("Derives(%v, [%d], %v) = %v", g, 100+k, w, got)
				}
				if k == 0 && impl.Accepts(g, w) != said[impl.InputText(w)] {
					t.Fatalf("Accepts(%v, %v) = %v", g, w, impl.Accepts(g, w))
				}
				belong += oneIf(said[impl.InputText(w)])
			}
		}
	}
	if belong < 2000 {
		t.Error("too few that belong", belong)
	}
}

// cutSomewhere tells whether the first symbol of a row becomes a beginning of an input, and the rest what is left.
func cutSomewhere(g impl.Gram, row, w []int) bool {
	for at := range len(w) + 1 {
		if impl.Derives(g, row[:1], w[:at]) && impl.Derives(g, row[1:], w[at:]) {
			return true
		}
	}
	return false
}

func TestARowBecomesWhatItsFirstSymbolAndTheRestBecome(t *testing.T) {
	r := rand.New(rand.NewSource(76))
	met := make([]int, 2)
	for i := range 2000 {
		g := randomChecked(r, 1+i%6, 3, 3, 2)
		n := len(g.Parts)
		row := randomRow(r, n, 1+r.Intn(8))
		for at := range row {
			if row[at] < 100 {
				row[at] %= 2
			}
		}
		inputs := [][]int{nil, {0}, {0, 1}, {1, 1, 0}}
		for range 4 {
			if w := sampleOf(r, g, row); len(w) <= 10 {
				inputs = append(inputs, w)
			}
		}
		wrong := slices.Clone(row)
		wrong[r.Intn(len(row))] = noSymbols(n)[r.Intn(16)]
		for _, w := range inputs {
			is := impl.Derives(g, row, w)
			if is != cutSomewhere(g, row, w) {
				t.Fatalf("Derives(%v, %v, %v) = %v, but not so of its first symbol and the rest", g, row, w, is)
			}
			met[oneIf(is)]++
			if impl.Derives(g, wrong, w) || cutSomewhere(g, wrong, w) {
				t.Fatalf("Derives(%v, %v, %v)", g, wrong, w)
			}
		}
	}
	if slices.Min(met) < 2000 {
		t.Error("too few", met)
	}
}

func TestAPartBecomesWhatAnAlternativeBecomes(t *testing.T) {
	r := rand.New(rand.NewSource(77))
	for i := range 1000 {
		g := randomChecked(r, 1+i%6, 4, 4, 2)
		for _, w := range [][]int{nil, {0}, {1}, {0, 1}, sampleOf(r, g, []int{100})} {
			for k, alts := range g.Parts {
				want := slices.ContainsFunc(alts, func(row []int) bool { return impl.Derives(g, row, w) })
				if got := impl.Derives(g, []int{100 + k}, w); got != want {
					t.Fatalf("Derives(%v, [%d], %v) = %v, but that of its alternatives is %v", g, 100+k, w, got, want)
				}
			}
		}
	}
}

func TestInputText(t *testing.T) {
	for _, x := range []struct {
		w    []int
		want string
	}{
		{nil, ""}, {[]int{}, ""}, {[]int{0}, "a"}, {[]int{25}, "z"}, {[]int{0, 25}, "az"}, {[]int{7, 4, 11, 11, 14}, "hello"},
		{upTo(10), "abcdefghij"}, {slices.Repeat([]int{25}, 10), "zzzzzzzzzz"}, {make([]int, 11), ""}, {make([]int, 1000), ""},
	} {
		if got := impl.InputText(x.w); got != x.want {
			t.Errorf("InputText(%v) = %q, want %q", x.w, got, x.want)
		}
	}
	for _, w := range badInputs() {
		if got := impl.InputText(w); got != "" {
			t.Errorf("InputText(%v) = %q", w, got)
		}
	}
	for x := range 26 {
		if got := impl.InputText([]int{x}); got != string(rune('a'+x)) {
			t.Errorf("InputText([%d]) = %q", x, got)
		}
	}
}

// inputPlainly is InputOf put down as the document says it.
func inputPlainly(s string) ([]int, bool) {
	if len(s) > 10 || strings.Trim(s, "abcdefghijklmnopqrstuvwxyz") != "" {
		return nil, false
	}
	return lettersOf(s), true
}

// sameInput holds InputOf against inputPlainly, and tells whether s is an input.
func sameInput(t *testing.T, s string) bool {
	t.Helper()
	w, ok := impl.InputOf(s)
	want, wantOk := inputPlainly(s)
	if ok != wantOk || !slices.Equal(w, want) {
		t.Fatalf("InputOf(%q) = %v, %v, want %v, %v", s, w, ok, want, wantOk)
	}
	if ok && (impl.InputText(w) != s || !impl.InputOk(w)) {
		t.Fatalf("InputText of InputOf(%q) = %q", s, impl.InputText(w))
	}
	return ok
}

func TestInputOf(t *testing.T) {
	for _, x := range []struct {
		s    string
		want []int
	}{
		{"", nil}, {"a", []int{0}}, {"z", []int{25}}, {"az", []int{0, 25}}, {"hello", []int{7, 4, 11, 11, 14}},
		{"abcdefghij", upTo(10)}, {"zzzzzzzzzz", slices.Repeat([]int{25}, 10)},
	} {
		w, ok := impl.InputOf(x.s)
		if !ok || !slices.Equal(w, x.want) {
			t.Errorf("InputOf(%q) = %v, %v, want %v", x.s, w, ok, x.want)
		}
		sameInput(t, x.s)
	}
	for _, s := range []string{
		"A", "Z", "aB", "Ba", "abcdefghiJ", "a1", "1a", " ", "a ", " a", "a b", "\n", "a\n", "\x00", "a\x00", "`", "{", "@", "[", "a`", "z{",
		"abcdefghijk", "abcdefghij ", "zzzzzzzzzzz", strings.Repeat("a", 12), strings.Repeat("a", 100000), "ABCDEFGHIJK",
		"\u00e9", "a\u00e9b", "\u00df", "\uff41", "\xff", "a\xffb", "\xe1", "a\xe1", "\xc3", "ab\xc3", "\xed\xa0\x80", "\x80\x81", "a\u0301",
	} {
		if w, ok := impl.InputOf(s); ok || len(w) != 0 {
			t.Errorf("InputOf(%q) = %v, %v", s, w, ok)
		}
		sameInput(t, s)
	}
	for b := range 256 {
		for _, s := range [][]byte{{byte(b)}, {'a', byte(b)}, {byte(b), 'z'}, {'a', byte(b), 'z'}, append(bytes.Repeat([]byte{'k'}, 9), byte(b))} {
			if ok := sameInput(t, string(s)); ok != (b >= 'a' && b <= 'z') {
				t.Errorf("InputOf(%q) is %v", s, ok)
			}
		}
	}
	for _, s := range textsOf("azA`{ \xe1", 4) {
		sameInput(t, s)
	}
}

func TestInputsAreReadAgainAsTheyWere(t *testing.T) {
	r := rand.New(rand.NewSource(78))
	inputs := append(listsOf([]int{0, 1, 25}, 5), listsOf(upTo(26), 2)...)
	for range 2000 {
		var w []int
		for range r.Intn(11) {
			w = append(w, r.Intn(26))
		}
		inputs = append(inputs, w)
	}
	seen := map[string][]int{}
	for _, w := range inputs {
		s := impl.InputText(w)
		again, ok := impl.InputOf(s)
		if !ok || !slices.Equal(again, w) || len(s) != len(w) {
			t.Fatalf("InputOf(%q) of %v = %v, %v", s, w, again, ok)
		}
		if other, twice := seen[s]; twice && !slices.Equal(other, w) {
			t.Fatalf("InputText of %v and of %v = %q", w, other, s)
		}
		seen[s] = w
	}
}

func TestInputsAreNewMemory(t *testing.T) {
	for n := range 11 {
		text := []byte(strings.Repeat("q", n))
		s := string(text)
		first, ok := impl.InputOf(s)
		again, _ := impl.InputOf(s)
		if a, b := memoryOf(first), memoryOf(again); !ok || a.from < b.to && b.from < a.to {
			t.Fatalf("InputOf(%q), twice: two answers share memory", s)
		}
		whole := first[:cap(first)]
		for i := range whole {
			whole[i] = -9
		}
		sameInput(t, s)
		if s != string(text) {
			t.Fatalf("InputOf wrote into %q", text)
		}
		w := guard("an input", slices.Repeat([]int{16}, n))
		told := impl.InputText(w.list)
		for i := range w.array {
			w.array[i] = 3
		}
		if told != s {
			t.Fatalf("InputText of %d letters shares memory with its argument", n)
		}
	}
}

func TestWhatBelongsIsAskedWithoutWriting(t *testing.T) {
	r := rand.New(rand.NewSource(79))
	calls := []struct {
		name string
		tell func(g impl.Gram, row, w []int) string
	}{
		{"InputOk", func(g impl.Gram, row, w []int) string { return fmt.Sprint(impl.InputOk(w)) }},
		{"Derives", func(g impl.Gram, row, w []int) string { return fmt.Sprint(impl.Derives(g, row, w)) }},
		{"Accepts", func(g impl.Gram, row, w []int) string { return fmt.Sprint(impl.Accepts(g, w)) }},
		{"Ways", func(g impl.Gram, row, w []int) string { return fmt.Sprint(impl.Ways(g, w, 1000)) }},
		{"InputText", func(g impl.Gram, row, w []int) string { return impl.InputText(w) }},
	}
	for i := range 1000 {
		plain := randomChecked(r, 5, 3, 3, 2)
		if i%10 == 0 {
			plain = randomGram(r, 5, 3, 3)
		}
		input := []int{0, 26}
		if i%10 > 1 {
			input = sampleOf(r, plain, []int{100})
		}
		for _, x := range calls {
			g, row, w := guardGram(plain), guard("a row", randomRow(r, len(plain.Parts), r.Intn(9))), guard("an input", input)
			told := x.tell(g.gram, row.list, w.list)
			again := x.tell(g.gram, row.list, w.list)
			g.unchanged(t, x.name)
			row.unchanged(t, x.name)
			w.unchanged(t, x.name)
			if told != again || told != x.tell(copyOfGram(plain), slices.Clone(row.list), slices.Clone(input)) {
				t.Fatalf("%s of %v and %v tells %q and then something else", x.name, plain, input, told)
			}
		}
	}
}

// What is told does not hang on how a map is gone through, nor on who else asks.
func TestWhatBelongsOfManyAtOnce(t *testing.T) {
	g := gramFrom(t, "S = a* T a* | b S ; T = U? U? ; U = a | a a | ;")
	h := gramFrom(t, "S = i S ( e S )? | o ;")
	many, few := impl.Ways(g, make([]int, 9), 1000), impl.Ways(h, lettersOf("iiioeoeo"), 1000)
	var all sync.WaitGroup
	for range 8 {
		all.Go(func() {
			for range 100 {
				if n, m := impl.Ways(g, make([]int, 9), 1000), impl.Ways(h, lettersOf("iiioeoeo"), 1000); n != many || m != few {
					t.Errorf("%d and %d ways, and then %d and %d", many, few, n, m)
				}
			}
		})
	}
	all.Wait()
	if few != 3 || saidOf(t, g, make([]int, 9)) != many {
		t.Error(many, few)
	}
}
