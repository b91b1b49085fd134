package tests

import (
	"math"
	"math/big"
	"slices"
	"strings"
	"testing"

	"loop.example/g00485/impl"
)

// The functions as the document writes them down.
var (
	_ func(int) string            = impl.Digits
	_ func(string) (int, bool)    = impl.Number
	_ func(string, byte) []string = impl.Parts
	_ func([]int) bool            = impl.SetOk
	_ func([]int, int) bool       = impl.SetHas
	_ func([]int, int) []int      = impl.SetAdd
	_ func([]int, []int) []int    = impl.SetJoin
	_ func([]int, []int) int      = impl.ListCmp
)

// edges holds the least and the greatest int beside small ones.
var edges = []int{math.MinInt, -1, 0, 1, math.MaxInt}

// listsOf tells all lists of at most most of these numbers, in any order and with repeats.
func listsOf(numbers []int, most int) [][]int {
	all := [][]int{nil}
	longest := all
	for range most {
		var longer [][]int
		for _, l := range longest {
			for _, x := range numbers {
				longer = append(longer, append(slices.Clone(l), x))
			}
		}
		all = append(all, longer...)
		longest = longer
	}
	return all
}

func TestDigits(t *testing.T) {
	for _, c := range []struct {
		n    int
		want string
	}{
		{0, "0"}, {7, "7"}, {9, "9"}, {10, "10"}, {99, "99"}, {100, "100"}, {120, "120"},
		{999999, "999999"}, {1000000, "1000000"}, {-1, "-1"}, {-10, "-10"}, {-70, "-70"},
		{math.MaxInt, "9223372036854775807"}, {math.MinInt, "-9223372036854775808"},
		{math.MaxInt - 1, "9223372036854775806"}, {math.MinInt + 1, "-9223372036854775807"},
	} {
		if got := impl.Digits(c.n); got != c.want {
			t.Errorf("Digits(%d) = %q, want %q", c.n, got, c.want)
		}
	}
	for n := -2000; n <= 2000; n++ {
		if got, want := impl.Digits(n), big.NewInt(int64(n)).String(); got != want {
			t.Errorf("Digits(%d) = %q, want %q", n, got, want)
		}
	}
}

func TestNumberReadsDigits(t *testing.T) {
	for n := 0; n <= 999999; n++ {
		if got, ok := impl.Number(impl.Digits(n)); got != n || !ok {
			t.Fatalf("Number(%q) = %d, %v", impl.Digits(n), got, ok)
		}
	}
}

func TestNumberRefuses(t *testing.T) {
	for _, s := range []string{
		"", " ", "-", "+", "1000000", "1000001", "9999999", "10000000", "-1", "-0", "+0", "+1", "-70", "--1",
		"00", "01", "012", "000000", "0000001", "0999999", " 1", "1 ", "1 2", "1\n", "\t1", "\x001", "1\x00",
		"1_0", "1,0", "1.0", "1e3", "0x1", "0b1", "0o7", "a", "1a", "a1", "x",
		"9223372036854775807", "9223372036854775808", "-9223372036854775808", "18446744073709551616", "18446744073709551617",
		strings.Repeat("9", 400), strings.Repeat("0", 400), "0" + strings.Repeat("0", 400) + "1",
		"\u0661", "\uff11", "1\u0661", "\xff", "1\xff", "\u22121",
	} {
		if n, ok := impl.Number(s); n != 0 || ok {
			t.Errorf("Number(%q) = %d, %v, want 0, false", s, n, ok)
		}
	}
}

// isNumber is the shape of what Digits writes, told without reading a number.
func isNumber(s string) bool {
	if s == "" || len(s) > 6 || len(s) > 1 && s[0] == '0' {
		return false
	}
	return strings.Trim(s, "0123456789") == ""
}

func TestNumberOfAllShortTexts(t *testing.T) {
	const bytes = "019+-_. a\n"
	texts := []string{""}
	for from, n := 0, 0; n < 4; n++ {
		end := len(texts)
		for ; from < end; from++ {
			for i := range len(bytes) {
				texts = append(texts, texts[from]+bytes[i:i+1])
			}
		}
	}
	for _, s := range texts {
		n, ok := impl.Number(s)
		if ok != isNumber(s) || ok && impl.Digits(n) != s || !ok && n != 0 {
			t.Errorf("Number(%q) = %d, %v", s, n, ok)
		}
	}
	for b := range 256 {
		s := string([]byte{byte(b)})
		if n, ok := impl.Number(s); ok != isNumber(s) || ok && n != b-'0' || !ok && n != 0 {
			t.Errorf("Number(%q) = %d, %v", s, n, ok)
		}
	}
}

func TestNumberAfterRefusal(t *testing.T) {
	for range 3 {
		if n, ok := impl.Number("no"); n != 0 || ok {
			t.Fatalf("Number(no) = %d, %v", n, ok)
		}
		if n, ok := impl.Number("42"); n != 42 || !ok {
			t.Fatalf("Number(42) = %d, %v", n, ok)
		}
	}
}

func TestParts(t *testing.T) {
	for _, c := range []struct {
		s    string
		by   byte
		want []string
	}{
		{"", ',', []string{""}},
		{"", 0, []string{""}},
		{"abc", ',', []string{"abc"}},
		{",", ',', []string{"", ""}},
		{",,", ',', []string{"", "", ""}},
		{"a,b", ',', []string{"a", "b"}},
		{"a,,b,", ',', []string{"a", "", "b", ""}},
		{",a", ',', []string{"", "a"}},
		{"a,", ',', []string{"a", ""}},
		{"a b  c", ' ', []string{"a", "b", "", "c"}},
		{"a\nb\n", '\n', []string{"a", "b", ""}},
		{"a\x00b", 0, []string{"a", "b"}},
		{"a\xffb\xff", 0xff, []string{"a", "b", ""}},
		{"\u00e9", 0xc3, []string{"", "\xa9"}},
		{"\u00e9", 0xa9, []string{"\xc3", ""}},
		{"\u00e9", 0xe9, []string{"\u00e9"}},
		{"x\u00c3y", 0xc3, []string{"x", "\x83y"}},
		{"a\xc3b", 0xc3, []string{"a", "b"}},
	} {
		if got := impl.Parts(c.s, c.by); !slices.Equal(got, c.want) {
			t.Errorf("Parts(%q, %d) = %q, want %q", c.s, c.by, got, c.want)
		}
	}
}

func TestPartsOfEachByte(t *testing.T) {
	var all [256]byte
	for i := range all {
		all[i] = byte(i)
	}
	s := string(all[:])
	for b := range 256 {
		if got := impl.Parts(s, byte(b)); !slices.Equal(got, []string{s[:b], s[b+1:]}) {
			t.Errorf("Parts of all bytes by %d = %q", b, got)
		}
	}
}

func TestPartsAreNewMemory(t *testing.T) {
	s := strings.Repeat("word,", 20) + "end"
	for _, by := range []byte{',', 'w', 0xff} {
		for _, part := range impl.Parts(s, by) {
			if within(part, s) {
				t.Errorf("Parts by %d: %q lies in the memory of its argument", by, part)
			}
		}
	}
	first := impl.Parts("a,b", ',')
	first[0] = "z"
	if again := impl.Parts("a,b", ','); again[0] != "a" {
		t.Error("what was answered before is seen again")
	}
}

func TestSetOk(t *testing.T) {
	for _, c := range []struct {
		s    []int
		want bool
	}{
		{nil, true}, {[]int{}, true}, {[]int{5}, true}, {[]int{-5}, true}, {[]int{1, 2}, true}, {[]int{1, 5, 9}, true},
		{[]int{1, 1}, false}, {[]int{2, 1}, false}, {[]int{1, 2, 2}, false}, {[]int{1, 3, 2}, false}, {[]int{3, 1, 2}, false}, {[]int{1, 2, 1}, false},
		{[]int{math.MinInt, math.MaxInt}, true}, {[]int{math.MaxInt, math.MinInt}, false},
		{[]int{math.MinInt, 0, math.MaxInt}, true}, {[]int{math.MinInt, math.MinInt}, false}, {[]int{math.MaxInt, math.MaxInt}, false},
	} {
		if got := impl.SetOk(c.s); got != c.want {
			t.Errorf("SetOk(%v) = %v", c.s, got)
		}
	}
}

func TestSetHas(t *testing.T) {
	for _, c := range []struct {
		s    []int
		x    int
		want bool
	}{
		{nil, 0, false}, {[]int{}, 0, false}, {[]int{0}, 0, true}, {[]int{1, 3, 5}, 1, true}, {[]int{1, 3, 5}, 3, true}, {[]int{1, 3, 5}, 5, true},
		{[]int{1, 3, 5}, 4, false}, {[]int{1, 3, 5}, 0, false}, {[]int{1, 3, 5}, 6, false}, {[]int{9, 2, 7, 2}, 2, true}, {[]int{9, 5, 1}, 1, true}, {[]int{9, 5, 1}, 9, true},
		{[]int{math.MinInt, math.MaxInt}, math.MinInt, true}, {[]int{math.MinInt, math.MaxInt}, math.MaxInt, true}, {[]int{math.MinInt, math.MaxInt}, -1, false},
	} {
		if got := impl.SetHas(c.s, c.x); got != c.want {
			t.Errorf("SetHas(%v, %d) = %v", c.s, c.x, got)
		}
	}
	for _, s := range listsOf(edges, 3) {
		for _, x := range edges {
			seen := 0
			for _, y := range s {
				if y == x {
					seen++
				}
			}
			if impl.SetHas(s, x) != (seen > 0) {
				t.Errorf("SetHas(%v, %d)", s, x)
			}
		}
	}
}

func TestSetAdd(t *testing.T) {
	for _, c := range []struct {
		s    []int
		x    int
		want []int
	}{
		{nil, 4, []int{4}}, {[]int{}, 4, []int{4}}, {[]int{1, 5}, 3, []int{1, 3, 5}}, {[]int{1, 5}, 0, []int{0, 1, 5}}, {[]int{1, 5}, 6, []int{1, 5, 6}},
		{[]int{1, 5}, 1, []int{1, 5}}, {[]int{1, 5}, 5, []int{1, 5}}, {[]int{5}, 5, []int{5}},
		{[]int{9, 2, 7}, 2, []int{9, 2, 7}}, {[]int{9, 2, 7}, 5, []int{5, 9, 2, 7}}, {[]int{2, 9, 1}, 3, []int{2, 3, 9, 1}}, {[]int{4, 3, 2}, 8, []int{4, 3, 2, 8}},
		{[]int{9, 9}, 9, []int{9, 9}}, {[]int{2, 2}, 1, []int{1, 2, 2}}, {[]int{2, 2}, 3, []int{2, 2, 3}}, {[]int{5, 1}, 1, []int{5, 1}},
		{[]int{0}, math.MinInt, []int{math.MinInt, 0}}, {[]int{0}, math.MaxInt, []int{0, math.MaxInt}},
		{[]int{math.MinInt, math.MaxInt}, 0, []int{math.MinInt, 0, math.MaxInt}},
		{[]int{math.MinInt}, math.MinInt, []int{math.MinInt}}, {[]int{math.MaxInt}, math.MaxInt, []int{math.MaxInt}},
	} {
		if got := impl.SetAdd(c.s, c.x); !slices.Equal(got, c.want) {
			t.Errorf("SetAdd(%v, %d) = %v, want %v", c.s, c.x, got, c.want)
		}
	}
}

// addPlainly is SetAdd put down as the document says it.
func addPlainly(s []int, x int) []int {
	var out []int
	put := false
	for _, y := range s {
		if y == x {
			return s
		}
		if y > x && !put {
			out = append(out, x)
			put = true
		}
		out = append(out, y)
	}
	if !put {
		out = append(out, x)
	}
	return out
}

func TestSetAddOfAllShortLists(t *testing.T) {
	for _, s := range listsOf(edges, 4) {
		for _, x := range append([]int{-2, 2}, edges...) {
			if got, want := impl.SetAdd(s, x), addPlainly(s, x); !slices.Equal(got, want) {
				t.Errorf("SetAdd(%v, %d) = %v, want %v", s, x, got, want)
			}
		}
	}
}

func TestSetJoin(t *testing.T) {
	for _, c := range []struct{ a, b, want []int }{
		{nil, nil, nil}, {[]int{}, []int{}, nil}, {[]int{1, 2}, nil, []int{1, 2}}, {nil, []int{1, 2}, []int{1, 2}}, {nil, []int{2, 1, 2}, []int{1, 2}},
		{[]int{2}, []int{3, 1, 2}, []int{1, 2, 3}}, {[]int{1, 2}, []int{1, 2}, []int{1, 2}}, {[]int{1, 2}, []int{2, 3}, []int{1, 2, 3}},
		{[]int{1, 4, 7}, []int{2, 4, 6, 8}, []int{1, 2, 4, 6, 7, 8}}, {[]int{5, 6}, []int{1, 2}, []int{1, 2, 5, 6}},
		{[]int{9, 2}, []int{5, 2, 10}, []int{5, 9, 2, 10}}, {[]int{3, 3}, []int{3, 4, 4}, []int{3, 3, 4}}, {[]int{3, 1}, []int{2, 0}, []int{0, 2, 3, 1}},
		{[]int{math.MaxInt}, []int{math.MinInt}, []int{math.MinInt, math.MaxInt}}, {[]int{math.MinInt}, []int{math.MaxInt, math.MinInt}, []int{math.MinInt, math.MaxInt}},
	} {
		if got := impl.SetJoin(c.a, c.b); !slices.Equal(got, c.want) {
			t.Errorf("SetJoin(%v, %v) = %v, want %v", c.a, c.b, got, c.want)
		}
	}
}

func TestSetJoinOfAllShortLists(t *testing.T) {
	lists := listsOf(edges, 3)
	for _, a := range lists {
		for _, b := range lists {
			want := a
			for _, x := range b {
				want = addPlainly(want, x)
			}
			if got := impl.SetJoin(a, b); !slices.Equal(got, want) {
				t.Fatalf("SetJoin(%v, %v) = %v, want %v", a, b, got, want)
			}
		}
	}
}

// Promise 1: what is joined is there once.
func TestWhatIsJoinedIsThereOnce(t *testing.T) {
	lists := listsOf(edges, 3)
	for _, a := range lists {
		if !impl.SetOk(a) {
			continue
		}
		for _, b := range lists {
			got := impl.SetJoin(a, b)
			if !impl.SetOk(got) {
				t.Fatalf("SetJoin(%v, %v) = %v is not SetOk", a, b, got)
			}
			for _, x := range edges {
				times := 0
				for _, y := range got {
					if y == x {
						times++
					}
				}
				if want := impl.SetHas(a, x) || impl.SetHas(b, x); times > 1 || want != (times == 1) {
					t.Fatalf("SetJoin(%v, %v) = %v has %d %d times", a, b, got, x, times)
				}
			}
			if again := impl.SetJoin(got, b); !slices.Equal(again, got) {
				t.Fatalf("joined again, %v became %v", got, again)
			}
		}
	}
}

func TestListCmp(t *testing.T) {
	for _, c := range []struct {
		a, b []int
		want int
	}{
		{nil, nil, 0}, {nil, []int{}, 0}, {[]int{}, nil, 0}, {nil, []int{0}, -1}, {[]int{}, []int{math.MinInt}, -1}, {[]int{0}, nil, 1},
		{[]int{1}, []int{1}, 0}, {[]int{1}, []int{2}, -1}, {[]int{2}, []int{1}, 1}, {[]int{1, 2, 3}, []int{1, 2, 3}, 0},
		{[]int{1}, []int{1, 0}, -1}, {[]int{1, 0}, []int{1}, 1}, {[]int{1, 2}, []int{1, 2, -9}, -1}, {[]int{1, 2, math.MinInt}, []int{1, 2}, 1},
		{[]int{2}, []int{1, 9}, 1}, {[]int{1, 9}, []int{2}, -1}, {[]int{1, 2, 9}, []int{1, 3}, -1}, {[]int{1, 3}, []int{1, 2, 9}, 1},
		{[]int{-10}, []int{-9}, -1}, {[]int{math.MinInt}, []int{math.MaxInt}, -1}, {[]int{math.MaxInt}, []int{math.MinInt}, 1},
		{[]int{math.MinInt}, []int{1}, -1}, {[]int{math.MaxInt}, []int{-1}, 1}, {[]int{1, math.MaxInt}, []int{1, math.MinInt}, 1},
	} {
		if got := impl.ListCmp(c.a, c.b); got != c.want {
			t.Errorf("ListCmp(%v, %v) = %d, want %d", c.a, c.b, got, c.want)
		}
	}
}

// cmpPlainly tells the order by recursion on the first place.
func cmpPlainly(a, b []int) int {
	switch {
	case len(a) == 0 && len(b) == 0:
		return 0
	case len(a) == 0:
		return -1
	case len(b) == 0:
		return 1
	case a[0] < b[0]:
		return -1
	case a[0] > b[0]:
		return 1
	}
	return cmpPlainly(a[1:], b[1:])
}

func TestListCmpOfAllShortLists(t *testing.T) {
	lists := listsOf(edges, 3)
	for _, a := range lists {
		for _, b := range lists {
			got := impl.ListCmp(a, b)
			if got != cmpPlainly(a, b) || got != -impl.ListCmp(b, a) {
				t.Fatalf("ListCmp(%v, %v) = %d", a, b, got)
			}
		}
	}
}

func TestSetsAreNotWrittenNorShared(t *testing.T) {
	lists := append(listsOf([]int{0, 1, 2}, 3), []int{9, 4, 4, 7}, []int{math.MinInt, math.MaxInt})
	for _, l := range lists {
		for _, x := range []int{-1, 0, 1, 2, 3, math.MinInt, math.MaxInt} {
			a := guard("s", l)
			impl.SetOk(a.list)
			impl.SetHas(a.list, x)
			a.unchanged(t, "SetOk or SetHas")
			got := impl.SetAdd(a.list, x)
			a.unchanged(t, "SetAdd")
			ownMemory(t, "SetAdd", got, a)
		}
		for _, m := range lists {
			a, b := guard("a", l), guard("b", m)
			impl.ListCmp(a.list, b.list)
			a.unchanged(t, "ListCmp")
			b.unchanged(t, "ListCmp")
			got := impl.SetJoin(a.list, b.list)
			a.unchanged(t, "SetJoin")
			b.unchanged(t, "SetJoin")
			ownMemory(t, "SetJoin", got, a, b)
		}
	}
}

func TestSetJoinOfAListWithItself(t *testing.T) {
	for _, l := range listsOf([]int{0, 1, 2}, 3) {
		a := guard("s", l)
		got := impl.SetJoin(a.list, a.list)
		a.unchanged(t, "SetJoin")
		if !slices.Equal(got, l) {
			t.Errorf("SetJoin(%v, itself) = %v", l, got)
		}
		ownMemory(t, "SetJoin", got, a)
	}
}
