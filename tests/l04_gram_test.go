package tests

import (
	"maps"
	"math"
	"math/rand"
	"slices"
	"strconv"
	"strings"
	"testing"
	"unsafe"

	"loop.example/g00485/impl"
)

// The functions and types as the document writes them down.
var (
	_ func(impl.Gram) bool               = impl.GramOk
	_ func([]impl.Rule) (impl.Gram, int) = impl.Plain
	_ func(impl.Gram) string             = impl.GramText
	_ func([]int) string                 = impl.RowText
	_                                    = impl.Gram{Parts: [][][]int(nil)}
)

func TestConstantsOfGrammars(t *testing.T) {
	limits := []int{impl.Nt, impl.MaxNts, impl.MaxAlts, impl.MaxLong}
	codes := []int{impl.GrOk, impl.GrTwice, impl.GrName, impl.GrMany}
	if !slices.Equal(limits, []int{100, 20, 8, 8}) || !slices.Equal(codes, []int{0, 1, 2, 3}) {
		t.Error("constants", limits, codes)
	}
}

func gramOf(parts ...[][]int) impl.Gram { return impl.Gram{Parts: parts} }
func altsOf(rows ...[]int) [][]int      { return rows }

func sameGram(a, b impl.Gram) bool {
	sameAlts := func(x, y [][]int) bool { return slices.EqualFunc(x, y, slices.Equal[[]int]) }
	return slices.EqualFunc(a.Parts, b.Parts, sameAlts)
}

// okPlainly is GramOk put down as the document says it.
func okPlainly(g impl.Gram) bool {
	n := len(g.Parts)
	ok := n >= 1 && n <= 20
	for _, alts := range g.Parts {
		ok = ok && len(alts) >= 1 && len(alts) <= 8
		for _, row := range alts {
			ok = ok && len(row) <= 8
			for _, s := range row {
				ok = ok && (slices.Contains([]int{0, 1, 2, 3, 4, 5, 6, 7, 8, 9, 10, 11, 12, 13, 14, 15, 16, 17, 18, 19, 20, 21, 22, 23, 24, 25}, s) || s >= 100 && s < 100+n)
			}
		}
	}
	return ok
}

func wantOk(t *testing.T, g impl.Gram, want bool) {
	t.Helper()
	if got := impl.GramOk(g); got != want {
		t.Errorf("GramOk(%v) = %v, want %v", g, got, want)
	}
	if got := okPlainly(g); got != want {
		t.Errorf("%v is %v plainly, want %v", g, got, want)
	}
}

func TestGramOkOfParts(t *testing.T) {
	one := altsOf([]int{0})
	wantOk(t, impl.Gram{}, false)
	wantOk(t, gramOf([][][]int{}...), false)
	for _, n := range []int{1, 2, 19, 20, 21, 22, 40, 100} {
		wantOk(t, gramOf(slices.Repeat([][][]int{one}, n)...), n <= 20)
	}
}

func TestGramOkOfAlternatives(t *testing.T) {
	one := altsOf([]int{0})
	for n := range 12 {
		many := slices.Repeat([][]int{{0, 100}}, n)
		empty := make([][]int, n)
		want := n >= 1 && n <= 8
		for _, alts := range [][][]int{many, empty} {
			wantOk(t, gramOf(alts), want)
			wantOk(t, gramOf(alts, one), want)
			wantOk(t, gramOf(one, alts), want)
			wantOk(t, gramOf(one, alts, one), want)
		}
	}
	wantOk(t, gramOf(nil), false)
	wantOk(t, gramOf([][]int{}), false)
	wantOk(t, gramOf(one, nil), false)
}

func TestGramOkOfRows(t *testing.T) {
	for n := range 12 {
		for _, s := range []int{0, 25, 100, 101} {
			row := slices.Repeat([]int{s}, n)
			wantOk(t, gramOf(altsOf(row), altsOf(nil)), n <= 8)
			wantOk(t, gramOf(altsOf(nil), altsOf(row)), n <= 8)
			wantOk(t, gramOf(altsOf([]int{1}, row, []int{2}), altsOf(nil)), n <= 8)
			wantOk(t, gramOf(altsOf([]int{1}), altsOf(nil, []int{2}, row)), n <= 8)
		}
	}
	wantOk(t, gramOf(altsOf(nil)), true)
	wantOk(t, gramOf(altsOf([]int{})), true)
}

func TestGramOkOfSymbols(t *testing.T) {
	for parts := 1; parts <= 20; parts++ {
		symbols := []int{math.MinInt, math.MinInt + 1, math.MinInt + 100, math.MaxInt - 99, -200, -101, -100, -99, -26, -2, -1, 0, 1, 12, 24, 25, 26, 27, 50, 98, 99, 100, 100 + parts - 1, 100 + parts, 101 + parts, 119, 120, 121, 1000, math.MaxInt - 1, math.MaxInt}
		for _, s := range symbols {
			want := s >= 0 && s <= 25 || s >= 100 && s-100 < parts
			for _, k := range []int{0, parts / 2, parts - 1} {
				for at := range 5 {
					rows := altsOf([]int{0, 0}, nil, []int{25, 100, 3})
					place := [][]int{rows[0], rows[2]}[at/2%2]
					place[at%2+at/4] = s
					all := slices.Repeat([][][]int{altsOf(nil, []int{7})}, parts)
					all[k] = rows
					wantOk(t, gramOf(all...), want)
				}
			}
		}
	}
}

func TestGramOkOfAGrammarWithManyThingsWrong(t *testing.T) {
	wantOk(t, gramOf(slices.Repeat([][][]int{altsOf([]int{120})}, 21)...), false)
	wantOk(t, gramOf(make([][][]int, 1000)...), false)
	wantOk(t, gramOf(make([][]int, 100000)), false)
	wantOk(t, gramOf(altsOf(make([]int, 100000))), false)
}

// A met expression is one that has a part of its own, and where it stands: a number for each Kid on the way to it.
type met struct {
	path string
	expr impl.Expr
}

func pathOf(path string, i int) string { return path + "/" + strconv.Itoa(i) }

// metIn are the expressions that have parts of their own, an outer one ahead of the inner ones, from the left.
func metIn(e impl.Expr, path string) []met {
	var out []met
	if e.Kind >= 3 {
		out = append(out, met{path, e})
	}
	for i, kid := range e.Kids {
		out = append(out, metIn(kid, pathOf(path, i))...)
	}
	return out
}

func foreignName(e impl.Expr, rules []impl.Rule) bool {
	isRule := slices.ContainsFunc(rules, func(r impl.Rule) bool { return r.Name == e.Text })
	return e.Kind == 1 && !isRule || slices.ContainsFunc(e.Kids, func(k impl.Expr) bool { return foreignName(k, rules) })
}

func badlyMade(e impl.Expr) bool {
	n := len(e.Kids)
	bad := true
	switch e.Kind {
	case 0:
		bad = n > 0 || len(e.Text) != 1 || !strings.Contains("abcdefghijklmnopqrstuvwxyz", e.Text)
	case 1:
		bad = n > 0
	case 2:
		bad = false
	case 3:
		bad = n < 2
	case 4, 5, 6:
		bad = n != 1
	}
	return bad || slices.ContainsFunc(e.Kids, badlyMade)
}

// rowPlainly is the row of an expression that stands at such a path, where numbers are those of the parts by their paths.
func rowPlainly(e impl.Expr, path string, rules []impl.Rule, numbers map[string]int) []int {
	switch e.Kind {
	case 0:
		return []int{strings.Index("abcdefghijklmnopqrstuvwxyz", e.Text)}
	case 1:
		return []int{100 + slices.IndexFunc(rules, func(r impl.Rule) bool { return r.Name == e.Text })}
	case 2:
		var row []int
		for i, kid := range e.Kids {
			row = append(row, rowPlainly(kid, pathOf(path, i), rules, numbers)...)
		}
		return row
	}
	return []int{100 + numbers[path]}
}

// plainPlainly is Plain put down as the document says it: what has a part is numbered first, and the rows are written then.
func plainPlainly(rules []impl.Rule) (impl.Gram, int) {
	for i, a := range rules {
		if slices.ContainsFunc(rules[:i], func(b impl.Rule) bool { return a.Name == b.Name }) {
			return impl.Gram{}, 1
		}
	}
	for _, rule := range rules {
		if foreignName(rule.Expr, rules) {
			return impl.Gram{}, 2
		}
	}
	numbers := map[string]int{}
	var inner []met
	for k, rule := range rules {
		if badlyMade(rule.Expr) {
			return impl.Gram{}, 3
		}
		found := metIn(rule.Expr, strconv.Itoa(k))
		if rule.Expr.Kind == 3 {
			found = found[1:]
		}
		for _, m := range found {
			numbers[m.path] = len(rules) + len(inner)
			inner = append(inner, m)
		}
	}
	row := func(e impl.Expr, path string) []int { return rowPlainly(e, path, rules, numbers) }
	rows := func(e impl.Expr, path string) [][]int {
		var out [][]int
		for i, kid := range e.Kids {
			out = append(out, row(kid, pathOf(path, i)))
		}
		return out
	}
	var g impl.Gram
	for k, rule := range rules {
		if rule.Expr.Kind == 3 {
			g.Parts = append(g.Parts, rows(rule.Expr, strconv.Itoa(k)))
		} else {
			g.Parts = append(g.Parts, altsOf(row(rule.Expr, strconv.Itoa(k))))
		}
	}
	for _, m := range inner {
		alts, own := rows(m.expr, m.path), 100+numbers[m.path]
		switch m.expr.Kind {
		case 4:
			alts = append(alts, nil)
		case 5:
			alts = altsOf(append(alts[0], own), nil)
		case 6:
			alts = altsOf(slices.Concat(alts[0], []int{own}), alts[0])
		}
		g.Parts = append(g.Parts, alts)
	}
	if !okPlainly(g) {
		return impl.Gram{}, 3
	}
	return g, 0
}

// samePlain holds Plain against plainPlainly, and tells the code.
func samePlain(t *testing.T, rules ...impl.Rule) int {
	t.Helper()
	got, code := impl.Plain(rules)
	want, wantCode := plainPlainly(rules)
	if code != wantCode || !sameGram(got, want) {
		t.Fatalf("Plain(%v) = %v, %d, want %v, %d", rules, got, code, want, wantCode)
	}
	return code
}

func readRules(t *testing.T, s string) []impl.Rule {
	t.Helper()
	rules, bad := impl.ReadRules(s)
	if bad != -1 {
		t.Fatalf("ReadRules(%q) = %d", s, bad)
	}
	return rules
}

// plainText is GramText of the grammar of such rules, in one line.
func plainText(t *testing.T, rules ...impl.Rule) string {
	t.Helper()
	if code := samePlain(t, rules...); code != impl.GrOk {
		t.Fatalf("Plain(%v) tells %d", rules, code)
	}
	g, _ := impl.Plain(rules)
	return strings.ReplaceAll(impl.GramText(g), "\n", ";")
}

func wantCode(t *testing.T, want int, rules ...impl.Rule) {
	t.Helper()
	g, code := impl.Plain(rules)
	if code != want || want != impl.GrOk && g.Parts != nil {
		t.Errorf("Plain(%v) = %v, %d, want code %d", rules, g, code, want)
	}
	if _, code := plainPlainly(rules); code != want {
		t.Errorf("%v has code %d plainly, want %d", rules, code, want)
	}
}

func TestPlainOfTexts(t *testing.T) {
	for _, c := range []struct{ text, want string }{
		{"S=;", "P0 =;"},
		{"S=a;", "P0 = a;"},
		{"S=z;", "P0 = z;"},
		{"S=S;", "P0 = P0;"},
		{"S=abc;", "P0 = a b c;"},
		{"S=aTb;T=cS;", "P0 = a P1 b;P1 = c P0;"},
		{"T=aS;S=b;A=T;", "P0 = a P1;P1 = b;P2 = P0;"},
		{"S=a|b;", "P0 = a | b;"},
		{"S=|;", "P0 = |;"},
		{"S=|a|;", "P0 = | a |;"},
		{"S=ab|TS|;T=c|d;", "P0 = a b | P1 P0 |;P1 = c | d;"},
		{"S=(a|b);", "P0 = a | b;"},
		{"S=(a|b)c;", "P0 = P1 c;P1 = a | b;"},
		{"S=(a|b)|c;", "P0 = P1 | c;P1 = a | b;"},
		{"S=a?;", "P0 = P1;P1 = a |;"},
		{"S=a*;", "P0 = P1;P1 = a P1 |;"},
		{"S=a+;", "P0 = P1;P1 = a P1 | a;"},
		{"S=()?;", "P0 = P1;P1 = |;"},
		{"S=()*;", "P0 = P1;P1 = P1 |;"},
		{"S=()+;", "P0 = P1;P1 = P1 |;"},
		{"S=(ab)?(ab)*(ab)+;", "P0 = P1 P2 P3;P1 = a b |;P2 = a b P2 |;P3 = a b P3 | a b;"},
		{"S=a?*+;", "P0 = P1;P1 = P2 P1 | P2;P2 = P3 P2 |;P3 = a |;"},
		{"S=a+*?;", "P0 = P1;P1 = P2 |;P2 = P3 P2 |;P3 = a P3 | a;"},
		{"S=a**;", "P0 = P1;P1 = P2 P1 |;P2 = a P2 |;"},
		{"S=a++;", "P0 = P1;P1 = P2 P1 | P2;P2 = a P2 | a;"},
		{"S=a??;", "P0 = P1;P1 = P2 |;P2 = a |;"},
		{"S=(a|b)?;", "P0 = P1;P1 = P2 |;P2 = a | b;"},
		{"S=(a|b)+;", "P0 = P1;P1 = P2 P1 | P2;P2 = a | b;"},
		{"S=a?|b*|c+;", "P0 = P1 | P2 | P3;P1 = a |;P2 = b P2 |;P3 = c P3 | c;"},
		{"S=((a|b)|(c|d))|e;", "P0 = P1 | e;P1 = P2 | P3;P2 = a | b;P3 = c | d;"},
		{"S=(a?b?)*c?;T=d?;", "P0 = P2 P5;P1 = P6;P2 = P3 P4 P2 |;P3 = a |;P4 = b |;P5 = c |;P6 = d |;"},
		{"S=(a(b(c|d)*|e)+f)?g*;", "P0 = P1 P6;P1 = a P2 f |;P2 = P3 P2 | P3;P3 = b P4 | e;P4 = P5 P4 |;P5 = c | d;P6 = g P6 |;"},
		{"S=a?;T=b?;U=c?;", "P0 = P3;P1 = P4;P2 = P5;P3 = a |;P4 = b |;P5 = c |;"},
		{"S=U?T;T=S*;U=T+;", "P0 = P3 P1;P1 = P4;P2 = P5;P3 = P2 |;P4 = P0 P4 |;P5 = P1 P5 | P1;"},
		{"S = a (b | c T)* d? ; T = x+ | ;", "P0 = a P2 P4;P1 = P5 |;P2 = P3 P2 |;P3 = b | c P1;P4 = d |;P5 = x P5 | x;"},
	} {
		if got := plainText(t, readRules(t, c.text)...); got != c.want {
			t.Errorf("%q is %q, want %q", c.text, got, c.want)
		}
	}
}

func TestPlainOfEachLetter(t *testing.T) {
	for b := range 256 {
		rule := ruleOf("S", letterOf(string([]byte{byte(b)})))
		if b < 'a' || b > 'z' {
			wantCode(t, impl.GrMany, rule)
			wantCode(t, impl.GrMany, ruleOf("S", seqOf(optOf(altOf(seqOf(), rule.Expr)))))
			continue
		}
		if g, code := impl.Plain([]impl.Rule{rule}); code != impl.GrOk || !sameGram(g, gramOf(altsOf([]int{b - 'a'}))) {
			t.Errorf("Plain of letter %c = %v, %d", b, g, code)
		}
	}
	for _, text := range []string{"", "aa", "ab", " a", "a ", "a\x00", "\u00e9", "A", "S", "`", "{", "0", "\xff"} {
		wantCode(t, impl.GrMany, ruleOf("S", letterOf(text)))
		wantCode(t, impl.GrMany, ruleOf("S", altOf(letterOf("a"), seqOf(letterOf("b"), letterOf(text)))))
		wantCode(t, impl.GrMany, ruleOf("S", starOf(letterOf(text))))
	}
}

func TestPlainOfNoRule(t *testing.T) {
	wantCode(t, impl.GrMany)
	wantCode(t, impl.GrMany, []impl.Rule{}...)
	wantCode(t, impl.GrMany, make([]impl.Rule, 0, 5)...)
	wantCode(t, impl.GrMany, impl.Rule{})
}

func TestPlainOfNames(t *testing.T) {
	a := letterOf("a")
	for _, name := range []string{"S", "", "a", "long name", "\x00", "\u00e9", "=", " "} {
		other := name + "'"
		wantCode(t, impl.GrOk, ruleOf(name, nameOf(name)))
		wantCode(t, impl.GrOk, ruleOf(other, nameOf(name)), ruleOf(name, nameOf(other)))
		wantCode(t, impl.GrTwice, ruleOf(name, a), ruleOf(name, a))
		wantCode(t, impl.GrTwice, ruleOf(name, a), ruleOf(other, a), ruleOf(name, letterOf("b")))
		wantCode(t, impl.GrTwice, ruleOf(other, a), ruleOf(name, a), ruleOf(name, a), ruleOf(name, a))
		wantCode(t, impl.GrName, ruleOf(other, nameOf(name)))
		wantCode(t, impl.GrName, ruleOf(name, nameOf(name)), ruleOf(other, nameOf(other+"'")))
	}
	wantCode(t, impl.GrOk, ruleOf("S", a), ruleOf("s", nameOf("S")))
	wantCode(t, impl.GrName, ruleOf("S", nameOf("s")))
	g, _ := impl.Plain([]impl.Rule{ruleOf("Z", nameOf("Y")), ruleOf("Y", nameOf("A")), ruleOf("A", nameOf("Z"))})
	if !sameGram(g, gramOf(altsOf([]int{101}), altsOf([]int{102}), altsOf([]int{100}))) {
		t.Error("rules are numbered by their places, not by their names:", g)
	}
}

func TestPlainOfANameDeepWithin(t *testing.T) {
	a, foreign, own := letterOf("a"), nameOf("F"), nameOf("S")
	for _, within := range []func(impl.Expr) impl.Expr{
		func(e impl.Expr) impl.Expr { return e },
		func(e impl.Expr) impl.Expr { return seqOf(a, a, e) },
		func(e impl.Expr) impl.Expr { return seqOf(seqOf(), seqOf(e, a)) },
		func(e impl.Expr) impl.Expr { return altOf(a, e) },
		func(e impl.Expr) impl.Expr { return altOf(e, a) },
		func(e impl.Expr) impl.Expr { return optOf(e) },
		func(e impl.Expr) impl.Expr { return starOf(e) },
		func(e impl.Expr) impl.Expr { return plusOf(e) },
		func(e impl.Expr) impl.Expr { return seqOf(a, starOf(altOf(a, seqOf(optOf(plusOf(e)), a)))) },
	} {
		wantCode(t, impl.GrOk, ruleOf("S", within(own)))
		wantCode(t, impl.GrName, ruleOf("S", within(foreign)))
		wantCode(t, impl.GrName, ruleOf("S", a), ruleOf("T", within(foreign)))
		wantCode(t, impl.GrName, ruleOf("S", within(foreign)), ruleOf("T", a))
		wantCode(t, impl.GrTwice, ruleOf("S", within(foreign)), ruleOf("T", a), ruleOf("T", a))
		wantCode(t, impl.GrTwice, ruleOf("T", a), ruleOf("T", a), ruleOf("S", within(foreign)))
		wantCode(t, impl.GrTwice, ruleOf("S", within(foreign)), ruleOf("S", within(foreign)))
	}
}

func TestPlainOfBadlyMadeExpressions(t *testing.T) {
	a, b, s := letterOf("a"), letterOf("b"), nameOf("S")
	with := func(kind int, text string, kids ...impl.Expr) impl.Expr {
		return impl.Expr{Kind: kind, Text: text, Kids: kids}
	}
	bad := []impl.Expr{
		altOf(), altOf(a), altOf(seqOf()), altOf(altOf(a, b)),
		with(4, ""), with(4, "", a, b), with(5, ""), with(5, "", a, b), with(6, ""), with(6, "", a, b), with(4, "", a, a, a), with(5, "a"), with(6, "S"),
		with(0, "a", a), with(0, "a", seqOf()), with(0, "a", a, b), with(1, "S", a), with(1, "S", s), with(1, "S", seqOf(), seqOf()),
		with(0, ""), with(0, "ab"), with(0, "A"), with(0, "S"), with(0, "1"),
		with(-1, "a"), with(7, "a"), with(8, "a"), with(100, "S"), with(-1, "", a), with(7, "", a), with(7, "", a, b), with(-7, ""), with(math.MaxInt, "a", a), with(math.MinInt, "a"), with(1<<32, "a"), with(1<<32+2, "a", a),
	}
	good := []impl.Expr{
		altOf(a, b), altOf(a, a), altOf(seqOf(), seqOf()), seqOf(), seqOf(a), seqOf(a, b), seqOf(seqOf(), seqOf(seqOf(), seqOf())), optOf(a), starOf(a), plusOf(a),
		a, b, s, with(2, "x"), with(2, "S", a), with(3, "x", a, b), with(4, "F", a), with(5, "?", a), with(6, "ab", a),
		{Kind: 0, Text: "a", Kids: []impl.Expr{}}, {Kind: 1, Text: "S", Kids: make([]impl.Expr, 0, 3)},
	}
	for i, e := range append(bad, good...) {
		want := impl.GrMany
		if i >= len(bad) {
			want = impl.GrOk
		}
		for _, within := range []impl.Expr{e, seqOf(e), seqOf(a, e, b), altOf(e, a), altOf(a, b, e), optOf(e), starOf(e), plusOf(e), optOf(starOf(plusOf(altOf(seqOf(b, e), s))))} {
			wantCode(t, want, ruleOf("S", within))
			wantCode(t, want, ruleOf("S", s), ruleOf("T", within))
			wantCode(t, want, ruleOf("S", within), ruleOf("T", s))
			wantCode(t, impl.GrName, ruleOf("S", within), ruleOf("T", nameOf("F")))
			wantCode(t, impl.GrName, ruleOf("S", seqOf(within, nameOf("F"))))
			wantCode(t, impl.GrName, ruleOf("S", seqOf(nameOf("F"), within)))
			wantCode(t, impl.GrTwice, ruleOf("S", within), ruleOf("S", nameOf("F")))
		}
	}
}

func TestPlainOfANameWithinABadlyMadeExpression(t *testing.T) {
	a, f := letterOf("a"), nameOf("F")
	for _, kind := range []int{-1, 0, 1, 3, 7, 9} {
		wantCode(t, impl.GrName, ruleOf("S", impl.Expr{Kind: kind, Text: "S", Kids: []impl.Expr{f}}))
		wantCode(t, impl.GrName, ruleOf("S", impl.Expr{Kind: kind, Text: "S", Kids: []impl.Expr{a, starOf(f)}}))
	}
	for _, kind := range []int{4, 5, 6} {
		wantCode(t, impl.GrName, ruleOf("S", impl.Expr{Kind: kind, Kids: []impl.Expr{a, f}}))
	}
	wantCode(t, impl.GrName, ruleOf("S", impl.Expr{Kind: 1, Text: "F", Kids: []impl.Expr{a}}))
	wantCode(t, impl.GrMany, ruleOf("S", impl.Expr{Kind: 7, Text: "F"}))
}

func TestPlainOfRowsOfRows(t *testing.T) {
	a, b, c := letterOf("a"), letterOf("b"), letterOf("c")
	for _, x := range []struct {
		e    impl.Expr
		want string
	}{
		{seqOf(), "P0 =;"},
		{seqOf(seqOf(), seqOf(seqOf())), "P0 =;"},
		{seqOf(a), "P0 = a;"},
		{seqOf(seqOf(a, b), c), "P0 = a b c;"},
		{seqOf(a, seqOf(seqOf(), b, seqOf()), seqOf(c)), "P0 = a b c;"},
		{seqOf(altOf(a, b)), "P0 = P1;P1 = a | b;"},
		{altOf(seqOf(), seqOf(seqOf())), "P0 = |;"},
		{altOf(altOf(a, b), altOf(b, c)), "P0 = P1 | P2;P1 = a | b;P2 = b | c;"},
		{altOf(a, a, a), "P0 = a | a | a;"},
		{optOf(seqOf()), "P0 = P1;P1 = |;"},
		{starOf(seqOf(seqOf(a), b)), "P0 = P1;P1 = a b P1 |;"},
		{plusOf(seqOf(a, optOf(b))), "P0 = P1;P1 = a P2 P1 | a P2;P2 = b |;"},
		{plusOf(seqOf(optOf(a), plusOf(b))), "P0 = P1;P1 = P2 P3 P1 | P2 P3;P2 = a |;P3 = b P3 | b;"},
		{seqOf(optOf(a), seqOf(optOf(b), optOf(c)), optOf(a)), "P0 = P1 P2 P3 P4;P1 = a |;P2 = b |;P3 = c |;P4 = a |;"},
		{altOf(optOf(altOf(a, optOf(b))), optOf(c)), "P0 = P1 | P4;P1 = P2 |;P2 = a | P3;P3 = b |;P4 = c |;"},
		{seqOf(nameOf("S"), starOf(nameOf("S"))), "P0 = P0 P1;P1 = P0 P1 |;"},
	} {
		if got := plainText(t, ruleOf("S", x.e)); got != x.want {
			t.Errorf("%s is %q, want %q", impl.ExprText(x.e), got, x.want)
		}
	}
}

func rulesOfLetters(n int) []impl.Rule {
	var out []impl.Rule
	for i := range n {
		out = append(out, ruleOf("R"+strconv.Itoa(i), letterOf("a")))
	}
	return out
}

func TestPlainOfManyParts(t *testing.T) {
	for n := 1; n <= 24; n++ {
		want := impl.GrOk
		if n > 20 {
			want = impl.GrMany
		}
		rules := rulesOfLetters(n)
		wantCode(t, want, rules...)
		deep := letterOf("a")
		for range n - 1 {
			deep = optOf(deep)
		}
		wantCode(t, want, ruleOf("S", deep))
		for _, made := range []func(impl.Expr) impl.Expr{optOf, starOf, plusOf} {
			e := letterOf("a")
			for left := n - 1; left > 0; left -= 6 {
				e = seqOf(append(slices.Repeat([]impl.Expr{made(letterOf("b"))}, min(left, 6)-1), made(e))...)
			}
			wantCode(t, want, ruleOf("S", e))
		}
		for k := range n {
			spread := rulesOfLetters(k + 1)
			for i := k + 1; i < n; i++ {
				at := &spread[i%(k+1)]
				at.Expr = altOf(at.Expr, seqOf())
				if i%2 == 0 {
					at.Expr = starOf(at.Expr)
				}
			}
			samePlain(t, spread...)
		}
	}
}

func TestPlainOfManyAlternatives(t *testing.T) {
	for n := 2; n <= 12; n++ {
		want := impl.GrOk
		if n > 8 {
			want = impl.GrMany
		}
		for _, kid := range []impl.Expr{letterOf("a"), seqOf(), optOf(letterOf("a"))} {
			alt := altOf(slices.Repeat([]impl.Expr{kid}, n)...)
			wantCode(t, want, ruleOf("S", alt))
			wantCode(t, want, ruleOf("S", seqOf()), ruleOf("T", alt))
			wantCode(t, want, ruleOf("S", seqOf(letterOf("a"), alt)))
			wantCode(t, want, ruleOf("S", starOf(alt)))
			wantCode(t, want, ruleOf("S", altOf(seqOf(), alt)))
		}
	}
}

func TestPlainOfLongRows(t *testing.T) {
	for n := range 12 {
		code := func(most int) int {
			if n > most {
				return impl.GrMany
			}
			return impl.GrOk
		}
		for _, kid := range []impl.Expr{letterOf("a"), nameOf("S")} {
			row := seqOf(slices.Repeat([]impl.Expr{kid}, n)...)
			wantCode(t, code(8), ruleOf("S", row))
			wantCode(t, code(8), ruleOf("S", seqOf(row, seqOf())))
			wantCode(t, code(8), ruleOf("T", seqOf()), ruleOf("S", row))
			wantCode(t, code(8), ruleOf("S", altOf(seqOf(), row)))
			wantCode(t, code(8), ruleOf("S", seqOf(altOf(row, seqOf()))))
			wantCode(t, code(8), ruleOf("S", optOf(row)))
			wantCode(t, code(7), ruleOf("S", starOf(row)))
			wantCode(t, code(7), ruleOf("S", plusOf(row)))
			wantCode(t, code(5), ruleOf("S", seqOf(kid, row, seqOf(kid, kid))))
			wantCode(t, code(4), ruleOf("S", seqOf(row, row)))
			wantCode(t, code(7), ruleOf("S", seqOf(row, optOf(kid))))
			wantCode(t, code(7), ruleOf("S", seqOf(optOf(kid), row)))
			wantCode(t, code(8), ruleOf("S", optOf(starOf(optOf(row)))))
		}
	}
}

func TestPlainTellsTheReasonThatIsNamedFirst(t *testing.T) {
	long := seqOf(slices.Repeat([]impl.Expr{letterOf("a")}, 9)...)
	f, bad := nameOf("F"), altOf()
	wantCode(t, impl.GrMany, ruleOf("S", long), ruleOf("T", bad))
	wantCode(t, impl.GrName, ruleOf("S", long), ruleOf("T", bad), ruleOf("U", f))
	wantCode(t, impl.GrName, ruleOf("S", f), ruleOf("T", bad), ruleOf("U", long))
	wantCode(t, impl.GrTwice, ruleOf("S", long), ruleOf("T", bad), ruleOf("U", f), ruleOf("S", long))
	wantCode(t, impl.GrTwice, ruleOf("S", f), ruleOf("S", f), ruleOf("T", bad))
	wantCode(t, impl.GrMany, rulesOfLetters(21)...)
	wantCode(t, impl.GrName, append(rulesOfLetters(21), ruleOf("S", f))...)
	wantCode(t, impl.GrTwice, append(rulesOfLetters(21), ruleOf("S", f), ruleOf("R20", bad))...)
	wantCode(t, impl.GrTwice, slices.Repeat([]impl.Rule{ruleOf("S", f)}, 30)...)
	wantCode(t, impl.GrName, ruleOf("S", altOf(append(slices.Repeat([]impl.Expr{long}, 30), f)...)))
	wantCode(t, impl.GrName, ruleOf("S", seqOf(append(slices.Repeat([]impl.Expr{starOf(long)}, 30), f)...)))
}

func TestPlainOfAllSmallExpressions(t *testing.T) {
	low := exprsOver([]impl.Expr{letterOf("a"), nameOf("N"), seqOf(), {Kind: 7, Text: "x"}}, 2)
	codes := map[int]int{}
	for _, e := range append(exprsOver(low, 1), exprsOver(low[:30], 3)...) {
		codes[samePlain(t, ruleOf("N", e))]++
		codes[samePlain(t, ruleOf("t", starOf(e)), ruleOf("N", e))]++
		codes[samePlain(t, ruleOf("M", nameOf("t")), ruleOf("t", letterOf("b")), ruleOf("N", e))]++
	}
	if codes[impl.GrOk] < 500 || codes[impl.GrName] < 500 || codes[impl.GrMany] < 500 {
		t.Error("too few of a code", codes)
	}
}

// randomExpr is well made but for one in bad; small enough to be a part of a grammar that is GramOk now and then.
func randomExpr(r *rand.Rand, deep, bad int) impl.Expr {
	if bad > 0 && r.Intn(bad) == 0 {
		return impl.Expr{Kind: r.Intn(9) - 1, Text: pick(r, "a", "S", "", "F", "ab"), Kids: []impl.Expr{letterOf("a")}[:r.Intn(2)]}
	}
	kind := r.Intn(7)
	if deep == 0 {
		kind = r.Intn(2)
	}
	kids := func(n int) []impl.Expr {
		var out []impl.Expr
		for range n {
			out = append(out, randomExpr(r, deep-1, bad))
		}
		return out
	}
	switch kind {
	case 0:
		return letterOf(pick(r, "a", "b", "z"))
	case 1:
		return nameOf(pick(r, "S", "T", "U"))
	case 2:
		return seqOf(kids(r.Intn(4))...)
	case 3:
		return altOf(kids(2 + r.Intn(2))...)
	}
	return impl.Expr{Kind: kind, Kids: kids(1)}
}

func randomRules(r *rand.Rand, deep, bad int) []impl.Rule {
	var out []impl.Rule
	for _, name := range []string{"S", "T", "U", "V", "W"}[:1+r.Intn(5)] {
		out = append(out, ruleOf(name, randomExpr(r, r.Intn(deep+1), bad)))
	}
	if bad > 0 && r.Intn(bad) == 0 {
		out = append(out, out[r.Intn(len(out))])
	}
	return out
}

func TestPlainOfRandomRules(t *testing.T) {
	r := rand.New(rand.NewSource(4))
	codes := map[int]int{}
	for i := range 40000 {
		codes[samePlain(t, randomRules(r, 4, []int{0, 0, 10, 50}[i%4])...)]++
	}
	for range 20000 {
		if rules, bad := impl.ReadRules(randomText(r)); bad == -1 {
			codes[samePlain(t, rules...)]++
		}
	}
	for code := range 4 {
		if codes[code] < 1000 {
			t.Error("too few of a code", codes)
		}
	}
}

func TestAGrammarOfPlainRulesHasAPartForEachRule(t *testing.T) {
	r := rand.New(rand.NewSource(5))
	done := 0
	for range 30000 {
		rules := randomRules(r, 3, 0)
		g, code := impl.Plain(rules)
		if code != impl.GrOk {
			continue
		}
		done++
		if !impl.GramOk(g) || len(g.Parts) < len(rules) {
			t.Fatalf("Plain(%v) = %v", rules, g)
		}
		for k, rule := range rules {
			want := 1
			if rule.Expr.Kind == impl.ExAlt {
				want = len(rule.Expr.Kids)
			}
			if len(g.Parts[k]) != want {
				t.Fatalf("part %d of Plain(%v) is not that of its rule: %v", k, rules, g)
			}
		}
	}
	if done < 5000 {
		t.Error("too few grammars", done)
	}
}

// Words are texts of at most wordMost letters, here.
const wordMost = 3

type wordSet map[string]bool

func joined(a, b wordSet) wordSet {
	out := wordSet{}
	for x := range a {
		for y := range b {
			if len(x)+len(y) <= wordMost {
				out[x+y] = true
			}
		}
	}
	return out
}

// saidBy are the words of an expression, where those of names are known so far.
func saidBy(e impl.Expr, of map[string]wordSet) wordSet {
	out := wordSet{}
	switch e.Kind {
	case impl.ExLetter:
		out[e.Text] = true
	case impl.ExName:
		maps.Copy(out, of[e.Text])
	case impl.ExSeq:
		out[""] = true
		for _, kid := range e.Kids {
			out = joined(out, saidBy(kid, of))
		}
	case impl.ExAlt:
		for _, kid := range e.Kids {
			maps.Copy(out, saidBy(kid, of))
		}
	default:
		kid := saidBy(e.Kids[0], of)
		maps.Copy(out, kid)
		if e.Kind != impl.ExOpt {
			for range wordMost {
				maps.Copy(out, joined(kid, out))
			}
		}
		if e.Kind != impl.ExPlus {
			out[""] = true
		}
	}
	return out
}

// wordsOfRules grow from nothing until none is new.
func wordsOfRules(rules []impl.Rule) []wordSet {
	of := map[string]wordSet{}
	for grown := true; grown; {
		grown = false
		for _, rule := range rules {
			said := saidBy(rule.Expr, of)
			grown = grown || len(said) > len(of[rule.Name])
			of[rule.Name] = said
		}
	}
	var out []wordSet
	for _, rule := range rules {
		out = append(out, of[rule.Name])
	}
	return out
}

func wordsOfParts(g impl.Gram) []wordSet {
	of := make([]wordSet, len(g.Parts))
	for grown := true; grown; {
		grown = false
		for k, alts := range g.Parts {
			said := wordSet{}
			for _, row := range alts {
				words := wordSet{"": true}
				for _, s := range row {
					if s >= impl.Nt {
						words = joined(words, of[s-impl.Nt])
					} else {
						words = joined(words, wordSet{string(rune('a' + s)): true})
					}
				}
				maps.Copy(said, words)
			}
			grown = grown || len(said) > len(of[k])
			of[k] = said
		}
	}
	return of
}

func TestAGrammarOfPlainRulesSaysWhatTheRulesSay(t *testing.T) {
	r := rand.New(rand.NewSource(6))
	done, words := 0, 0
	for range 4000 {
		rules := randomRules(r, 3, 0)
		g, code := impl.Plain(rules)
		if code != impl.GrOk {
			continue
		}
		done++
		parts := wordsOfParts(g)
		for k, want := range wordsOfRules(rules) {
			words += len(want)
			if !maps.Equal(parts[k], want) {
				t.Fatalf("part %d of Plain(%v) says %v, want %v", k, rules, parts[k], want)
			}
		}
	}
	if done < 500 || words < 5000 {
		t.Error("too few grammars", done, words)
	}
}

func TestPlainOfDeepAndWideExpressions(t *testing.T) {
	const n = 300000
	star, seq, alt, nothing := nameOf("S"), nameOf("S"), nameOf("S"), seqOf()
	foreign := nameOf("F")
	for range n {
		star, seq, alt, nothing = starOf(star), seqOf(seq), altOf(alt, seqOf()), seqOf(nothing)
		foreign = seqOf(foreign)
	}
	for _, c := range []struct {
		e    impl.Expr
		code int
		want impl.Gram
	}{
		{star, impl.GrMany, impl.Gram{}}, {alt, impl.GrMany, impl.Gram{}}, {foreign, impl.GrName, impl.Gram{}},
		{seq, impl.GrOk, gramOf(altsOf([]int{100}))}, {nothing, impl.GrOk, gramOf(altsOf(nil))},
		{seqOf(slices.Repeat([]impl.Expr{letterOf("a")}, n)...), impl.GrMany, impl.Gram{}},
		{seqOf(slices.Repeat([]impl.Expr{seqOf()}, n)...), impl.GrOk, gramOf(altsOf(nil))},
		{altOf(slices.Repeat([]impl.Expr{letterOf("a")}, n)...), impl.GrMany, impl.Gram{}},
		{impl.Expr{Kind: 5, Kids: slices.Repeat([]impl.Expr{letterOf("a")}, n)}, impl.GrMany, impl.Gram{}},
		{altOf(append(slices.Repeat([]impl.Expr{letterOf("a")}, n), nameOf("F"))...), impl.GrName, impl.Gram{}},
	} {
		if g, code := impl.Plain([]impl.Rule{ruleOf("S", c.e)}); code != c.code || !sameGram(g, c.want) {
			t.Errorf("Plain = %v, %d, want %v, %d", g, code, c.want, c.code)
		}
	}
	wide := rulesOfLetters(100000)
	if _, code := impl.Plain(wide); code != impl.GrMany {
		t.Error("many rules", code)
	}
	if _, code := impl.Plain(append(wide, wide[0])); code != impl.GrTwice {
		t.Error("many rules and one twice", code)
	}
}

// Kids that are shared make an expression that is far greater than its memory.
func TestPlainOfSharedKids(t *testing.T) {
	twice := func(e impl.Expr, kind int) impl.Expr {
		for range 200 {
			e = impl.Expr{Kind: kind, Kids: []impl.Expr{e, e}}
		}
		return e
	}
	wantOf := func(want int, text string, e impl.Expr) {
		t.Helper()
		g, code := impl.Plain([]impl.Rule{ruleOf("S", e)})
		if code != want || impl.GramText(g) != text {
			t.Errorf("Plain = %v, %d, want %d and %q", g, code, want, text)
		}
	}
	wantOf(impl.GrOk, "P0 =\n", twice(seqOf(), impl.ExSeq))
	wantOf(impl.GrOk, "P0 = a b\n", seqOf(twice(seqOf(), impl.ExSeq), letterOf("a"), twice(seqOf(), impl.ExSeq), letterOf("b")))
	wantOf(impl.GrMany, "", twice(letterOf("a"), impl.ExSeq))
	wantOf(impl.GrMany, "", twice(letterOf("a"), impl.ExAlt))
	wantOf(impl.GrMany, "", twice(letterOf("A"), impl.ExSeq))
	wantOf(impl.GrName, "", twice(nameOf("F"), impl.ExSeq))
	wantOf(impl.GrName, "", twice(nameOf("F"), impl.ExAlt))
	kid := []impl.Expr{letterOf("a")}
	some := impl.Expr{Kind: impl.ExSeq, Kids: kid}
	wantOf(impl.GrOk, "P0 = a a P1 P2 a\nP1 = a P1 |\nP2 = a P2 |\n", seqOf(some, some, starOf(some), impl.Expr{Kind: impl.ExStar, Kids: kid}, some))
}

// Kids that hold themselves have no end; the call has one.
func TestPlainOfKidsThatHoldThemselves(t *testing.T) {
	for kind := impl.ExLetter; kind <= impl.ExPlus+1; kind++ {
		for at := range 3 {
			kids := []impl.Expr{letterOf("a"), seqOf(), seqOf(seqOf())}
			if kind >= impl.ExOpt {
				kids = kids[:1]
			}
			own := impl.Expr{Kind: kind, Text: "S", Kids: kids}
			kids[at%len(kids)] = own
			if _, code := impl.Plain([]impl.Rule{ruleOf("S", own)}); code != impl.GrMany {
				t.Errorf("Kind %d within itself: %d", kind, code)
			}
			if _, code := impl.Plain([]impl.Rule{ruleOf("S", own), ruleOf("T", nameOf("F"))}); code != impl.GrName {
				t.Errorf("Kind %d within itself, and a name that is no rule's: %d", kind, code)
			}
			if _, code := impl.Plain([]impl.Rule{ruleOf("S", own), ruleOf("S", own)}); code != impl.GrTwice {
				t.Errorf("Kind %d within itself, twice: %d", kind, code)
			}
		}
	}
}

func TestGramText(t *testing.T) {
	for _, c := range []struct {
		g    impl.Gram
		want string
	}{
		{gramOf(altsOf(nil)), "P0 =\n"},
		{gramOf(altsOf(nil, nil)), "P0 = |\n"},
		{gramOf(altsOf(nil, nil, nil)), "P0 = | |\n"},
		{gramOf(altsOf([]int{0})), "P0 = a\n"},
		{gramOf(altsOf([]int{25, 12, 0})), "P0 = z m a\n"},
		{gramOf(altsOf(nil, []int{0})), "P0 = | a\n"},
		{gramOf(altsOf([]int{0}, nil)), "P0 = a |\n"},
		{gramOf(altsOf([]int{0}, nil, []int{1})), "P0 = a | | b\n"},
		{gramOf(altsOf([]int{0}, []int{1, 100})), "P0 = a | b P0\n"},
		{gramOf(altsOf(nil), altsOf(nil)), "P0 =\nP1 =\n"},
		{gramOf(altsOf([]int{101, 100, 0}), altsOf([]int{1}, nil)), "P0 = P1 P0 a\nP1 = b |\n"},
		{impl.Gram{}, ""}, {gramOf(nil), ""}, {gramOf(altsOf([]int{101})), ""}, {gramOf(altsOf([]int{-1})), ""}, {gramOf(altsOf([]int{26})), ""}, {gramOf(altsOf([]int{99})), ""},
		{gramOf(altsOf([]int{0}), nil), ""}, {gramOf(altsOf([]int{0}), altsOf([]int{0}, []int{102})), ""},
		{gramOf(altsOf(make([]int, 9))), ""}, {gramOf(make([][]int, 9)), ""}, {gramOf(slices.Repeat([][][]int{altsOf(nil)}, 21)...), ""},
		{gramOf(altsOf(make([]int, 8))), "P0 = a a a a a a a a\n"}, {gramOf(make([][]int, 8)), "P0 = | | | | | | |\n"},
	} {
		if got := impl.GramText(c.g); got != c.want {
			t.Errorf("GramText(%v) = %q, want %q", c.g, got, c.want)
		}
	}
	var parts [][][]int
	want := ""
	for k := range 20 {
		parts = append(parts, altsOf([]int{100 + (k+1)%20, k}, nil))
		want += "P" + strconv.Itoa(k) + " = P" + strconv.Itoa((k+1)%20) + " " + "abcdefghijklmnopqrst"[k:k+1] + " |\n"
	}
	if got := impl.GramText(gramOf(parts...)); got != want || !strings.Contains(got, "P9 = P10 j |\nP10 = P11 k |\n") {
		t.Errorf("GramText of 20 parts = %q, want %q", got, want)
	}
}

func TestRowText(t *testing.T) {
	for _, c := range []struct {
		row  []int
		want string
	}{
		{nil, ""}, {[]int{}, ""}, {[]int{0}, "a"}, {[]int{25}, "z"}, {[]int{100}, "P0"}, {[]int{101}, "P1"}, {[]int{109}, "P9"}, {[]int{110}, "P10"}, {[]int{119}, "P19"}, {[]int{120}, "P20"}, {[]int{1100}, "P1000"},
		{[]int{-1}, "?"}, {[]int{26}, "?"}, {[]int{99}, "?"}, {[]int{-100}, "?"}, {[]int{math.MinInt}, "?"}, {[]int{math.MaxInt}, "P9223372036854775707"}, {[]int{1 << 32}, "P4294967196"}, {[]int{-256}, "?"}, {[]int{-1 << 32}, "?"},
		{[]int{0, 1, 2}, "a b c"}, {[]int{0, 0}, "a a"}, {[]int{0, 100, 30}, "a P0 ?"}, {[]int{99, 100}, "? P0"}, {[]int{-1, 0}, "? a"}, {[]int{100, 100}, "P0 P0"}, {[]int{30, 30, 30}, "? ? ?"},
		{make([]int, 9), "a a a a a a a a a"},
	} {
		if got := impl.RowText(c.row); got != c.want {
			t.Errorf("RowText(%v) = %q, want %q", c.row, got, c.want)
		}
	}
	for s := -5; s < 200; s++ {
		want := "?"
		if s >= 0 && s < 26 {
			want = "abcdefghijklmnopqrstuvwxyz"[s : s+1]
		} else if s >= 100 {
			want = "P" + strconv.Itoa(s-100)
		}
		if got := impl.RowText([]int{s, s}); got != want+" "+want {
			t.Errorf("RowText of twice %d = %q, want %s", s, got, want)
		}
	}
	if got := impl.RowText(make([]int, 100000)); got != strings.Repeat("a ", 99999)+"a" {
		t.Error("RowText of many")
	}
}

// guardedRules are such rules, new, with spare room behind each list; the room behind the rules is in the second answer.
func guardedRules(rules []impl.Rule) (list, array []impl.Rule) {
	for _, rule := range rules {
		array = append(array, ruleOf(strings.Clone(rule.Name), guardedExpr(rule.Expr)))
	}
	array = append(array, ruleOf("spare", seqOf()), ruleOf("spare", seqOf()))
	return array[:len(rules)], array
}

func sameRuleWithRoom(a, b impl.Rule) bool { return a.Name == b.Name && sameWithRoom(a.Expr, b.Expr) }

// memory is where a list lies, with the room behind it.
type memory struct{ from, to uintptr }

func memoryOf[T any](list []T) memory {
	if cap(list) == 0 {
		return memory{}
	}
	whole := list[:cap(list)]
	from := uintptr(unsafe.Pointer(&whole[0]))
	return memory{from, from + uintptr(len(whole))*unsafe.Sizeof(whole[0])}
}

func memoriesOf(g impl.Gram) []memory {
	out := []memory{memoryOf(g.Parts)}
	for _, alts := range g.Parts {
		out = append(out, memoryOf(alts))
		for _, row := range alts {
			out = append(out, memoryOf(row))
		}
	}
	return out
}

func TestPlainIsNewMemoryAndNothingIsWritten(t *testing.T) {
	r := rand.New(rand.NewSource(7))
	done := 0
	for i := range 5000 {
		rules := randomRules(r, 3, []int{0, 0, 0, 20}[i%4])
		list, array := guardedRules(rules)
		_, kept := guardedRules(rules)
		g, code := impl.Plain(list)
		if !slices.EqualFunc(array, kept, sameRuleWithRoom) {
			t.Fatalf("Plain wrote into %v: %v", kept, array)
		}
		if code != impl.GrOk {
			continue
		}
		done++
		lists := memoriesOf(g)
		for i, a := range lists {
			for _, b := range lists[:i] {
				if a.from < b.to && b.from < a.to {
					t.Fatalf("Plain(%v): two lists share memory: %v", rules, g)
				}
			}
		}
		want := impl.GramText(g)
		for i := range array {
			array[i] = ruleOf("other", letterOf("q"))
		}
		if impl.GramText(g) != want {
			t.Fatalf("Plain(%v) shares memory with its argument", rules)
		}
		again, _ := impl.Plain(kept[:len(rules)])
		if !sameGram(again, g) {
			t.Fatalf("Plain(%v) tells %v and then %v", rules, g, again)
		}
		for _, alts := range g.Parts {
			for _, row := range alts {
				whole := row[:cap(row)]
				for i := range whole {
					whole[i] = -9
				}
			}
		}
		samePlain(t, kept[:len(rules)]...)
	}
	if done < 1000 {
		t.Error("too few grammars", done)
	}
}

func TestAskingAGrammarWritesNothing(t *testing.T) {
	for _, rows := range [][]int{{}, {0}, {25, 100, 3}, {100, 100, 100, 100, 100, 100, 100, 100}, {-1, 26, 99, 500}, make([]int, 9)} {
		first, second := guard("a row", rows), guard("another row", []int{0, 100})
		guards := []*guarded{first, second}
		room := [][]int{first.list, second.list, {-7}, {-8}}
		parts := [][][]int{room[:2], {{5}}, {{-9}}}
		g := impl.Gram{Parts: parts[:2]}
		impl.GramOk(g)
		impl.GramText(g)
		impl.RowText(first.list)
		for _, x := range guards {
			x.unchanged(t, "a function of chapter 4")
		}
		if !slices.EqualFunc(room, [][]int{rows, {0, 100}, {-7}, {-8}}, slices.Equal[[]int]) || !slices.EqualFunc(parts[2], [][]int{{-9}}, slices.Equal[[]int]) || !slices.Equal(parts[1][0], []int{5}) {
			t.Error("written into a grammar", parts, room)
		}
	}
}
