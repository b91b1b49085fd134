package tests

import (
	"math"
	"math/rand"
	"slices"
	"strings"
	"testing"
	"unsafe"

	"loop.example/g00485/impl"
)

// The functions and types as the document writes them down.
var (
	_ func(string) ([]impl.Rule, int) = impl.ReadRules
	_ func(impl.Expr) string          = impl.ExprText
	_ func([]impl.Rule) string        = impl.RulesText
	_                                 = impl.Expr{Kind: int(0), Text: string(""), Kids: []impl.Expr(nil)}
	_                                 = impl.Rule{Name: string(""), Expr: impl.Expr{}}
)

func TestConstantsOfRules(t *testing.T) {
	kinds := []int{impl.ExLetter, impl.ExName, impl.ExSeq, impl.ExAlt, impl.ExOpt, impl.ExStar, impl.ExPlus}
	if !slices.Equal(kinds, []int{0, 1, 2, 3, 4, 5, 6}) || impl.MaxNest != 6 || impl.MaxRules != 8 {
		t.Error("constants", kinds, impl.MaxNest, impl.MaxRules)
	}
}

func letterOf(text string) impl.Expr         { return impl.Expr{Kind: 0, Text: text} }
func nameOf(text string) impl.Expr           { return impl.Expr{Kind: 1, Text: text} }
func seqOf(kids ...impl.Expr) impl.Expr      { return impl.Expr{Kind: 2, Kids: kids} }
func altOf(kids ...impl.Expr) impl.Expr      { return impl.Expr{Kind: 3, Kids: kids} }
func optOf(kid impl.Expr) impl.Expr          { return impl.Expr{Kind: 4, Kids: []impl.Expr{kid}} }
func starOf(kid impl.Expr) impl.Expr         { return impl.Expr{Kind: 5, Kids: []impl.Expr{kid}} }
func plusOf(kid impl.Expr) impl.Expr         { return impl.Expr{Kind: 6, Kids: []impl.Expr{kid}} }
func ruleOf(n string, e impl.Expr) impl.Rule { return impl.Rule{Name: n, Expr: e} }

func sameExpr(a, b impl.Expr) bool {
	return a.Kind == b.Kind && a.Text == b.Text && slices.EqualFunc(a.Kids, b.Kids, sameExpr)
}

func sameRule(a, b impl.Rule) bool { return a.Name == b.Name && sameExpr(a.Expr, b.Expr) }

// placePlainly tells where words go on wrong, by what may stand behind what and how many brackets are open; -1 of rules.
func placePlainly(words []impl.Word, end int) int {
	const (
		name = iota
		equals
		begin
		item
	)
	state, open, rules := name, 0, 0
	for _, w := range words {
		inRule := state == begin || state == item
		switch {
		case state == name && w.Kind == impl.WdName:
			state = equals
		case state == equals && w.Text == "=":
			state = begin
		case inRule && w.Kind != impl.WdSign:
			state = item
		case inRule && w.Text == "(":
			state, open = begin, open+1
		case inRule && w.Text == "|":
			state = begin
		case inRule && w.Text == ")" && open > 0:
			state, open = item, open-1
		case inRule && w.Text == ";" && open == 0:
			state, rules = name, rules+1
		case state == item && strings.Contains("*+?", w.Text):
		default:
			return w.At
		}
	}
	if state != name || rules == 0 {
		return end
	}
	return -1
}

// limitPlainly tells where words that are rules pass a limit; -1 where they pass none.
func limitPlainly(words []impl.Word) int {
	open, rules, many := 0, 0, -1
	for i, w := range words {
		switch w.Text {
		case "(":
			if open++; open > 6 {
				return w.At
			}
		case ")":
			open--
		case "=":
			if rules++; rules == 9 {
				many = words[i-1].At
			}
		}
	}
	return many
}

// cutAt cuts words at each such sign that stands in no bracket.
func cutAt(words []string, sign string) [][]string {
	out := [][]string{nil}
	open := 0
	for _, w := range words {
		if w == sign && open == 0 {
			out = append(out, nil)
			continue
		}
		switch w {
		case "(":
			open++
		case ")":
			open--
		}
		out[len(out)-1] = append(out[len(out)-1], w)
	}
	return out
}

// exprPlainly is the alternation of words that are one, cut at signs from the outside inwards.
func exprPlainly(words []string) impl.Expr {
	rows := cutAt(words, "|")
	if len(rows) > 1 {
		var kids []impl.Expr
		for _, row := range rows {
			kids = append(kids, exprPlainly(row))
		}
		return altOf(kids...)
	}
	if items := itemsOf(words); len(items) != 1 {
		var kids []impl.Expr
		for _, item := range items {
			kids = append(kids, exprPlainly(item))
		}
		return seqOf(kids...)
	}
	last := words[len(words)-1]
	switch last {
	case "?":
		return optOf(exprPlainly(words[:len(words)-1]))
	case "*":
		return starOf(exprPlainly(words[:len(words)-1]))
	case "+":
		return plusOf(exprPlainly(words[:len(words)-1]))
	case ")":
		return exprPlainly(words[1 : len(words)-1])
	}
	if strings.Contains(allNames, last) {
		return nameOf(last)
	}
	return letterOf(last)
}

// itemsOf cuts words ahead of each one that stands in no bracket and is no sign behind an item.
func itemsOf(words []string) [][]string {
	var out [][]string
	open := 0
	for _, w := range words {
		if open == 0 && !strings.Contains("*+?", w) {
			out = append(out, nil)
		}
		switch w {
		case "(":
			open++
		case ")":
			open--
		}
		out[len(out)-1] = append(out[len(out)-1], w)
	}
	return out
}

// rulesPlainly is ReadRules put down another way than it is built.
func rulesPlainly(s string) ([]impl.Rule, int) {
	words, bad := wordsPlainly(s)
	if bad >= 0 {
		return nil, bad
	}
	if at := placePlainly(words, len(s)); at >= 0 {
		return nil, at
	}
	if at := limitPlainly(words); at >= 0 {
		return nil, at
	}
	var texts []string
	for _, w := range words {
		texts = append(texts, w.Text)
	}
	var list []impl.Rule
	rows := cutAt(texts, ";")
	for _, row := range rows[:len(rows)-1] {
		list = append(list, ruleOf(row[0], exprPlainly(row[2:])))
	}
	return list, -1
}

func sameRules(t *testing.T, s string) {
	t.Helper()
	list, bad := impl.ReadRules(s)
	want, wantBad := rulesPlainly(s)
	if bad != wantBad || !slices.EqualFunc(list, want, sameRule) {
		t.Errorf("ReadRules(%q) = %v, %d, want %v, %d", s, list, bad, want, wantBad)
	}
}

func readsAs(t *testing.T, s string, want ...impl.Rule) {
	t.Helper()
	list, bad := impl.ReadRules(s)
	if bad != -1 || !slices.EqualFunc(list, want, sameRule) {
		t.Errorf("ReadRules(%q) = %v, %d, want %v", s, list, bad, want)
	}
	sameRules(t, s)
}

func refusedAt(t *testing.T, s string, want int) {
	t.Helper()
	list, bad := impl.ReadRules(s)
	if len(list) != 0 || bad != want {
		t.Errorf("ReadRules(%q) = %v, %d, want none, %d", s, list, bad, want)
	}
	sameRules(t, s)
}

func TestReadRulesOfExpressions(t *testing.T) {
	a, b, c, n := letterOf("a"), letterOf("b"), letterOf("c"), nameOf("N")
	for _, x := range []struct {
		s    string
		want impl.Expr
	}{
		{"a", a}, {"N", n}, {"z", letterOf("z")}, {"S", nameOf("S")},
		{"", seqOf()}, {"()", seqOf()}, {"(())", seqOf()}, {"() ()", seqOf(seqOf(), seqOf())},
		{"a b", seqOf(a, b)}, {"ab", seqOf(a, b)}, {"a b c", seqOf(a, b, c)}, {"a N", seqOf(a, n)}, {"N N", seqOf(n, n)}, {"a ()", seqOf(a, seqOf())},
		{"a|b", altOf(a, b)}, {"a|b|c", altOf(a, b, c)}, {"a|a", altOf(a, a)}, {"|", altOf(seqOf(), seqOf())}, {"||", altOf(seqOf(), seqOf(), seqOf())},
		{"a|", altOf(a, seqOf())}, {"|a", altOf(seqOf(), a)}, {"a||b", altOf(a, seqOf(), b)}, {"(|)", altOf(seqOf(), seqOf())},
		{"a b|c", altOf(seqOf(a, b), c)}, {"a|b c", altOf(a, seqOf(b, c))}, {"a b|N c|", altOf(seqOf(a, b), seqOf(n, c), seqOf())},
		{"(a)", a}, {"((a))", a}, {"((((((a))))))", a}, {"(N)", n}, {"(a*)", starOf(a)}, {"(a)*", starOf(a)}, {"((a)*)+", plusOf(starOf(a))},
		{"(a b)", seqOf(a, b)}, {"((a b))", seqOf(a, b)}, {"(a) b", seqOf(a, b)}, {"(a b) c", seqOf(seqOf(a, b), c)}, {"a (b c)", seqOf(a, seqOf(b, c))},
		{"(a|b)", altOf(a, b)}, {"(a|b)|c", altOf(altOf(a, b), c)}, {"a|(b|c)", altOf(a, altOf(b, c))}, {"(a|b) c", seqOf(altOf(a, b), c)}, {"a|(b)", altOf(a, b)},
		{"a?", optOf(a)}, {"a*", starOf(a)}, {"a+", plusOf(a)}, {"N?", optOf(n)}, {"N*", starOf(n)}, {"N+", plusOf(n)},
		{"a**", starOf(starOf(a))}, {"a+?*", starOf(optOf(plusOf(a)))}, {"a*?+", plusOf(optOf(starOf(a)))}, {"a ? +", plusOf(optOf(a))}, {"a??", optOf(optOf(a))}, {"a++", plusOf(plusOf(a))},
		{"a b*", seqOf(a, starOf(b))}, {"a* b", seqOf(starOf(a), b)}, {"ab*c", seqOf(a, starOf(b), c)}, {"(a b)*", starOf(seqOf(a, b))}, {"a|b*", altOf(a, starOf(b))}, {"(a|b)*", starOf(altOf(a, b))},
		{"()*", starOf(seqOf())}, {"()?+", plusOf(optOf(seqOf()))}, {"(|)+", plusOf(altOf(seqOf(), seqOf()))}, {"((a|b)* c)?", optOf(seqOf(starOf(altOf(a, b)), c))},
	} {
		readsAs(t, "S = "+x.s+" ;", ruleOf("S", x.want))
		readsAs(t, "S="+x.s+";", ruleOf("S", x.want))
		readsAs(t, "\n Q =\n"+x.s+"\n;\n T = c ; ", ruleOf("Q", x.want), ruleOf("T", c))
	}
}

func TestReadRulesOfSeveral(t *testing.T) {
	a, b := letterOf("a"), letterOf("b")
	readsAs(t, "S = a ; T = b ;", ruleOf("S", a), ruleOf("T", b))
	readsAs(t, "S=a;T=b;S=T;", ruleOf("S", a), ruleOf("T", b), ruleOf("S", nameOf("T")))
	readsAs(t, "S = a ; S = a ;", ruleOf("S", a), ruleOf("S", a))
	readsAs(t, "S = S ; S = ;", ruleOf("S", nameOf("S")), ruleOf("S", seqOf()))
	readsAs(t, "A = Z ; Z = A | ;", ruleOf("A", nameOf("Z")), ruleOf("Z", altOf(nameOf("A"), seqOf())))
	for i := range 26 {
		readsAs(t, allNames[i:i+1]+" = "+allLetters[i:i+1]+" ;", ruleOf(allNames[i:i+1], letterOf(allLetters[i:i+1])))
	}
}

func TestReadRulesOfNothing(t *testing.T) {
	for _, s := range []string{"", " ", "\n", "  ", " \n ", "\n\n\n", strings.Repeat(" ", 299), strings.Repeat(" ", 300), strings.Repeat("\n ", 150)} {
		refusedAt(t, s, len(s))
	}
}

func TestReadRulesTellsThePlaceOfWords(t *testing.T) {
	long := "S = " + strings.Repeat("a", 400)
	for _, s := range []string{long[:301], long[:302], long, strings.Repeat(" ", 301), strings.Repeat("(", 301), "1" + long, ")" + long, "S = a ;" + strings.Repeat(" ", 294)} {
		refusedAt(t, s, 300)
	}
	readsAs(t, "S = a ;"+strings.Repeat(" ", 293), ruleOf("S", letterOf("a")))
	for _, c := range []struct {
		s    string
		want int
	}{
		{"1", 0}, {"S = 1 ;", 4}, {"S = a ; 1", 8}, {" \t", 1}, {"S = a\r\n;", 5}, {"S = a ;\x00", 7}, {"S = \u00e9 ;", 4}, {"_", 0},
		{") 1", 2}, {"a 1", 2}, {"= = 1", 4}, {"S S 1", 4}, {"S = ) 1", 6}, {"S = * 1", 6}, {"S = a ; ; 1", 10}, {"S = (a ; 1", 9}, {"S = a 1", 6}, {"S = 1 )", 4}, {"S = (a 1", 7},
		{"S = ((((((( 1", 12}, {"S = (((((((a))))))) ; 1", 22}, {strings.Repeat("S=;", 9) + "1", 27}, {strings.Repeat("(", 299) + "1", 299},
	} {
		refusedAt(t, c.s, c.want)
	}
}

func TestReadRulesThatEndTooEarly(t *testing.T) {
	for _, head := range []string{"", " ", "T = b ;", "T = b | ; U = ; "} {
		for _, s := range []string{
			"S", "S =", "S = a", "S = N", "S = a b", "S = |", "S = a |", "S = a | b", "S = a*", "S = a?+", "S = (", "S = a (", "S = ((", "S = (a", "S = (a*", "S = (a |", "S = (a | b",
			"S = ()", "S = (a)", "S = (a) b", "S = (a)*", "S = ((a)", "S = ((a))", "S = ((((((((a", "S = ((((((((a))))))))",
		} {
			for _, tail := range []string{"", " ", "\n", "  \n "} {
				whole := head + s + tail
				refusedAt(t, whole, len(whole))
			}
		}
	}
	whole := strings.Repeat("S=;", 8) + "S"
	refusedAt(t, whole, len(whole))
	refusedAt(t, whole+"=", len(whole)+1)
	refusedAt(t, whole+"=a", len(whole)+2)
}

// Each kind of word behind each beginning: those that go on are named, all others are refused where they stand.
func TestReadRulesTellsTheFirstWrongWord(t *testing.T) {
	for _, c := range []struct{ ahead, goOn string }{
		{"", "S"}, {"S", "="}, {"S =", "aS(|;"}, {"S = a", "aS(|;*+?"}, {"S = N", "aS(|;*+?"}, {"S = a b", "aS(|;*+?"},
		{"S = a |", "aS(|;"}, {"S = |", "aS(|;"}, {"S = a*", "aS(|;*+?"}, {"S = a+?", "aS(|;*+?"},
		{"S = (", "aS(|)"}, {"S = ((", "aS(|)"}, {"S = (a", "aS(|)*+?"}, {"S = (a |", "aS(|)"}, {"S = (a*", "aS(|)*+?"}, {"S = (a | b", "aS(|)*+?"},
		{"S = ()", "aS(|;*+?"}, {"S = (a)", "aS(|;*+?"}, {"S = (a)*", "aS(|;*+?"}, {"S = ((a)", "aS(|)*+?"}, {"S = (a) |", "aS(|;"},
		{"S = ;", "S"}, {"S = a ;", "S"}, {"S = a ; T = b ;", "S"}, {"S = a ; T", "="}, {"S = a ; T =", "aS(|;"}, {"S = a ; T = b", "aS(|;*+?"},
		{strings.Repeat("S=;", 8), "S"}, {strings.Repeat("S=;", 9), "S"}, {"S = (((((((", "aS(|)"}, {"S = (((((((a", "aS(|)*+?"},
	} {
		for _, word := range "aS=|;()*+?" {
			if strings.ContainsRune(c.goOn, word) {
				continue
			}
			for _, blanks := range []string{"", " ", " \n"} {
				for _, tail := range []string{"", " ", ";", " a ;", ") ; )", " = ( *"} {
					refusedAt(t, c.ahead+blanks+string(word)+tail, len(c.ahead+blanks))
				}
			}
		}
		for _, word := range c.goOn {
			if _, bad := impl.ReadRules(c.ahead + string(word) + "=="); bad <= len(c.ahead) {
				t.Errorf("ReadRules(%q): %q does not go on there: %d", c.ahead, word, bad)
			}
		}
	}
	refusedAt(t, "S = a T = b ;", 8)
	refusedAt(t, "S = a ; b = a ;", 8)
	refusedAt(t, "S = a ; ; T = b", 8)
	refusedAt(t, "s = a ) *", 0)
}

func nested(n int, inner string) string {
	return strings.Repeat("(", n) + inner + strings.Repeat(")", n)
}

func TestReadRulesOfDeepBrackets(t *testing.T) {
	a := letterOf("a")
	for n := 1; n <= 6; n++ {
		readsAs(t, "S = "+nested(n, "a")+" ;", ruleOf("S", a))
		readsAs(t, "S = "+nested(n, "")+" ;", ruleOf("S", seqOf()))
		readsAs(t, "S = "+nested(n, "a")+"* "+nested(n, "a|a")+" ;", ruleOf("S", seqOf(starOf(a), altOf(a, a))))
	}
	for n := 7; n < 140; n++ {
		refusedAt(t, "S = "+nested(n, "a")+" ;", 10)
	}
	six, seven := nested(6, "a"), nested(7, "a")
	readsAs(t, "S = "+six+six+six+" | "+six+" ; T = "+six+" ;", ruleOf("S", altOf(seqOf(a, a, a), a)), ruleOf("T", a))
	for _, c := range []struct {
		s    string
		want int
	}{
		{"S = " + seven + " ;", 10}, {"S=" + nested(7, "") + ";", 8}, {"S=" + seven + seven + ";", 8}, {"S=" + six + seven + ";", 21}, {"S=" + six + "|" + seven + "|" + seven + ";", 22},
		{"S=a;T=" + seven + ";", 12}, {"S=" + six + ";T=" + seven + ";", 24}, {"S = ( ( ( ( ( ( ( a ) ) ) ) ) ) ) ;", 16},
		{"S=((((((a|(b)))))));", 10}, {"S=(((((a)(((b)))))));", 11}, {"S=((((((((a)(b)))))))) ;", 8},
	} {
		refusedAt(t, c.s, c.want)
	}
}

func TestReadRulesOfManyRules(t *testing.T) {
	for n := 1; n <= 8; n++ {
		var want []impl.Rule
		s := ""
		for i := range n {
			s += allNames[i:i+1] + " = " + allLetters[i:i+1] + " ;\n"
			want = append(want, ruleOf(allNames[i:i+1], letterOf(allLetters[i:i+1])))
		}
		readsAs(t, s, want...)
	}
	readsAs(t, strings.Repeat("S=;", 8), slices.Repeat([]impl.Rule{ruleOf("S", seqOf())}, 8)...)
	for n := 9; n < 100; n++ {
		refusedAt(t, strings.Repeat("S=;", n), 24)
		refusedAt(t, "  "+strings.Repeat("S=;", n)+"\n", 26)
	}
	refusedAt(t, strings.Repeat("S = a ;\n", 9), 64)
	refusedAt(t, strings.Repeat("S = a ;\n", 8)+"   \nT = b ;", 68)
}

// A wrong word counts ahead of a limit, and brackets ahead of rules, wherever they stand.
func TestReadRulesTellsTheReasonThatIsNamedFirst(t *testing.T) {
	eight, seven := strings.Repeat("S=;", 8), nested(7, "a")
	for _, c := range []struct {
		s    string
		want int
	}{
		{eight + "S=*;", 26}, {eight + "S;", 25}, {eight + "S=", 26}, {eight + "S", 25}, {eight + "a", 24}, {eight + "S=a);", 27}, {eight + "S=;S=;b", 30},
		{eight + "S=(a;", 28}, {eight + "S=a", 27}, {eight + ";", 24}, {eight + "S=;*", 27},
		{"S=" + seven, 17}, {"S=" + seven + ")", 17}, {"S=" + seven + ";b", 18}, {"S=" + seven + ";T=*;", 20}, {"S=((((((((;", 10}, {"S=((((((((", 10}, {"S=(((((((*", 9},
		{eight + "S=" + seven + ";", 32}, {eight + "S=;T=" + seven + ";", 35}, {"S=" + seven + ";" + eight, 8}, {"S=" + seven + ";" + eight + "b", 42},
		{eight + "S=" + seven, 41}, {eight + "S=" + seven + ";=", 42},
	} {
		refusedAt(t, c.s, c.want)
	}
}

func TestReadRulesOfAllShortTexts(t *testing.T) {
	for _, s := range textsOf("Sa=|;()*", 5) {
		sameRules(t, s)
	}
	for _, s := range textsOf("aT|;()*", 5) {
		sameRules(t, "S="+s)
		sameRules(t, "S="+s+";")
	}
	for _, s := range textsOf("a|(+? )\n", 4) {
		sameRules(t, "T=;S=("+s+");")
	}
	for _, s := range textsOf("S= ;1", 5) {
		sameRules(t, s)
	}
}

// randomText is a text of rules, of which now and then some bytes are others.
func randomText(r *rand.Rand) string {
	s := ""
	for range r.Intn(10) {
		s += randomRule(r)
	}
	if r.Intn(2) == 0 {
		return s
	}
	bytes := []byte(s)
	for range 1 + r.Intn(2) {
		if len(bytes) > 0 {
			bytes[r.Intn(len(bytes))] = "Sa=|;()*+? \n1"[r.Intn(13)]
		}
	}
	return string(bytes)
}

func randomRule(r *rand.Rand) string {
	return pick(r, "S", "T", " U") + pick(r, "=", " = ") + randomAlternation(r, 9) + pick(r, ";", " ;\n")
}

func pick(r *rand.Rand, of ...string) string { return of[r.Intn(len(of))] }

func randomAlternation(r *rand.Rand, deep int) string {
	s := ""
	for i := range 1 + r.Intn(3) {
		if i > 0 {
			s += pick(r, "|", " | ")
		}
		for range r.Intn(3) {
			s += randomItem(r, deep) + pick(r, "", "", " ", "*", "+", "?", "?*")
		}
	}
	return s
}

func randomItem(r *rand.Rand, deep int) string {
	if deep > 0 && r.Intn(2) == 0 {
		return "(" + randomAlternation(r, deep-1) + ")"
	}
	return pick(r, "a", "b", "S", "T ")
}

func TestReadRulesOfRandomTexts(t *testing.T) {
	r := rand.New(rand.NewSource(3))
	for range 20000 {
		s := randomText(r)
		sameRules(t, s)
		writtenIsReadAgain(t, s)
	}
}

// textPlainly is ExprText put down as the document says it.
func textPlainly(e impl.Expr) string {
	var kids []string
	for _, k := range e.Kids {
		kids = append(kids, textPlainly(k))
	}
	switch {
	case e.Kind == 0 || e.Kind == 1:
		return e.Text
	case e.Kind == 2:
		return "(" + strings.Join(kids, " ") + ")"
	case e.Kind == 3:
		return "(" + strings.Join(kids, "|") + ")"
	case 4 <= e.Kind && e.Kind <= 6 && len(kids) == 1:
		return kids[0] + "?*+"[e.Kind-4:e.Kind-3]
	}
	return ""
}

func TestExprText(t *testing.T) {
	a, b, n := letterOf("a"), letterOf("b"), nameOf("N")
	other := impl.Expr{Kind: 7, Text: "x", Kids: []impl.Expr{a}}
	for _, c := range []struct {
		e    impl.Expr
		want string
	}{
		{impl.Expr{}, ""}, {a, "a"}, {n, "N"}, {letterOf(""), ""}, {nameOf(""), ""}, {letterOf("N"), "N"}, {nameOf("a"), "a"},
		{impl.Expr{Kind: 0, Text: "a", Kids: []impl.Expr{b}}, "a"}, {impl.Expr{Kind: 1, Text: "N", Kids: []impl.Expr{a, b}}, "N"}, {impl.Expr{Kind: 1, Kids: []impl.Expr{a}}, ""},
		{letterOf("long text"), "long text"}, {letterOf(" (\n|) "), " (\n|) "}, {nameOf("\x00\xff\xfe\u00e9"), "\x00\xff\xfe\u00e9"}, {nameOf(strings.Repeat("N", 1000)), strings.Repeat("N", 1000)},
		{seqOf(), "()"}, {seqOf(a), "(a)"}, {seqOf(a, b), "(a b)"}, {seqOf(a, n, b), "(a N b)"}, {seqOf(seqOf(), seqOf()), "(() ())"}, {seqOf(letterOf(""), letterOf("")), "( )"},
		{altOf(), "()"}, {altOf(a), "(a)"}, {altOf(a, b), "(a|b)"}, {altOf(a, n, b), "(a|N|b)"}, {altOf(seqOf(), seqOf()), "(()|())"}, {altOf(letterOf(""), letterOf("")), "(|)"},
		{impl.Expr{Kind: 2, Text: "x", Kids: []impl.Expr{a}}, "(a)"}, {impl.Expr{Kind: 3, Text: "x"}, "()"}, {impl.Expr{Kind: 2, Kids: []impl.Expr{}}, "()"},
		{optOf(a), "a?"}, {starOf(a), "a*"}, {plusOf(a), "a+"}, {optOf(n), "N?"}, {impl.Expr{Kind: 5, Text: "x", Kids: []impl.Expr{a}}, "a*"},
		{impl.Expr{Kind: 4}, ""}, {impl.Expr{Kind: 5}, ""}, {impl.Expr{Kind: 6}, ""}, {impl.Expr{Kind: 4, Text: "x"}, ""}, {impl.Expr{Kind: 5, Kids: []impl.Expr{}}, ""},
		{impl.Expr{Kind: 4, Kids: []impl.Expr{a, b}}, ""}, {impl.Expr{Kind: 5, Kids: []impl.Expr{a, b}}, ""}, {impl.Expr{Kind: 6, Kids: []impl.Expr{a, b}}, ""}, {impl.Expr{Kind: 6, Kids: []impl.Expr{a, b, n}}, ""},
		{other, ""}, {impl.Expr{Kind: -1, Text: "x"}, ""}, {impl.Expr{Kind: -1, Text: "x", Kids: []impl.Expr{a}}, ""}, {impl.Expr{Kind: 8, Text: "x", Kids: []impl.Expr{a}}, ""},
		{impl.Expr{Kind: math.MaxInt, Text: "x", Kids: []impl.Expr{a}}, ""}, {impl.Expr{Kind: math.MinInt, Text: "x", Kids: []impl.Expr{a}}, ""}, {impl.Expr{Kind: 7, Kids: []impl.Expr{a, b}}, ""},
		{starOf(other), "*"}, {optOf(impl.Expr{Kind: 4}), "?"}, {plusOf(letterOf("")), "+"}, {seqOf(a, other, b), "(a  b)"}, {seqOf(other), "()"}, {altOf(other, other), "(|)"}, {altOf(impl.Expr{Kind: 6}, a), "(|a)"},
		{starOf(optOf(plusOf(a))), "a+?*"}, {starOf(seqOf(a, b)), "(a b)*"}, {optOf(altOf(a, b)), "(a|b)?"}, {plusOf(seqOf()), "()+"}, {starOf(altOf()), "()*"},
		{altOf(seqOf(a, starOf(altOf(b, n))), seqOf()), "((a (b|N)*)|())"}, {seqOf(altOf(a, b), seqOf(a, b)), "((a|b) (a b))"}, {seqOf(starOf(a), plusOf(b)), "(a* b+)"},
	} {
		if got := impl.ExprText(c.e); got != c.want {
			t.Errorf("ExprText(%v) = %q, want %q", c.e, got, c.want)
		}
		if got := textPlainly(c.e); got != c.want {
			t.Errorf("%v is %q plainly, want %q", c.e, got, c.want)
		}
	}
}

// exprsOver tells an Expr of each Kind, and of some that are none, over each list of at most most of these Kids.
func exprsOver(kids []impl.Expr, most int) []impl.Expr {
	var out []impl.Expr
	var places []int
	for i := range kids {
		places = append(places, i)
	}
	for _, list := range listsOf(places, most) {
		for kind := -1; kind <= 8; kind++ {
			e := impl.Expr{Kind: kind, Text: "t"}
			for _, i := range list {
				e.Kids = append(e.Kids, kids[i])
			}
			out = append(out, e)
		}
	}
	return out
}

func TestExprTextOfAllSmallExpressions(t *testing.T) {
	low := exprsOver([]impl.Expr{letterOf("a"), nameOf("N"), seqOf(), {Kind: 7, Text: "x"}}, 2)
	for _, e := range append(exprsOver(low, 1), exprsOver(low[:30], 3)...) {
		if got, want := impl.ExprText(e), textPlainly(e); got != want {
			t.Fatalf("ExprText(%v) = %q, want %q", e, got, want)
		}
	}
}

func TestExprTextOfDeepAndWideExpressions(t *testing.T) {
	const n = 1000000
	star, seq, alt := letterOf("a"), letterOf("a"), letterOf("a")
	for range n {
		star, seq, alt = starOf(star), seqOf(seq), altOf(alt)
	}
	if impl.ExprText(star) != "a"+strings.Repeat("*", n) {
		t.Error("deep stars")
	}
	if impl.ExprText(seq) != nested(n, "a") || impl.ExprText(alt) != nested(n, "a") {
		t.Error("deep brackets")
	}
	wide := slices.Repeat([]impl.Expr{letterOf("ab")}, n)
	if impl.ExprText(seqOf(wide...)) != "("+strings.Repeat("ab ", n-1)+"ab)" || impl.ExprText(altOf(wide...)) != "("+strings.Repeat("ab|", n-1)+"ab)" {
		t.Error("wide rows")
	}
	if impl.ExprText(impl.Expr{Kind: 5, Kids: wide}) != "" {
		t.Error("many Kids")
	}
}

func TestRulesText(t *testing.T) {
	a := letterOf("a")
	for _, c := range []struct {
		list []impl.Rule
		want string
	}{
		{nil, ""}, {[]impl.Rule{}, ""}, {[]impl.Rule{{}}, " =  ;\n"}, {[]impl.Rule{{}, {}}, " =  ;\n =  ;\n"},
		{[]impl.Rule{ruleOf("S", a)}, "S = a ;\n"}, {[]impl.Rule{ruleOf("S", seqOf())}, "S = () ;\n"}, {[]impl.Rule{ruleOf("S", impl.Expr{Kind: 9, Text: "x"})}, "S =  ;\n"},
		{[]impl.Rule{ruleOf("S", a), ruleOf("T", starOf(a))}, "S = a ;\nT = a* ;\n"}, {[]impl.Rule{ruleOf("T", a), ruleOf("S", a), ruleOf("T", a)}, "T = a ;\nS = a ;\nT = a ;\n"},
		{[]impl.Rule{ruleOf("", a)}, " = a ;\n"}, {[]impl.Rule{ruleOf("any name;\n\xff", altOf(a, a))}, "any name;\n\xff = (a|a) ;\n"},
		{slices.Repeat([]impl.Rule{ruleOf("S", a)}, 100), strings.Repeat("S = a ;\n", 100)},
	} {
		if got := impl.RulesText(c.list); got != c.want {
			t.Errorf("RulesText(%v) = %q, want %q", c.list, got, c.want)
		}
	}
}

// writtenIsReadAgain is promise 3; a text that has become longer or deeper than a limit is refused as any other such text is.
func writtenIsReadAgain(t *testing.T, s string) bool {
	t.Helper()
	list, bad := impl.ReadRules(s)
	if bad != -1 {
		return false
	}
	text := impl.RulesText(list)
	again, bad := impl.ReadRules(text)
	words, long := wordsPlainly(text)
	want := long
	if long == -1 {
		want = limitPlainly(words)
	}
	if want != -1 {
		if bad != want || len(again) != 0 {
			t.Errorf("%q is written as %q and read again as %v, %d, want none, %d", s, text, again, bad, want)
		}
		return false
	}
	if bad != -1 || impl.RulesText(again) != text || !slices.EqualFunc(again, list, sameRule) {
		t.Errorf("%q is written as %q and read again as %v, %d", s, text, again, bad)
	}
	return true
}

// Promise 3: what is written of rules is read again as rules of the same text.
func TestWhatIsWrittenIsReadAgain(t *testing.T) {
	for _, s := range []string{
		"S = a ;", "S = ;", "S = | ;", "S = () ;", "S = (|) ;", "S = a b | ;", "S = a (b | c)* | ; T = S?+;", "S=a**;", "S=(a|b)|(c d);", "S = ((((((a b)))))) ;", "S = ((((((a|b)))))) ;",
		"S=((((((a)b)c)d)e)f)g;", "S=(()*)?|(a+)+;", "S=a;S=a;", strings.Repeat("S=a|b c;", 8), strings.Repeat("S=;", 8), "S = " + strings.Repeat("a", 146) + ";",
	} {
		if !writtenIsReadAgain(t, s) {
			t.Errorf("%q is not read again", s)
		}
	}
	// Of these the text is deeper, or longer, than what is read.
	for _, s := range []string{"S=((((((a|b)c)d)e)f)g)h;", "S=a|b(a|b(a|b(a|b)));", "S = " + strings.Repeat("a", 147) + ";"} {
		if _, bad := impl.ReadRules(s); bad != -1 || writtenIsReadAgain(t, s) {
			t.Errorf("%q, %d: its text is within the limits", s, bad)
		}
	}
	times := 0
	for _, s := range textsOf("aT|()*+ ", 5) {
		if writtenIsReadAgain(t, "S="+s+";") {
			times++
		}
	}
	if times < 1000 {
		t.Error("read again only", times)
	}
}

// listsIn are the Kids of an expression and of all within it, with the room behind each.
func listsIn(e impl.Expr) [][]impl.Expr {
	out := [][]impl.Expr{e.Kids[:cap(e.Kids)]}
	for _, k := range e.Kids {
		out = append(out, listsIn(k)...)
	}
	return out
}

func textsIn(e impl.Expr) []string {
	out := []string{e.Text}
	for _, k := range e.Kids {
		out = append(out, textsIn(k)...)
	}
	return out
}

func overlap(a, b []impl.Expr) bool {
	if len(a) == 0 || len(b) == 0 {
		return false
	}
	first := func(l []impl.Expr) uintptr { return uintptr(unsafe.Pointer(&l[0])) }
	behind := func(l []impl.Expr) uintptr { return first(l) + uintptr(len(l))*unsafe.Sizeof(l[0]) }
	return first(a) < behind(b) && first(b) < behind(a)
}

func TestReadRulesIsNewMemory(t *testing.T) {
	for _, s := range []string{"S = a ;", "S=;", "S = a b c d e | f* (g | h (i j k)+ | l)? m N O P Q | R ; T = (a b) (a b) | (a b) ;", strings.Repeat("S=a|b c d;", 8)} {
		s = strings.Clone(s)
		list, bad := impl.ReadRules(s)
		if bad != -1 {
			t.Fatalf("ReadRules(%q) = %d", s, bad)
		}
		var lists [][]impl.Expr
		for _, rule := range list {
			lists = append(lists, listsIn(rule.Expr)...)
			for _, text := range append(textsIn(rule.Expr), rule.Name) {
				if within(text, s) {
					t.Errorf("ReadRules(%q): %q lies in the memory of its argument", s, text)
				}
			}
		}
		for i, a := range lists {
			for _, b := range lists[:i] {
				if overlap(a, b) {
					t.Errorf("ReadRules(%q): two lists share memory: %v, %v", s, a, b)
				}
			}
		}
		for _, l := range lists {
			for i := range l {
				l[i] = impl.Expr{Kind: 77, Text: "z"}
			}
		}
		sameRules(t, s)
	}
}

// guardedExpr is such an expression, new, with texts and lists of its own and spare room behind each list.
func guardedExpr(e impl.Expr) impl.Expr {
	kids := make([]impl.Expr, 0, len(e.Kids)+3)
	for _, k := range e.Kids {
		kids = append(kids, guardedExpr(k))
	}
	spare := kids[len(kids):cap(kids)]
	for i := range spare {
		spare[i] = impl.Expr{Kind: -5, Text: "spare"}
	}
	return impl.Expr{Kind: e.Kind, Text: strings.Clone(e.Text), Kids: kids}
}

func sameWithRoom(a, b impl.Expr) bool {
	return a.Kind == b.Kind && a.Text == b.Text && len(a.Kids) == len(b.Kids) && slices.EqualFunc(a.Kids[:cap(a.Kids)], b.Kids[:cap(b.Kids)], sameWithRoom)
}

func TestTextsOfRulesAreNewMemoryAndNothingIsWritten(t *testing.T) {
	a, long := letterOf("a"), nameOf("a longer text of a name")
	exprs := []impl.Expr{a, long, seqOf(), seqOf(long), seqOf(a, long, a), altOf(a, long), optOf(long), starOf(seqOf(a, a)), plusOf(altOf(seqOf(a, long), a)), {Kind: 9, Text: "another", Kids: []impl.Expr{a}}, {Kind: 5, Kids: []impl.Expr{a, a}}}
	for _, e := range exprs {
		arg, kept := guardedExpr(e), guardedExpr(e)
		got := impl.ExprText(arg)
		if !sameWithRoom(arg, kept) {
			t.Errorf("ExprText wrote into %v: %v", kept, arg)
		}
		for _, text := range textsIn(arg) {
			if within(text, got) || within(got, text) {
				t.Errorf("ExprText(%v) lies in the memory of its argument", arg)
			}
		}
	}
	for n := range len(exprs) + 1 {
		var array, kept []impl.Rule
		for _, e := range append(slices.Clone(exprs[:n]), seqOf(a), seqOf(a)) {
			array = append(array, ruleOf(strings.Clone("Name"), guardedExpr(e)))
			kept = append(kept, ruleOf("Name", guardedExpr(e)))
		}
		got := impl.RulesText(array[:n])
		for i, rule := range array {
			if rule.Name != kept[i].Name || !sameWithRoom(rule.Expr, kept[i].Expr) {
				t.Errorf("RulesText wrote into rule %d: %v", i, rule)
			}
			for _, text := range append(textsIn(rule.Expr), rule.Name) {
				if within(text, got) || within(got, text) {
					t.Errorf("RulesText lies in the memory of its argument: %q", text)
				}
			}
		}
	}
}
