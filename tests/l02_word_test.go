package tests

import (
	"runtime"
	"slices"
	"strings"
	"sync"
	"testing"

	"loop.example/g00485/impl"
)

// The functions, the type and the constants as the document writes them down.
var (
	_ func(string) ([]impl.Word, int) = impl.Words
	_ func([]impl.Word) string        = impl.WordsText
	_                                 = impl.Word{Kind: int(0), At: int(0), Text: string("")}
)

const (
	allNames   = "ABCDEFGHIJKLMNOPQRSTUVWXYZ"
	allLetters = "abcdefghijklmnopqrstuvwxyz"
	allSigns   = "=|;()*+?"
	allBetween = " \n"
)

func TestConstantsOfWords(t *testing.T) {
	if impl.MaxText != 300 || impl.WdName != 0 || impl.WdLetter != 1 || impl.WdSign != 2 {
		t.Error("constants", impl.MaxText, impl.WdName, impl.WdLetter, impl.WdSign)
	}
}

// wordAt is the word that one byte is, told from the lists of bytes above.
func wordAt(b byte, at int) (w impl.Word, isWord, between bool) {
	text := string([]byte{b})
	switch {
	case strings.Contains(allBetween, text):
		return impl.Word{}, false, true
	case strings.Contains(allNames, text):
		return impl.Word{Kind: 0, At: at, Text: text}, true, false
	case strings.Contains(allLetters, text):
		return impl.Word{Kind: 1, At: at, Text: text}, true, false
	case strings.Contains(allSigns, text):
		return impl.Word{Kind: 2, At: at, Text: text}, true, false
	}
	return impl.Word{}, false, false
}

// wordsPlainly is Words put down as the document says it.
func wordsPlainly(s string) ([]impl.Word, int) {
	if len(s) > 300 {
		return nil, 300
	}
	var list []impl.Word
	for i := range len(s) {
		w, isWord, between := wordAt(s[i], i)
		if isWord {
			list = append(list, w)
		} else if !between {
			return nil, i
		}
	}
	return list, -1
}

func sameWords(t *testing.T, s string) {
	t.Helper()
	list, bad := impl.Words(s)
	want, wantBad := wordsPlainly(s)
	if bad != wantBad || !slices.Equal(list, want) {
		t.Errorf("Words(%q) = %v, %d, want %v, %d", s, list, bad, want, wantBad)
	}
}

func TestWordsOfRules(t *testing.T) {
	list, bad := impl.Words("S = a\n| (B)*;\n\nB=c+ d? ;")
	want := []impl.Word{
		{Kind: 0, At: 0, Text: "S"}, {Kind: 2, At: 2, Text: "="}, {Kind: 1, At: 4, Text: "a"},
		{Kind: 2, At: 6, Text: "|"}, {Kind: 2, At: 8, Text: "("}, {Kind: 0, At: 9, Text: "B"},
		{Kind: 2, At: 10, Text: ")"}, {Kind: 2, At: 11, Text: "*"}, {Kind: 2, At: 12, Text: ";"},
		{Kind: 0, At: 15, Text: "B"}, {Kind: 2, At: 16, Text: "="}, {Kind: 1, At: 17, Text: "c"},
		{Kind: 2, At: 18, Text: "+"}, {Kind: 1, At: 20, Text: "d"}, {Kind: 2, At: 21, Text: "?"},
		{Kind: 2, At: 23, Text: ";"},
	}
	if bad != -1 || !slices.Equal(list, want) {
		t.Errorf("Words = %v, %d", list, bad)
	}
}

func TestWordsOfNothing(t *testing.T) {
	for _, s := range []string{"", " ", "\n", "  ", "\n\n", " \n", "\n ", " \n \n  \n", strings.Repeat(" ", 300), strings.Repeat("\n", 300)} {
		if list, bad := impl.Words(s); len(list) != 0 || bad != -1 {
			t.Errorf("Words(%q) = %v, %d", s, list, bad)
		}
	}
}

func TestWordsAheadOfAndBehindBlanks(t *testing.T) {
	for _, c := range []struct {
		s    string
		want []impl.Word
	}{
		{"a", []impl.Word{{Kind: 1, At: 0, Text: "a"}}},
		{" a", []impl.Word{{Kind: 1, At: 1, Text: "a"}}},
		{"a ", []impl.Word{{Kind: 1, At: 0, Text: "a"}}},
		{"\na", []impl.Word{{Kind: 1, At: 1, Text: "a"}}},
		{"a\n", []impl.Word{{Kind: 1, At: 0, Text: "a"}}},
		{" \n A \n ", []impl.Word{{Kind: 0, At: 3, Text: "A"}}},
		{"ab", []impl.Word{{Kind: 1, At: 0, Text: "a"}, {Kind: 1, At: 1, Text: "b"}}},
		{"aA", []impl.Word{{Kind: 1, At: 0, Text: "a"}, {Kind: 0, At: 1, Text: "A"}}},
		{"a  \n b", []impl.Word{{Kind: 1, At: 0, Text: "a"}, {Kind: 1, At: 5, Text: "b"}}},
		{"**", []impl.Word{{Kind: 2, At: 0, Text: "*"}, {Kind: 2, At: 1, Text: "*"}}},
		{"==", []impl.Word{{Kind: 2, At: 0, Text: "="}, {Kind: 2, At: 1, Text: "="}}},
	} {
		if list, bad := impl.Words(c.s); bad != -1 || !slices.Equal(list, c.want) {
			t.Errorf("Words(%q) = %v, %d, want %v", c.s, list, bad, c.want)
		}
	}
}

func TestWordsOfEachByte(t *testing.T) {
	for b := range 256 {
		s := string([]byte{byte(b)})
		for _, around := range []string{"", "a", " ", "\n", "S = a ;"} {
			sameWords(t, s+around)
			sameWords(t, around+s)
			sameWords(t, around+s+around)
		}
	}
}

func TestWordsRefusesWhatIsNoWord(t *testing.T) {
	refused := []byte{
		0, 1, 9, 11, 12, 13, 31, 127, 128, 160, 194, 195, 200, 254, 255,
		'A' - 1, 'Z' + 1, 'a' - 1, 'z' + 1, '0', '1', '9',
		'=' - 1, '=' + 1, '|' - 1, '|' + 1, ';' - 1, '(' - 1, '*' + 2, '?' + 1,
		'!', '"', '#', '$', '%', '&', '\'', ',', '-', '.', '/', ':', '<', '>', '@', '[', '\\', ']', '^', '_', '`', '{', '}', '~',
	}
	for _, b := range refused {
		s := string([]byte{b})
		for _, c := range []struct {
			s    string
			want int
		}{
			{s, 0}, {s + "a", 0}, {" " + s, 1}, {"a" + s, 1}, {"S = " + s, 4}, {"S = " + s + " ;", 4}, {"S = a ;" + s, 7},
			{s + s, 0}, {"a" + s + "b" + s, 1}, {"a " + s + "\x00" + s, 2}, {"a" + s + "1", 1}, {"\n\n" + s + "\xff", 2},
			{strings.Repeat("a", 299) + s, 299}, {strings.Repeat(" ", 150) + s + strings.Repeat("a", 149), 150}, {s + strings.Repeat("a", 299), 0},
		} {
			if list, bad := impl.Words(c.s); len(list) != 0 || bad != c.want {
				t.Errorf("Words(%q) = %v, %d, want none, %d", c.s, list, bad, c.want)
			}
		}
	}
}

func TestWordsOfRunesAreTakenByteByByte(t *testing.T) {
	for _, c := range []struct {
		s    string
		want int
	}{
		{"a\u00e9", 1}, {"\u00e9", 0}, {"ab \u0394", 3}, {"\uff21", 0}, {"S = \u2028", 4}, {"a\u00a0b", 1}, {"\ufeffS", 0},
	} {
		if list, bad := impl.Words(c.s); len(list) != 0 || bad != c.want {
			t.Errorf("Words(%q) = %v, %d, want none, %d", c.s, list, bad, c.want)
		}
	}
}

func TestWordsOfLongTexts(t *testing.T) {
	for _, of := range []string{"a", "Z", "|", "a ", "S =", "ab\n", " "} {
		for _, n := range []int{298, 299, 300} {
			sameWords(t, strings.Repeat(of, 300)[:n])
		}
	}
	if list, bad := impl.Words(strings.Repeat("a", 300)); bad != -1 || len(list) != 300 || list[299] != (impl.Word{Kind: 1, At: 299, Text: "a"}) {
		t.Error("300 letters", len(list), bad)
	}
	for _, s := range []string{
		strings.Repeat("a", 301), strings.Repeat(" ", 301), strings.Repeat("\n", 301), strings.Repeat("a", 302), strings.Repeat("=", 100000),
		"1" + strings.Repeat("a", 300), strings.Repeat("a", 150) + "1" + strings.Repeat("a", 150), strings.Repeat("a", 300) + "1",
		strings.Repeat("1", 301), strings.Repeat("\x00", 301), strings.Repeat("\u00e9", 151), strings.Repeat("a", 299) + "\xff\xff",
		"S = a ;" + strings.Repeat(" ", 294),
	} {
		if list, bad := impl.Words(s); len(list) != 0 || bad != 300 {
			t.Errorf("Words of %d bytes %.10q: %v, %d, want none, 300", len(s), s, list, bad)
		}
	}
}

// textsOf tells all texts of at most most of these bytes.
func textsOf(bytes string, most int) []string {
	all := []string{""}
	longest := all
	for range most {
		var longer []string
		for _, s := range longest {
			for i := range len(bytes) {
				longer = append(longer, s+bytes[i:i+1])
			}
		}
		all = append(all, longer...)
		longest = longer
	}
	return all
}

func TestWordsOfAllShortTexts(t *testing.T) {
	for _, s := range textsOf("aZ=| \n1\xff", 4) {
		sameWords(t, s)
	}
	for _, s := range textsOf("Az;()*+?\t@[`{", 3) {
		sameWords(t, s)
	}
}

func TestWordsText(t *testing.T) {
	for _, c := range []struct {
		list []impl.Word
		want string
	}{
		{nil, ""}, {[]impl.Word{}, ""},
		{[]impl.Word{{Kind: 1, At: 3, Text: "a"}}, "a"},
		{[]impl.Word{{Text: ""}}, ""},
		{[]impl.Word{{Text: "S"}, {Text: "="}}, "S ="},
		{[]impl.Word{{Text: "S"}, {Text: "="}, {Text: "a"}, {Text: ";"}}, "S = a ;"},
		{[]impl.Word{{}, {}}, " "}, {[]impl.Word{{}, {}, {}}, "  "},
		{[]impl.Word{{Text: ""}, {Text: "a"}}, " a"}, {[]impl.Word{{Text: "a"}, {Text: ""}}, "a "}, {[]impl.Word{{Text: "a"}, {}, {Text: "b"}}, "a  b"},
		{[]impl.Word{{Text: "long one"}, {Text: "x\ny"}}, "long one x\ny"},
		{[]impl.Word{{Text: " "}, {Text: "\n"}}, "  \n"},
		{[]impl.Word{{Text: "\x00"}, {Text: "\xff\xfe"}, {Text: "\u00e9"}, {Text: "1"}}, "\x00 \xff\xfe \u00e9 1"},
		{[]impl.Word{{Kind: -7, At: -7, Text: "a"}, {Kind: 99, At: 1 << 40, Text: "B"}}, "a B"},
		{[]impl.Word{{Kind: 2, At: 9, Text: "b"}, {Kind: 0, At: 0, Text: "a"}}, "b a"},
		{[]impl.Word{{Text: strings.Repeat("x", 400)}, {Text: "y"}}, strings.Repeat("x", 400) + " y"},
	} {
		if got := impl.WordsText(c.list); got != c.want {
			t.Errorf("WordsText(%v) = %q, want %q", c.list, got, c.want)
		}
	}
}

func TestWordsTextOfMany(t *testing.T) {
	var list []impl.Word
	var texts []string
	for i := range 1000 {
		text := strings.Repeat("k", i%4)
		list = append(list, impl.Word{Kind: i, At: -i, Text: text})
		texts = append(texts, text)
		if got := impl.WordsText(list); got != strings.Join(texts, " ") {
			t.Fatalf("WordsText of %d words = %q", i+1, got)
		}
	}
}

// readAgain is promise 2: the words of the text of words are these, each two places behind the one ahead of it.
func readAgain(t *testing.T, s string) {
	t.Helper()
	list, _ := impl.Words(s)
	text := impl.WordsText(list)
	again, bad := impl.Words(text)
	if len(text) > impl.MaxText {
		if bad != impl.MaxText || len(again) != 0 {
			t.Errorf("Words of %d words' text = %v, %d", len(list), again, bad)
		}
		return
	}
	if bad != -1 || len(again) != len(list) {
		t.Errorf("Words(%q) has %d words, read again %d, %d", s, len(list), len(again), bad)
		return
	}
	for i, w := range list {
		if again[i] != (impl.Word{Kind: w.Kind, At: 2 * i, Text: w.Text}) {
			t.Errorf("Words(%q): %v is read again as %v", s, w, again[i])
		}
	}
	if impl.WordsText(again) != text {
		t.Errorf("Words(%q): the text %q turned", s, text)
	}
}

// Promise 2: words are read again as they were.
func TestWordsAreReadAgainAsTheyWere(t *testing.T) {
	for _, s := range textsOf("aZ(? \n1", 4) {
		readAgain(t, s)
	}
	for _, s := range []string{allNames, allLetters, allSigns, allNames + "\n" + allLetters + " " + allSigns, "S = a\n| (B)*;\nB = c+ ;", "  S\n\n=a;  "} {
		readAgain(t, s)
	}
	for _, n := range []int{149, 150, 151, 299, 300} {
		for _, of := range []string{"a", "Q", "*"} {
			readAgain(t, strings.Repeat(of, n))
		}
	}
	list, bad := impl.Words(impl.WordsText(slices.Repeat([]impl.Word{{Kind: 0, Text: "A"}}, 150)))
	if bad != -1 || len(list) != 150 {
		t.Error("150 words", len(list), bad)
	}
}

func TestWordsAreNewMemory(t *testing.T) {
	texts := []string{strings.Repeat("S = a | b ;\n", 20), string([]byte{'a'}), string([]byte{'S'}), string([]byte{'='}), "a", "ab"}
	for _, s := range texts {
		list, _ := impl.Words(s)
		for _, w := range list {
			if within(w.Text, s) {
				t.Errorf("Words(%q): %v lies in the memory of its argument", s, w)
			}
		}
		whole := list[:cap(list)]
		for i := range whole {
			whole[i] = impl.Word{Kind: 77, At: 77, Text: "z"}
		}
		sameWords(t, s)
	}
}

func TestWordsTextIsNewMemoryAndNothingIsWritten(t *testing.T) {
	spare := impl.Word{Kind: -5, At: -5, Text: "spare"}
	for _, texts := range [][]string{nil, {"a"}, {"long text of one word"}, {""}, {"", "word"}, {"word", ""}, {"a", "b", "c"}} {
		array := []impl.Word{spare}
		for i, text := range texts {
			array = append(array, impl.Word{Kind: i, At: i, Text: strings.Clone(text)})
		}
		array = append(array, spare, spare, spare)
		kept := slices.Clone(array)
		got := impl.WordsText(array[1 : 1+len(texts)])
		if !slices.Equal(array, kept) {
			t.Errorf("WordsText(%v) wrote into its argument: %v", kept, array)
		}
		for _, w := range array {
			if within(w.Text, got) || within(got, w.Text) {
				t.Errorf("WordsText(%q) lies in the memory of its argument", texts)
			}
		}
	}
}

func TestWordsLeavesNobodyBehind(t *testing.T) {
	before := runtime.NumGoroutine()
	for range 1000 {
		impl.Words("S = a | (b)* ;")
		impl.Words("S = a | 1")
		impl.Words(strings.Repeat("a", 301))
	}
	for range 1000 {
		if runtime.NumGoroutine() <= before {
			return
		}
		runtime.Gosched()
	}
	t.Errorf("%d goroutines became %d", before, runtime.NumGoroutine())
}

func TestWordsOfManyAtOnce(t *testing.T) {
	var all sync.WaitGroup
	for i := range 8 {
		all.Go(func() {
			for range 50 {
				sameWords(t, strings.Repeat("aB= ", 10+i))
				sameWords(t, strings.Repeat("aB= ", i)+"1")
			}
		})
	}
	all.Wait()
}
