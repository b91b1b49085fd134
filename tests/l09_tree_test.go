package tests

import (
	"fmt"
	"maps"
	"math"
	"math/rand"
	"slices"
	"strconv"
	"strings"
	"testing"

	"loop.example/g00485/impl"
)

// The functions as the document writes them down.
var (
	_ func(impl.Tree) bool                   = impl.TreeShape
	_ func(impl.Tree) []int                  = impl.Yield
	_ func(impl.Gram, impl.Tree, []int) bool = impl.TreeOk
	_ func(impl.Tree) string                 = impl.TreeText
)

func TestConstantsOfTrees(t *testing.T) {
	if impl.TnLeaf != 0 || impl.TnPart != 1 || impl.TnMissing != 2 || impl.TnWrong != 3 {
		t.Error(impl.TnLeaf, impl.TnPart, impl.TnMissing, impl.TnWrong)
	}
}

// A bush is a tree whose Kids lie within it.
type bush struct {
	kind, sym, alt, at int
	kids               []bush
}

// bushReader reads a bush from its text; leaves are put to the places from the left.
type bushReader struct {
	left   string
	leaves int
}

func (r *bushReader) cut(s string) bool {
	rest, ok := strings.CutPrefix(r.left, s)
	r.left = rest
	return ok
}

func (r *bushReader) number() int {
	end := 0
	for end < len(r.left) && (r.left[end] == '-' || r.left[end] >= '0' && r.left[end] <= '9') {
		end++
	}
	n, _ := strconv.Atoi(r.left[:end])
	r.left = r.left[end:]
	return n
}

func (r *bushReader) letter() int {
	if r.left == "" {
		return -1
	}
	letter := int(r.left[0]) - 'a'
	r.left = r.left[1:]
	return letter
}

func (r *bushReader) bush() bush {
	switch {
	case r.cut("(P"):
		b := bush{kind: 1, sym: r.number()}
		r.cut("/")
		b.alt = r.number()
		for r.cut(" ") {
			b.kids = append(b.kids, r.bush())
		}
		r.cut(")")
		return b
	case r.cut("!P"):
		return bush{kind: 3, sym: r.number()}
	case r.cut("-"):
		return bush{kind: 2, sym: r.letter()}
	}
	r.leaves++
	return bush{sym: r.letter(), at: r.leaves - 1}
}

func bushFrom(t *testing.T, s string) bush {
	t.Helper()
	r := bushReader{left: s}
	b := r.bush()
	if r.left != "" || b.text() != s {
		t.Fatalf("%q is no text of a tree", s)
	}
	return b
}

func treeFrom(t *testing.T, s string) impl.Tree {
	t.Helper()
	return laid(bushFrom(t, s), fromTheLeft)
}

func (b bush) text() string {
	letter := "?"
	if b.sym >= 0 && b.sym <= 25 {
		letter = "abcdefghijklmnopqrstuvwxyz"[b.sym : b.sym+1]
	}
	switch b.kind {
	case 1:
		s := fmt.Sprintf("(P%d/%d", b.sym, b.alt)
		for _, kid := range b.kids {
			s += " " + kid.text()
		}
		return s + ")"
	case 2:
		return "-" + letter
	case 3:
		return fmt.Sprintf("!P%d", b.sym)
	}
	return letter
}

// leaves are the letters of a bush, as it has them.
func (b bush) leaves() []bush {
	if b.kind == 0 {
		return []bush{b}
	}
	var out []bush
	for _, kid := range b.kids {
		out = append(out, kid.leaves()...)
	}
	return out
}

func (b bush) yield() []int {
	var out []int
	for _, leaf := range b.leaves() {
		out = append(out, leaf.sym)
	}
	return out
}

// saidBy tells whether each part of a bush is one of its alternatives.
func (b bush) saidBy(g impl.Gram) bool {
	if b.kind != 1 {
		return b.kind == 0
	}
	if b.sym < 0 || b.sym >= len(g.Parts) || b.alt < 0 || b.alt >= len(g.Parts[b.sym]) {
		return false
	}
	var row []int
	for _, kid := range b.kids {
		if !kid.saidBy(g) {
			return false
		}
		row = append(row, kid.sym+100*kid.kind)
	}
	return slices.Equal(row, g.Parts[b.sym][b.alt])
}

// Picks for laid: which of so many nodes is the next one.
func fromTheLeft(n int) int  { return n - 1 }
func firstMade(n int) int    { return 0 }
func middleOne(n int) int    { return n / 2 }
func picks() []func(int) int { return []func(int) int{fromTheLeft, firstMade, middleOne} }

// laid puts the nodes of a bush behind each other, each time one of those whose owner is there, as pick says.
func laid(b bush, pick func(n int) int) impl.Tree {
	type waiting struct {
		bush
		owner, kid int
	}
	var t impl.Tree
	list := []waiting{{b, -1, 0}}
	for len(list) > 0 {
		i := pick(len(list))
		next := list[i]
		list = slices.Delete(list, i, i+1)
		place := len(t.Nodes)
		node := impl.Node{Kind: next.kind, Sym: next.sym, Alt: next.alt, At: next.at}
		if next.owner >= 0 {
			t.Nodes[next.owner].Kids[next.kid] = place
		}
		for i, kid := range slices.Backward(next.kids) {
			list = append(list, waiting{kid, place, i})
		}
		if len(next.kids) > 0 {
			node.Kids = make([]int, len(next.kids))
		}
		t.Nodes = append(t.Nodes, node)
	}
	return t
}

// bushAt reads a tree that is TreeShape from a place on.
func bushAt(t impl.Tree, place int) bush {
	node := t.Nodes[place]
	b := bush{kind: node.Kind, sym: node.Sym, alt: node.Alt, at: node.At}
	for _, kid := range node.Kids {
		b.kids = append(b.kids, bushAt(t, kid))
	}
	return b
}

// shapePlainly is TreeShape put down as the document says it.
func shapePlainly(t impl.Tree) bool {
	owned := map[int]int{}
	for place, node := range t.Nodes {
		if node.Kind < 0 || node.Kind > 3 || node.Kind != 1 && len(node.Kids) > 0 {
			return false
		}
		for _, kid := range node.Kids {
			owned[kid]++
			if !slices.Contains(upTo(len(t.Nodes))[place+1:], kid) || owned[kid] > 1 {
				return false
			}
		}
	}
	return len(owned) == len(t.Nodes)-1
}

// rightPlainly is TreeOk put down as the document says it.
func rightPlainly(g impl.Gram, t impl.Tree, w []int) bool {
	if reasonsPlainly(g)[0] != 0 || !inputOkPlainly(w) || !shapePlainly(t) {
		return false
	}
	b := bushAt(t, 0)
	leaves := b.leaves()
	if b.kind != 1 || b.sym != 0 || !b.saidBy(g) || len(leaves) != len(w) {
		return false
	}
	for i, leaf := range leaves {
		if leaf.sym != w[i] || leaf.at != i {
			return false
		}
	}
	return true
}

// asShaped holds what is told of a tree alone against what the document says, and tells whether it is TreeShape.
func asShaped(t *testing.T, tree impl.Tree) bool {
	t.Helper()
	shape, yield, text := impl.TreeShape(tree), impl.Yield(tree), impl.TreeText(tree)
	if want := shapePlainly(tree); shape != want {
		t.Fatalf("TreeShape(%v) = %v", tree, shape)
	}
	var wantYield []int
	wantText := ""
	if shape {
		b := bushAt(tree, 0)
		wantYield, wantText = b.yield(), b.text()
	}
	if !slices.Equal(yield, wantYield) || text != wantText {
		t.Fatalf("Yield and TreeText of %v are %v and %q, want %v and %q", tree, yield, text, wantYield, wantText)
	}
	return shape
}

// asRight holds TreeOk against what the document says, and against what belongs to the grammar, and tells it.
func asRight(t *testing.T, g impl.Gram, tree impl.Tree, w []int) bool {
	t.Helper()
	got := impl.TreeOk(g, tree, w)
	if want := rightPlainly(g, tree, w); got != want {
		t.Fatalf("TreeOk(%v, %v, %v) = %v", g, tree, w, got)
	}
	if got && (!impl.Accepts(g, w) || !impl.TreeShape(tree) || !slices.Equal(impl.Yield(tree), w)) {
		t.Fatalf("TreeOk(%v, %v, %v), but Accepts, TreeShape and Yield are %v, %v and %v", g, tree, w, impl.Accepts(g, w), impl.TreeShape(tree), impl.Yield(tree))
	}
	return got
}

// noKinds are numbers that are no kind of a node.
func noKinds() []int {
	return []int{-1, 4, 5, -2, -3, 100, 256, 1 << 32, 1<<32 + 1, -1 << 32, math.MaxInt, math.MaxInt - 1, math.MinInt, math.MinInt + 1}
}

func leafNode(sym, at int) impl.Node      { return impl.Node{Kind: 0, Sym: sym, At: at} }
func partNode(kids ...int) impl.Node      { return impl.Node{Kind: 1, Kids: kids} }
func treeOf(nodes ...impl.Node) impl.Tree { return impl.Tree{Nodes: nodes} }

func TestTreeShapeOfFewNodes(t *testing.T) {
	for _, none := range []impl.Tree{{}, {Nodes: []impl.Node{}}, {Nodes: make([]impl.Node, 0, 5)}} {
		if asShaped(t, none) {
			t.Error("a tree of no node")
		}
	}
	for kind := -3; kind < 8; kind++ {
		for _, kids := range [][]int{nil, {}, make([]int, 0, 4)} {
			one := impl.Node{Kind: kind, Sym: 3, Alt: -4, At: 9, Kids: kids}
			if got := asShaped(t, treeOf(one)); got != (kind >= 0 && kind < 4) {
				t.Error("one node of kind", kind, got)
			}
			for owner := range 4 {
				root := impl.Node{Kind: owner, Kids: []int{1}}
				if got := asShaped(t, treeOf(root, one)); got != (owner == 1 && kind >= 0 && kind < 4) {
					t.Error("two nodes, of kinds", owner, kind, got)
				}
			}
		}
	}
}

func TestTreeShape(t *testing.T) {
	leaf, part := leafNode(0, 0), partNode()
	missing, wrong := impl.Node{Kind: 2}, impl.Node{Kind: 3}
	for _, x := range []struct {
		name string
		tree impl.Tree
		want bool
	}{
		{"each kind", treeOf(partNode(1, 2, 3, 4), leaf, missing, wrong, part), true},
		{"in another order", treeOf(partNode(4, 2, 3, 1), leaf, missing, wrong, part), true},
		{"upside down", treeOf(partNode(3, 2, 1), leaf, leaf, leaf), true},
		{"a row of parts", treeOf(partNode(1), partNode(2), partNode(3), leaf), true},
		{"later ones first", treeOf(partNode(2, 1), partNode(4, 3), leaf, leaf, leaf), true},
		{"between each other", treeOf(partNode(1, 3), partNode(2, 4), leaf, leaf, leaf), true},
		{"between each other, turned", treeOf(partNode(3, 1), partNode(4, 2), leaf, leaf, leaf), true},
		{"parts of nothing", treeOf(partNode(1, 2), part, part), true},
		{"a Kid too few", treeOf(partNode(1, 2), leaf, leaf, leaf), false},
		{"nobody's nodes", treeOf(part, leaf, leaf), false},
		{"nobody's part", treeOf(partNode(1), leaf, partNode(3), leaf), false},
		{"nobody's last one", treeOf(partNode(1), leaf, part), false},
		{"nobody's first one", treeOf(partNode(2), leaf, leaf), false},
		{"its own place", treeOf(partNode(0, 1), leaf), false},
		{"its own place, alone", treeOf(partNode(0)), false},
		{"its own place, later", treeOf(partNode(2), partNode(1), leaf), false},
		{"its own place, and an owner", treeOf(partNode(1), partNode(1)), false},
		{"node 0 as a Kid", treeOf(partNode(1), partNode(0)), false},
		{"node 0 as a Kid of the last", treeOf(partNode(1, 2), leaf, partNode(0)), false},
		{"an earlier one", treeOf(partNode(2), leaf, partNode(1)), false},
		{"an earlier one that has an owner", treeOf(partNode(1, 2), leaf, partNode(1)), false},
		{"a ring", treeOf(part, partNode(2), partNode(1)), false},
		{"a ring of three", treeOf(part, partNode(2), partNode(3), partNode(1)), false},
		{"twice in one list", treeOf(partNode(1, 1), leaf), false},
		{"twice in one list, not side by side", treeOf(partNode(1, 2, 1), leaf, leaf), false},
		{"twice, in place of another", treeOf(partNode(1, 1), leaf, leaf), false},
		{"in two lists", treeOf(partNode(1, 2), partNode(2), leaf), false},
		{"in two lists of brothers", treeOf(partNode(1, 2), partNode(3), partNode(3), leaf), false},
		{"in two lists, in place of another", treeOf(partNode(1, 2), partNode(3), partNode(3), leaf, leaf), false},
		{"a place too many", treeOf(partNode(1, 2), leaf), false},
		{"a place too many, alone", treeOf(partNode(1)), false},
		{"a place far behind", treeOf(partNode(1, 9), leaf), false},
		{"a Kid of a letter", treeOf(partNode(1), impl.Node{Kind: 0, Kids: []int{2}}, leaf), false},
		{"a Kid of a letter that is not there", treeOf(partNode(1), impl.Node{Kind: 2, Kids: []int{2}}, leaf), false},
		{"a Kid of a part that is wrong", treeOf(partNode(1), impl.Node{Kind: 3, Kids: []int{2}}, leaf), false},
		{"a Kid of the last letter", treeOf(partNode(1, 2), leaf, impl.Node{Kind: 0, Kids: []int{1}}), false},
		{"a Kid that has an owner", treeOf(partNode(1, 2), impl.Node{Kind: 0, Kids: []int{2}}, leaf), false},
		{"letters alone", treeOf(leaf, leaf), false},
	} {
		if got := asShaped(t, x.tree); got != x.want {
			t.Errorf("%s: TreeShape(%v) = %v", x.name, x.tree, got)
		}
	}
}

func TestTreeShapeOfKidsThatAreNoPlaces(t *testing.T) {
	whole := treeOf(partNode(1, 2), partNode(3, 4), leafNode(0, 0), leafNode(1, 1), partNode(5), leafNode(2, 2))
	if !asShaped(t, whole) {
		t.Error("a tree", whole)
	}
	for place, node := range whole.Nodes {
		for i := range node.Kids {
			for _, kid := range append(noPlaces(5), 0, 1, 2, 3, 4, 5, 6, 7) {
				for _, change := range []func(kids []int) []int{
					func(kids []int) []int { kids[i] = kid; return kids },
					func(kids []int) []int { return append(kids, kid) },
					func(kids []int) []int { return slices.Insert(kids, 0, kid) },
				} {
					other := copyOfTree(whole)
					other.Nodes[place].Kids = change(other.Nodes[place].Kids)
					got := asShaped(t, other)
					if got != slices.Equal(other.Nodes[place].Kids, node.Kids) {
						t.Errorf("TreeShape(%v) = %v", other, got)
					}
				}
			}
		}
	}
}

func TestTreeShapeOfNoKinds(t *testing.T) {
	whole := treeOf(partNode(1, 2), partNode(3, 4), leafNode(0, 0), leafNode(1, 1), partNode())
	for place := range whole.Nodes {
		for kind := range 4 {
			other := copyOfTree(whole)
			other.Nodes[place].Kind = kind
			if got := asShaped(t, other); got != (kind == 1 || place > 1) {
				t.Errorf("TreeShape(%v) = %v", other, got)
			}
		}
		for _, kind := range noKinds() {
			other := copyOfTree(whole)
			other.Nodes[place].Kind = kind
			if asShaped(t, other) {
				t.Errorf("TreeShape(%v)", other)
			}
			if place > 0 && asShaped(t, treeOf(impl.Node{Kind: kind})) {
				t.Error("one node of kind", kind)
			}
		}
	}
}

// There are 1, 1, 3, 15 ways to put 1, 2, 3, 4 nodes into trees, each behind its owner, with Kids in order.
func TestTreeShapeOfAllSmallTrees(t *testing.T) {
	for n, want := range []int{0, 1, 1, 3, 15} {
		lists := listsOf(upTo(n), max(n-1, 0))
		if n == 4 {
			lists = slices.DeleteFunc(lists, func(l []int) bool { return len(setOf(l)) < len(l) })
		}
		met := 0
		nodes := make([]impl.Node, n)
		var fill func(place int)
		fill = func(place int) {
			if place == n {
				met += oneIf(asShaped(t, impl.Tree{Nodes: nodes}))
				return
			}
			for _, kids := range lists {
				nodes[place] = impl.Node{Kind: 1, Sym: place, Kids: kids}
				fill(place + 1)
			}
		}
		fill(0)
		if met != want {
			t.Errorf("%d trees of %d nodes, want %d", met, n, want)
		}
	}
}

func copyOfTree(t impl.Tree) impl.Tree {
	out := impl.Tree{Nodes: slices.Clone(t.Nodes)}
	for i, node := range out.Nodes {
		out.Nodes[i].Kids = slices.Clone(node.Kids)
	}
	return out
}

// randomBush has symbols of all sorts, and as many nodes as there is fuel for.
func randomBush(r *rand.Rand, fuel *int) bush {
	strange := append(noLetters(), noSymbols(3)...)
	b := bush{kind: r.Intn(4), sym: r.Intn(26), alt: r.Intn(9), at: r.Intn(11)}
	if r.Intn(10) == 0 {
		b.sym, b.alt, b.at = strange[r.Intn(len(strange))], strange[r.Intn(len(strange))], strange[r.Intn(len(strange))]
	}
	if *fuel > 5 && r.Intn(3) > 0 {
		b.kind = 1
	}
	if b.kind != 1 {
		return b
	}
	for range r.Intn(5) {
		if *fuel--; *fuel > 0 {
			b.kids = append(b.kids, randomBush(r, fuel))
		}
	}
	return b
}

// bent is a tree that differs from another one in something, most times.
func bent(r *rand.Rand, t impl.Tree) impl.Tree {
	out := copyOfTree(t)
	one, other := &out.Nodes[r.Intn(len(t.Nodes))], &out.Nodes[r.Intn(len(t.Nodes))]
	switch r.Intn(12) {
	case 0:
		one.Kind = r.Intn(6) - 1
	case 1:
		one.Sym += r.Intn(3) - 1
	case 2:
		one.Alt += r.Intn(3) - 1
	case 3:
		one.At += r.Intn(3) - 1
	case 4:
		one.At, other.At = other.At, one.At
	case 5:
		one.Kids, other.Kids = other.Kids, one.Kids
	case 6:
		*one, *other = *other, *one
	case 7:
		out.Nodes = append(out.Nodes, *one)
	case 8:
		out.Nodes = out.Nodes[:len(out.Nodes)-1]
	case 9:
		r.Shuffle(len(one.Kids), func(i, j int) { one.Kids[i], one.Kids[j] = one.Kids[j], one.Kids[i] })
	case 10:
		one.Kids = slices.Insert(one.Kids, r.Intn(len(one.Kids)+1), r.Intn(len(t.Nodes)+2))
	case 11:
		if len(one.Kids) > 0 && len(other.Kids) > 0 {
			i, j := r.Intn(len(one.Kids)), r.Intn(len(other.Kids))
			one.Kids[i], other.Kids[j] = other.Kids[j], one.Kids[i]
		}
	}
	return out
}

func TestRandomTrees(t *testing.T) {
	r := rand.New(rand.NewSource(90))
	met := make([]int, 2)
	for i := range 4000 {
		fuel := 1 + r.Intn(25)
		b := randomBush(r, &fuel)
		for _, pick := range append(picks(), r.Intn) {
			tree := laid(b, pick)
			if !asShaped(t, tree) || impl.TreeText(tree) != b.text() || !slices.Equal(impl.Yield(tree), b.yield()) {
				t.Fatalf("Yield and TreeText of %v are %v and %q", b, impl.Yield(tree), impl.TreeText(tree))
			}
			for range 1 + i%3 {
				tree = bent(r, tree)
				if len(tree.Nodes) == 0 {
					break
				}
				met[oneIf(asShaped(t, tree))]++
			}
		}
	}
	if slices.Min(met) < 5000 {
		t.Error("too few of some trees", met)
	}
}

func TestYield(t *testing.T) {
	for _, x := range []struct {
		s    string
		want string
	}{
		{"a", "a"}, {"z", "z"}, {"-a", ""}, {"!P0", ""}, {"(P0/0)", ""}, {"(P0/0 a)", "a"},
		{"(P0/0 a b c)", "abc"}, {"(P0/0 c b a)", "cba"}, {"(P0/0 a a)", "aa"},
		{"(P0/0 a (P0/1) b)", "ab"}, {"(P0/0 a (P0/0 a (P0/1) b) b)", "aabb"},
		{"(P0/0 (P1/0 a b) c (P2/0 d (P3/0) e) f)", "abcdef"},
		{"(P0/0 a -b c)", "ac"}, {"(P0/0 -a -b -c)", ""}, {"(P0/0 a !P4 -b)", "a"}, {"(P0/0 !P1 !P2)", ""},
		{"(P7/9 (P1/0 -x y) !P3 z)", "yz"}, {"(P-1/-1 a (P-5/7 b))", "ab"},
	} {
		for _, pick := range picks() {
			tree := laid(bushFrom(t, x.s), pick)
			if got := impl.Yield(tree); !asShaped(t, tree) || !slices.Equal(got, lettersOf(x.want)) {
				t.Errorf("Yield(%v) = %v, want %q", tree, got, x.want)
			}
		}
	}
	for _, x := range append(noLetters(), 0, 25) {
		tree := treeOf(partNode(2, 1), leafNode(3, 0), leafNode(x, 1))
		if got := impl.Yield(tree); !slices.Equal(got, []int{x, 3}) {
			t.Errorf("Yield(%v) = %v", tree, got)
		}
		if got := impl.Yield(treeOf(leafNode(x, x))); !slices.Equal(got, []int{x}) {
			t.Errorf("Yield of one letter, %d, is %v", x, got)
		}
	}
	for _, tree := range []impl.Tree{{}, treeOf(leafNode(1, 0), leafNode(1, 1)), treeOf(partNode(1, 1), leafNode(1, 0)), treeOf(partNode(1), leafNode(1, 0), leafNode(2, 1))} {
		if got := impl.Yield(tree); len(got) > 0 {
			t.Errorf("Yield(%v) = %v", tree, got)
		}
	}
}

func TestTreeText(t *testing.T) {
	for letter := range 26 {
		name := string(rune('a' + letter))
		tree := treeOf(partNode(1, 2), leafNode(letter, 99), impl.Node{Kind: 2, Sym: letter})
		if got, want := impl.TreeText(tree), "(P0/0 "+name+" -"+name+")"; got != want || !asShaped(t, tree) {
			t.Errorf("TreeText(%v) = %q, want %q", tree, got, want)
		}
	}
	for _, n := range append(noLetters(), 0, 9, 10, 19, 20, 123, 1000000, -9, -10) {
		digits := strconv.Itoa(n)
		tree := treeOf(impl.Node{Kind: 1, Sym: n, Alt: -n, Kids: []int{3, 1, 2}}, impl.Node{Kind: 3, Sym: n, Alt: 5, At: 7}, impl.Node{Kind: 1, Alt: n, At: 8}, impl.Node{Kind: 3, Sym: -n})
		minus := strconv.Itoa(-n)
		if got, want := impl.TreeText(tree), "(P"+digits+"/"+minus+" !P"+minus+" !P"+digits+" (P0/"+digits+"))"; got != want {
			t.Errorf("TreeText(%v) = %q, want %q", tree, got, want)
		}
	}
	for _, x := range noLetters() {
		for i, want := range []string{"?", "", "-?"} {
			tree := treeOf(impl.Node{Kind: i, Sym: x})
			if got := impl.TreeText(tree); i != 1 && got != want {
				t.Errorf("TreeText(%v) = %q, want %q", tree, got, want)
			}
		}
	}
	for _, s := range []string{
		"a", "-a", "!P0", "!P19", "!P-3", "(P0/0)", "(P19/7)", "(P-1/-2)", "(P120/35 a -b !P12)",
		"(P0/0 a (P0/1) b)", "(P0/0 a !P4 -b)", "(P0/0 (P1/1 (P2/2 (P3/3 a) b) c) d)", "(P0/0 a (P1/1 b (P2/2 c (P3/3 d))))", "(P0/0 (P1/0) (P1/1) (P1/0))",
	} {
		for _, pick := range picks() {
			if got := impl.TreeText(laid(bushFrom(t, s), pick)); got != s {
				t.Errorf("TreeText of %q = %q", s, got)
			}
		}
	}
	for _, tree := range []impl.Tree{{}, treeOf(leafNode(1, 0), leafNode(1, 1)), treeOf(partNode(1, 1), leafNode(1, 0)), treeOf(impl.Node{Kind: 4}), treeOf(partNode(0))} {
		if got := impl.TreeText(tree); got != "" {
			t.Errorf("TreeText(%v) = %q", tree, got)
		}
	}
}

// deepTree has a part in each part, with a letter ahead of it and one behind it.
func deepTree(deep int) impl.Tree {
	var t impl.Tree
	for i := range deep {
		t.Nodes = append(t.Nodes, partNode(3*i+1, 3*i+3, 3*i+2), leafNode(0, i), leafNode(1, 2*deep-1-i))
	}
	t.Nodes = append(t.Nodes, impl.Node{Kind: 1, Alt: 1})
	return t
}

func TestDeepTrees(t *testing.T) {
	g := gramFrom(t, "S = a S b | ;")
	for _, deep := range []int{0, 1, 2, 3, 5, 6, 100, 1000, 200000} {
		tree := deepTree(deep)
		w := slices.Concat(slices.Repeat([]int{0}, deep), slices.Repeat([]int{1}, deep))
		text := strings.Repeat("(P0/0 a ", deep) + "(P0/1)" + strings.Repeat(" b)", deep)
		if !impl.TreeShape(tree) || !slices.Equal(impl.Yield(tree), w) || impl.TreeText(tree) != text {
			t.Error("a deep tree of", deep)
		}
		if impl.TreeOk(g, tree, w) != (deep <= 5) || impl.TreeOk(g, tree, w[:min(deep, 9)]) != (deep == 0) {
			t.Error("TreeOk of a deep tree of", deep)
		}
		last := &tree.Nodes[len(tree.Nodes)-1]
		for _, kid := range []int{0, 3 * deep, 3*deep + 1} {
			last.Kids = []int{kid}
			if impl.TreeShape(tree) || len(impl.Yield(tree)) > 0 || impl.TreeText(tree) != "" || impl.TreeOk(g, tree, w) {
				t.Error("a deep tree of", deep, "whose last node has the Kid", kid)
			}
		}
		last.Kids, last.Kind = nil, 4
		if impl.TreeShape(tree) || len(impl.Yield(tree)) > 0 || impl.TreeText(tree) != "" {
			t.Error("a deep tree of", deep, "whose last node is of no kind")
		}
	}
}

func TestBroadTrees(t *testing.T) {
	for _, broad := range []int{1, 2, 100, 1000000} {
		tree := impl.Tree{Nodes: make([]impl.Node, broad+1)}
		var turned []int
		for i := range broad {
			tree.Nodes[i+1] = leafNode(i%26, 0)
			turned = append(turned, broad-i)
		}
		tree.Nodes[0] = partNode(turned...)
		yield := impl.Yield(tree)
		for i, x := range yield {
			if x != (broad-1-i)%26 {
				t.Fatal("Yield of a broad tree of", broad)
			}
		}
		text := impl.TreeText(tree)
		if !impl.TreeShape(tree) || len(yield) != broad || len(text) != 6+2*broad || !strings.HasSuffix(text, " a)") || impl.TreeOk(gramFrom(t, "S = a ;"), tree, []int{0}) != (broad == 1) {
			t.Error("a broad tree of", broad)
		}
		for _, kids := range [][]int{turned[1:], append(slices.Clone(turned), 1), append(slices.Clone(turned), broad+1), append(slices.Clone(turned), 0), turned[:broad-1]} {
			tree.Nodes[0].Kids = kids
			if impl.TreeShape(tree) || len(impl.Yield(tree)) > 0 || impl.TreeText(tree) != "" {
				t.Error("a broad tree of", broad, "and", len(kids), "Kids")
			}
		}
	}
}

func TestTreeOkOfGrammarsThatAreRefused(t *testing.T) {
	met := map[int]int{}
	for _, x := range refusedGrams(t) {
		if code := impl.Check(x.g); code != x.code {
			t.Errorf("Check(%v) = %d, want %d", x.g, code, x.code)
		}
		for _, s := range []string{"(P0/0 a)", "(P0/1)", "(P0/1 a)", "(P0/0)", "(P0/0 (P1/0 a))", "(P0/2 (P0/0 a))"} {
			b := bushFrom(t, s)
			met[x.code] += oneIf(b.saidBy(x.g))
			for _, w := range [][]int{b.yield(), nil, {0}} {
				if asRight(t, x.g, laid(b, fromTheLeft), w) {
					t.Errorf("TreeOk(%v, %q, %v)", x.g, s, w)
				}
			}
		}
	}
	for _, code := range []int{impl.CkBad, impl.CkLoop, impl.CkDead, impl.CkFar} {
		if met[code] < 4 {
			t.Error("too few trees of refused grammars", met)
		}
	}
}

func TestTreeOkOfInputsThatAreNotOk(t *testing.T) {
	g := gramFrom(t, "S = a S | z S | ;")
	for _, w := range append(badInputs(), make([]int, 10), slices.Repeat([]int{25}, 10), []int{0, 25, 0}, nil) {
		b := bush{kind: 1, alt: 2}
		for at, x := range slices.Backward(w) {
			b = bush{kind: 1, alt: oneIf(x == 25), kids: []bush{{sym: x, at: at}, b}}
		}
		for _, pick := range picks() {
			tree := laid(b, pick)
			if got := impl.TreeOk(g, tree, w); got != inputOkPlainly(w) || !slices.Equal(impl.Yield(tree), w) {
				t.Errorf("TreeOk of a tree of %v = %v", w, got)
			}
		}
	}
	for n := range 14 {
		w := make([]int, n)
		tree := treeFrom(t, strings.Repeat("(P0/0 a ", n)+"(P0/2)"+strings.Repeat(")", n))
		for m := range 14 {
			if got := impl.TreeOk(g, tree, make([]int, m)); got != (m == n && n <= 10) {
				t.Errorf("TreeOk of a tree of %d letters and %d letters is %v", n, m, got)
			}
		}
		if asRight(t, g, tree, w) && n > 0 {
			w[n-1] = 26
			asRight(t, g, tree, w)
		}
	}
}

func TestTreeOk(t *testing.T) {
	for _, x := range []struct {
		s, tree, w string
		want       bool
	}{
		{"S = a S b | ;", "(P0/0 a (P0/1) b)", "ab", true},
		{"S = a S b | ;", "(P0/1)", "", true},
		{"S = a S b | ;", "(P0/0 a (P0/0 a (P0/1) b) b)", "aabb", true},
		{"S = a S b | ;", "(P0/0 a (P0/1) b)", "a", false},
		{"S = a S b | ;", "(P0/0 a (P0/1) b)", "ba", false},
		{"S = a S b | ;", "(P0/0 a (P0/1) b)", "", false},
		{"S = a S b | ;", "(P0/0 a (P0/1) b)", "abb", false},
		{"S = a S b | ;", "(P0/0 a (P0/1) b)", "aabb", false},
		{"S = a S b | ;", "(P0/1)", "a", false},
		{"S = a S b | ;", "(P0/1)", "ab", false},
		{"S = a S b | ;", "(P0/0)", "", false},
		{"S = a S b | ;", "(P0/2)", "", false},
		{"S = a S b | ;", "(P0/-1)", "", false},
		{"S = a S b | ;", "(P1/1)", "", false},
		{"S = a S b | ;", "(P-1/1)", "", false},
		{"S = a S b | ;", "(P0/1 a (P0/1) b)", "ab", false},
		{"S = a S b | ;", "(P0/0 a (P0/0) b)", "ab", false},
		{"S = a S b | ;", "(P0/0 a b)", "ab", false},
		{"S = a S b | ;", "(P0/0 a (P0/1))", "a", false},
		{"S = a S b | ;", "(P0/0 (P0/1) b)", "b", false},
		{"S = a S b | ;", "(P0/0 a (P0/1) b b)", "abb", false},
		{"S = a S b | ;", "(P0/0 a a (P0/1) b)", "aab", false},
		{"S = a S b | ;", "(P0/0 a (P0/1) (P0/1) b)", "ab", false},
		{"S = a S b | ;", "(P0/0 a (P0/1) c)", "ac", false},
		{"S = a S b | ;", "(P0/0 b (P0/1) a)", "ba", false},
		{"S = a S b | ;", "(P0/0 (P0/1) a b)", "ab", false},
		{"S = a S b | ;", "(P0/0 a (P0/1 a) b)", "aab", false},
		{"S = a S b | ;", "(P0/0 a (P0/1) -b)", "a", false},
		{"S = a S b | ;", "(P0/0 a (P0/1) -b)", "ab", false},
		{"S = a S b | ;", "(P0/0 a !P0 b)", "ab", false},
		{"S = a S b | ;", "!P0", "", false},
		{"S = a S b | ;", "-a", "", false},
		{"S = a S b | ;", "a", "a", false},
		{"S = a ;", "a", "a", false},
		{"S = a ;", "(P0/0 a)", "a", true},
		{"S = a ;", "(P0/0 -a)", "", false},
		{"S = ;", "(P0/0)", "", true},
		{"S = ;", "(P0/0)", "a", false},
		{"S = ;", "(P0/0 (P0/0))", "", false},
		{"S = ;", "a", "", false},
		{"S = a | b ;", "(P0/0 a)", "a", true},
		{"S = a | b ;", "(P0/1 b)", "b", true},
		{"S = a | b ;", "(P0/1 a)", "a", false},
		{"S = a | b ;", "(P0/0 b)", "b", false},
		{"S = a | b ;", "(P0/0 a)", "b", false},
		{"S = a | b | a ;", "(P0/2 a)", "a", true},
		{"S = a | b | a ;", "(P0/0 a)", "a", true},
		{"S = T T ; T = a | U ; U = b | ;", "(P0/0 (P1/0 a) (P1/1 (P2/0 b)))", "ab", true},
		{"S = T T ; T = a | U ; U = b | ;", "(P0/0 (P1/1 (P2/1)) (P1/1 (P2/1)))", "", true},
		{"S = T T ; T = a | U ; U = b | ;", "(P0/0 (P1/1 (P2/1)) (P2/1))", "", false},
		{"S = T T ; T = a | U ; U = b | ;", "(P0/0 (P1/1 (P1/1)) (P1/1 (P2/1)))", "", false},
		{"S = T T ; T = a | U ; U = b | ;", "(P1/0 a)", "a", false},
		{"S = T T ; T = a | U ; U = b | ;", "(P2/0 b)", "b", false},
		{"S = T T ; T = a | U ; U = b | ;", "(P0/0 (P1/0 a))", "a", false},
		{"S = T T ; T = a | U ; U = b | ;", "(P0/0 (P1/0 a) !P1)", "a", false},
		{"S = T T ; T = a | U ; U = b | ;", "(P0/0 (P1/0 a) (P1/1 !P2))", "a", false},
		{"S = a b c d e f g h | ;", "(P0/0 a b c d e f g h)", "abcdefgh", true},
		{"S = a b c d e f g h | ;", "(P0/0 a b c d e f h g)", "abcdefhg", false},
		{"S = a b c d e f g h | ;", "(P0/0 a b c d e f g h)", "abcdefhg", false},
		{"S = a b c d e f g h | ;", "(P0/0 a b c d e f g)", "abcdefg", false},
		{"S = T T ; T = z y x w v ;", "(P0/0 (P1/0 z y x w v) (P1/0 z y x w v))", "zyxwvzyxwv", true},
		{"S = T T ; T = z y x w v ;", "(P0/0 (P1/0 z y x w v) (P1/0 z y x w v))", "zyxwvzyxw", false},
		{"S = T T ; T = z y x w v ;", "(P0/0 (P1/0 z y x w v) (P1/0 z y x w v))", "zyxwvzyxwz", false},
	} {
		g := gramFrom(t, x.s)
		for _, pick := range picks() {
			tree := laid(bushFrom(t, x.tree), pick)
			if got := asRight(t, g, tree, lettersOf(x.w)); got != x.want {
				t.Errorf("TreeOk(%q, %v, %q) = %v", x.s, tree, x.w, got)
			}
		}
	}
}

func TestTreeOkOfTreesWithoutShape(t *testing.T) {
	g := gramFrom(t, "S = a b | T T | ; T = a | ;")
	a, b, empty := leafNode(0, 0), leafNode(1, 1), impl.Node{Kind: 1, Sym: 1, Alt: 1}
	for _, x := range []struct {
		tree impl.Tree
		w    string
		want bool
	}{
		{treeOf(partNode(1, 2), a, b), "ab", true},
		{treeOf(partNode(2, 1), b, a), "ab", true},
		{treeOf(), "", false},
		{treeOf(partNode(1, 2), a, b, b), "ab", false},
		{treeOf(partNode(1, 2), a, b, impl.Node{Kind: 1, Alt: 2}), "ab", false},
		{treeOf(partNode(1, 2), a, b, partNode(1, 2)), "ab", false},
		{treeOf(partNode(1, 2), a, impl.Node{Kind: 0, Sym: 1, At: 1, Kids: []int{1}}), "ab", false},
		{treeOf(partNode(1, 3), a, b), "ab", false},
		{treeOf(partNode(1, -1), a, b), "ab", false},
		{treeOf(impl.Node{Kind: 1, Alt: 1, Kids: []int{1, 2}}, empty, empty), "", true},
		{treeOf(impl.Node{Kind: 1, Alt: 1, Kids: []int{1, 1}}, empty), "", false},
		{treeOf(impl.Node{Kind: 1, Alt: 1, Kids: []int{1, 1}}, empty, empty), "", false},
		{treeOf(impl.Node{Kind: 1, Alt: 2}), "", true},
		{treeOf(impl.Node{Kind: 1, Alt: 2}, impl.Node{Kind: 1, Alt: 2}), "", false},
		{treeOf(impl.Node{Kind: 4, Alt: 2}), "", false},
		{treeOf(impl.Node{Kind: -1, Alt: 2}), "", false},
	} {
		if got := asRight(t, g, x.tree, lettersOf(x.w)); got != x.want {
			t.Errorf("TreeOk(%v, %v, %q) = %v", g, x.tree, x.w, got)
		}
	}
}

// Each number of a right tree is put to others; no letter has an Alt and no part a place, so those two may be any.
func TestTreeOkOfEachNumber(t *testing.T) {
	g := gramFrom(t, "S = a T b | T d S | ; T = c T | a | | c T | U | V ; U = d ; V = e U V | e ;")
	for _, s := range []string{"(P0/0 a (P1/0 c (P1/1 a)) b)", "(P0/2)", "(P0/1 (P1/3 c (P1/2)) d (P0/1 (P1/4 (P2/0 d)) d (P0/2)))", "(P0/1 (P1/5 (P3/0 e (P2/0 d) (P3/1 e))) d (P0/0 a (P1/1 a) b))"} {
		whole := treeFrom(t, s)
		w := impl.Yield(whole)
		if !asRight(t, g, whole, w) {
			t.Errorf("TreeOk of %q and %v", s, w)
		}
		for place, node := range whole.Nodes {
			tree := copyOfTree(whole)
			changed := &tree.Nodes[place]
			for _, n := range slices.Concat(noKinds(), noLetters(), noSymbols(4), noPlaces(len(w)), upTo(12), []int{-97, -98, -99, -100, -101, math.MaxInt - 100, math.MinInt + 99}) {
				changed.Kind = n
				if asRight(t, g, tree, w) != (n == node.Kind) {
					t.Errorf("TreeOk(%v, %v, %v)", g, tree, w)
				}
				changed.Kind, changed.Sym = node.Kind, n
				if asRight(t, g, tree, w) != (n == node.Sym) {
					t.Errorf("TreeOk(%v, %v, %v)", g, tree, w)
				}
				changed.Sym, changed.Alt = node.Sym, n
				alike := node.Kind == 1 && node.Sym == 1 && n%3 == 0 && node.Alt%3 == 0 && n >= 0 && n < 4 && node.Alt < 4
				if asRight(t, g, tree, w) != (n == node.Alt || node.Kind == 0 || alike) {
					t.Errorf("TreeOk(%v, %v, %v)", g, tree, w)
				}
				changed.Alt, changed.At = node.Alt, n
				if asRight(t, g, tree, w) != (n == node.At || node.Kind == 1) {
					t.Errorf("TreeOk(%v, %v, %v)", g, tree, w)
				}
				changed.At = node.At
			}
		}
	}
}

// A node that is no letter and no part is never right, whatever its numbers are, and however the row is without it; nor is one that has the number of another's symbol.
func TestTreeOkOfOtherKinds(t *testing.T) {
	g := gramFrom(t, "S = a T b | T b S | ; T = b | ;")
	for _, s := range []string{"(P0/0 a (P1/1) b)", "(P0/0 a (P1/0 b) b)", "(P0/1 (P1/1) b (P0/2))", "(P0/1 (P1/0 b) b (P0/0 a (P1/1) b))", "(P0/2)"} {
		whole := treeFrom(t, s)
		if !asRight(t, g, whole, impl.Yield(whole)) {
			t.Errorf("TreeOk of %q", s)
		}
		for place, node := range whole.Nodes {
			for kind := range 4 {
				for _, sym := range []int{0, 1, 100, 101, 102, -100, -99, -98, node.Sym, node.Sym + 100, node.Sym - 100} {
					for alt := range 4 {
						tree := copyOfTree(whole)
						tree.Nodes[place] = impl.Node{Kind: kind, Sym: sym, Alt: alt, At: node.At}
						if len(node.Kids) > 0 || node.Kind == kind && node.Sym == sym {
							continue
						}
						yield := impl.Yield(tree)
						leaves := 0
						for i := range tree.Nodes {
							if tree.Nodes[i].Kind == 0 {
								tree.Nodes[i].At = leaves
								leaves++
							}
						}
						for _, w := range [][]int{yield, impl.Yield(whole), nil} {
							if asRight(t, g, tree, w) {
								t.Errorf("TreeOk(%v, %v, %v)", g, tree, w)
							}
						}
					}
				}
			}
		}
	}
}

func TestTreeOkOfPlacesOfLeaves(t *testing.T) {
	g := gramFrom(t, "S = a S | ;")
	for n := range 11 {
		w := make([]int, n)
		b := bushFrom(t, strings.Repeat("(P0/0 a ", n)+"(P0/1)"+strings.Repeat(")", n))
		for _, pick := range picks() {
			whole := laid(b, pick)
			var leaves []int
			for place, node := range whole.Nodes {
				if node.Kind == 0 {
					leaves = append(leaves, place)
				}
			}
			for i, one := range leaves {
				for _, other := range leaves[:i] {
					tree := copyOfTree(whole)
					tree.Nodes[one].At, tree.Nodes[other].At = tree.Nodes[other].At, tree.Nodes[one].At
					if asRight(t, g, tree, w) {
						t.Errorf("TreeOk of %v, with two places exchanged", tree)
					}
					tree.Nodes[one].At = tree.Nodes[other].At
					if asRight(t, g, tree, w) {
						t.Errorf("TreeOk of %v, with one place twice", tree)
					}
				}
			}
			for _, by := range []int{-1, 1} {
				tree := copyOfTree(whole)
				for _, place := range leaves {
					tree.Nodes[place].At += by
				}
				if asRight(t, g, tree, w) != (n == 0) {
					t.Errorf("TreeOk of %v, with all places moved", tree)
				}
			}
		}
	}
	// The places go by where a leaf stands in the tree, not by where its node lies.
	two := gramFrom(t, "S = a a ;")
	if !asRight(t, two, treeOf(partNode(2, 1), leafNode(0, 1), leafNode(0, 0)), []int{0, 0}) || asRight(t, two, treeOf(partNode(2, 1), leafNode(0, 0), leafNode(0, 1)), []int{0, 0}) {
		t.Error("Kids that are not in the order of their places")
	}
}

// growth makes the bush of a way, as choicesOf tells it.
type growth struct {
	g   impl.Gram
	way []int
	at  int
}

func (x *growth) part(k int) bush {
	b := bush{kind: 1, sym: k, alt: x.way[0]}
	x.way = x.way[1:]
	for _, s := range x.g.Parts[k][b.alt] {
		if s >= 100 {
			b.kids = append(b.kids, x.part(s-100))
			continue
		}
		b.kids = append(b.kids, bush{sym: s, at: x.at})
		x.at++
	}
	return b
}

func bushBy(g impl.Gram, way []int) bush {
	x := growth{g: g, way: way}
	return x.part(0)
}

// rightTrees are the texts of the trees of an input, a tree for each way, and their bushes; false, where there are too many.
func rightTrees(t *testing.T, g impl.Gram, w []int) (map[string]bush, bool) {
	t.Helper()
	fuel := 20000
	ways, all := choicesOf(g, []int{100}, w, &fuel)
	out := map[string]bush{}
	for _, way := range ways {
		b := bushBy(g, way)
		out[b.text()] = b
	}
	if all && len(out) != len(ways) {
		t.Fatalf("%d trees of %v by %d ways", len(out), w, len(ways))
	}
	return out, all
}

// hasTrees holds TreeOk against the trees that there are, one by one, and tells how many.
func hasTrees(t *testing.T, r *rand.Rand, g impl.Gram, w []int) int {
	t.Helper()
	right, all := rightTrees(t, g, w)
	if !all {
		return -1
	}
	if n := impl.Ways(g, w, 1000); n != min(len(right), 1000) {
		t.Fatalf("%d trees of %v and %v, but Ways is %d", len(right), g, w, n)
	}
	texts := slices.Sorted(maps.Keys(right))
	for i, text := range texts[:min(len(texts), 20)] {
		tree := laid(right[text], append(picks(), r.Intn)[i%4])
		if !asRight(t, g, tree, w) || impl.TreeText(tree) != text {
			t.Fatalf("TreeOk(%v, %v, %v) = false, but it is right", g, tree, w)
		}
		near := nearTo(w)
		if other := near[r.Intn(len(near))]; asRight(t, g, tree, other) {
			t.Fatalf("TreeOk(%v, %v, %v), but it is a tree of %v", g, tree, other, w)
		}
		for range 5 {
			tree = bent(r, tree)
			if len(tree.Nodes) == 0 {
				break
			}
			if _, is := right[impl.TreeText(tree)]; asRight(t, g, tree, w) && !is {
				t.Fatalf("TreeOk(%v, %v, %v), but it is none of %v", g, tree, w, texts)
			}
		}
	}
	return len(right)
}

// Promise 9: a right tree says why a row belongs to its grammar.
func TestARightTreeSaysWhyARowBelongs(t *testing.T) {
	r := rand.New(rand.NewSource(91))
	met := make([]int, 4)
	inputs := listsOf([]int{0, 1}, 3)
	for _, g := range smallChecked() {
		for _, w := range inputs {
			n := hasTrees(t, r, g, w)
			if n < 0 || impl.Accepts(g, w) != (n > 0) {
				t.Fatalf("%d trees of %v and %v", n, g, w)
			}
			met[min(n, 3)]++
		}
	}
	if slices.Min(met) < 100 {
		t.Error("too few of some trees", met)
	}
}

// Of all trees of at most three nodes that have a shape just those are right that a way makes.
func TestNoOtherTreeIsRight(t *testing.T) {
	inputs := listsOf([]int{0, 1}, 2)
	lists := [][]int{nil, {1}, {2}, {1, 2}, {2, 1}}
	for _, s := range []string{"S = a | b S | ;", "S = a b | b a | a | ;", "S = T T | T ; T = a | b | ;", "S = a T | T | b ; T = a | ;", "S = T T T | T b | T ; T = b | ;"} {
		g := gramFrom(t, s)
		met := map[string]int{}
		var fill func(tree impl.Tree, n int)
		fill = func(tree impl.Tree, n int) {
			if n > 0 {
				for i := range 16 * len(lists) {
					node := impl.Node{Kind: i & 1, Sym: i >> 1 & 1, Alt: i >> 2 & 1, At: i >> 2 & 1 * (1 - i&1), Kids: lists[i>>4]}
					if i>>3&1 == 1 {
						node.Alt += 2 * node.Kind
					}
					fill(treeOf(append(tree.Nodes[:len(tree.Nodes):len(tree.Nodes)], node)...), n-1)
				}
				return
			}
			if !impl.TreeShape(tree) {
				return
			}
			for _, w := range inputs {
				if impl.TreeOk(g, tree, w) {
					met[fmt.Sprint(w, impl.TreeText(tree))]++
				}
			}
		}
		for n := range 4 {
			fill(impl.Tree{}, n)
		}
		want := map[string]int{}
		for _, w := range inputs {
			right, all := rightTrees(t, g, w)
			if !all {
				t.Fatal("too many trees", s, w)
			}
			for text, b := range right {
				if n := len(laid(b, firstMade).Nodes); n <= 3 {
					want[fmt.Sprint(w, text)]++
				}
			}
		}
		if !slices.Equal(slices.Sorted(maps.Keys(met)), slices.Sorted(maps.Keys(want))) || len(want) < 3 {
			t.Errorf("the right trees of %q are %v, want %v", s, met, want)
		}
	}
}

func TestTreesOfRandomGrammars(t *testing.T) {
	r := rand.New(rand.NewSource(92))
	met := map[int]int{}
	for i := range 1500 {
		g := randomChecked(r, 1+i%6, 1+i%4, 2+i%3, 2)
		for range 5 {
			w, way := sampleBy(r, g, []int{100})
			if len(w) > 10 {
				continue
			}
			tree := laid(bushBy(g, way), append(picks(), r.Intn)[i%4])
			if !asRight(t, g, tree, w) {
				t.Fatalf("TreeOk(%v, %v, %v), by the way %v", g, tree, w, way)
			}
			met[min(hasTrees(t, r, g, w), 3)]++
		}
	}
	if met[1] < 1000 || met[2] < 100 || met[3] < 100 {
		t.Error("too few of some trees", met)
	}
}

func TestTreesOfGreatGrammars(t *testing.T) {
	r := rand.New(rand.NewSource(93))
	met := make([]int, 2)
	for range 60 {
		g := greatGram(r, func(rows [][]int) { rows[7] = []int{r.Intn(2)} })
		for range 20 {
			w, way := sampleBy(r, g, []int{100})
			if len(w) > 10 {
				continue
			}
			tree := laid(bushBy(g, way), r.Intn)
			for range 10 {
				met[oneIf(asRight(t, g, tree, w))]++
				tree = bent(r, laid(bushBy(g, way), r.Intn))
			}
		}
	}
	if slices.Min(met) < 500 {
		t.Error("too few of some trees", met)
	}
}

// guardedTree is a tree whose lists all have spare room behind them, so that a write into any of them shows.
type guardedTree struct {
	tree  impl.Tree
	nodes []impl.Node // with the room behind them
	kids  []*guarded
	want  []impl.Node
}

func sameNode(a, b impl.Node) bool {
	return a.Kind == b.Kind && a.Sym == b.Sym && a.Alt == b.Alt && a.At == b.At && slices.Equal(a.Kids, b.Kids)
}

func sameTree(a, b impl.Tree) bool { return slices.EqualFunc(a.Nodes, b.Nodes, sameNode) }

func guardTree(t impl.Tree) *guardedTree {
	out := &guardedTree{}
	for _, node := range t.Nodes {
		kept := guard("the Kids of a node", node.Kids)
		node.Kids = kept.list
		out.kids = append(out.kids, kept)
		out.nodes = append(out.nodes, node)
	}
	spare := impl.Node{Kind: guardSpare, Kids: []int{guardSpare}}
	out.nodes = append(out.nodes, spare, spare)
	out.want = copyOfTree(impl.Tree{Nodes: out.nodes}).Nodes
	out.tree.Nodes = out.nodes[:len(t.Nodes)]
	return out
}

func (x *guardedTree) unchanged(t *testing.T, call string) {
	t.Helper()
	if !slices.EqualFunc(x.nodes, x.want, sameNode) {
		t.Fatalf("%s wrote into a tree: %v became %v", call, x.want, x.nodes)
	}
	for _, kids := range x.kids {
		kids.unchanged(t, call)
	}
}

func TestTreesAreAskedWithoutWriting(t *testing.T) {
	r := rand.New(rand.NewSource(94))
	calls := []struct {
		name string
		tell func(g impl.Gram, tree impl.Tree, w []int) string
	}{
		{"TreeShape", func(g impl.Gram, tree impl.Tree, w []int) string { return fmt.Sprint(impl.TreeShape(tree)) }},
		{"Yield", func(g impl.Gram, tree impl.Tree, w []int) string { return fmt.Sprint(impl.Yield(tree)) }},
		{"TreeOk", func(g impl.Gram, tree impl.Tree, w []int) string { return fmt.Sprint(impl.TreeOk(g, tree, w)) }},
		{"TreeText", func(g impl.Gram, tree impl.Tree, w []int) string { return impl.TreeText(tree) }},
	}
	for i := range 1000 {
		plain := randomChecked(r, 5, 3, 3, 2)
		input, way := sampleBy(r, plain, []int{100})
		whole := treeOf(partNode(2, 1), leafNode(26, -4), partNode())
		if way != nil {
			whole = laid(bushBy(plain, way), r.Intn)
		}
		if i%3 == 0 {
			whole = bent(r, whole)
		}
		if i%10 == 0 {
			plain.Parts[0][0] = []int{0, 99}
		}
		for _, x := range calls {
			g, tree, w := guardGram(plain), guardTree(whole), guard("an input", input)
			told := x.tell(g.gram, tree.tree, w.list)
			again := x.tell(g.gram, tree.tree, w.list)
			g.unchanged(t, x.name)
			tree.unchanged(t, x.name)
			w.unchanged(t, x.name)
			if told != again || told != x.tell(copyOfGram(plain), copyOfTree(whole), slices.Clone(input)) {
				t.Fatalf("%s of %v, %v and %v tells %q and then something else", x.name, plain, whole, input, told)
			}
		}
	}
}

func TestYieldIsNewMemory(t *testing.T) {
	r := rand.New(rand.NewSource(95))
	for range 1000 {
		fuel := 1 + r.Intn(40)
		whole := laid(randomBush(r, &fuel), r.Intn)
		tree := guardTree(whole)
		first, again := impl.Yield(tree.tree), impl.Yield(tree.tree)
		if !slices.Equal(first, again) {
			t.Fatalf("Yield(%v) is %v and then %v", whole, first, again)
		}
		apart(t, "Yield, twice", []memory{memoryOf(first), memoryOf(again)})
		ownMemory(t, "Yield", first, tree.kids...)
		tree = guardTree(whole)
		told := impl.TreeText(tree.tree)
		for _, list := range tree.kids {
			copy(list.array, make([]int, len(list.array)))
		}
		copy(tree.nodes, make([]impl.Node, len(tree.nodes)))
		if told != impl.TreeText(whole) {
			t.Fatalf("TreeText(%v) changed to %q with its argument", whole, told)
		}
	}
}
