package tree_test

import (
	"math"
	"slices"
	"strings"
	"testing"

	"bonsai/api"
	"bonsai/tree"
)

// P4.1: Fits, held against the table's words, of whatever a node may have.
func TestFits(t *testing.T) {
	texts := []string{"", "a", "_", "Z9", "1a", "a-b", "a b", "\x00", "\u00e9", "\xff", strings.Repeat("n", 32), strings.Repeat("n", 33), strings.Repeat("t", 255), strings.Repeat("t", 256), strings.Repeat("-", 255), strings.Repeat("\xff", 256)}
	nums := []int{math.MinInt, -100, -2, -1, 0, 1, 2, 50, 98, 99, 100, 1 << 32, math.MaxInt}
	for _, kind := range []uint8{0, 1, 2, 3, 4, 5, 6, 7, 8, 9, 10, 11, 128, 255} {
		for _, set := range []api.Bytes{{}, some, allOf, {0, 0, 0, 1}} {
			for _, text := range texts {
				for _, least := range nums {
					for _, most := range nums {
						n := api.Node{Kind: kind, Set: set, Text: text, Min: least, Max: most}
						for _, kids := range []int{math.MinInt, -1, 0, 1, 2, 3, math.MaxInt} {
							if got, want := tree.Fits(n, kids), fits(n, kids); got != want {
								t.Fatalf("Fits(%v, %d) = %v", n, kids, got)
							}
						}
					}
				}
			}
		}
	}
}

// P4.1: how many kids each kind has, written out: too few, the ends, and too many.
func TestFitsKids(t *testing.T) {
	for _, c := range []struct {
		node        api.Node
		least, most int
	}{
		{api.Node{Kind: api.Empty}, 0, 0}, {api.Node{Kind: api.Set, Set: some}, 0, 0}, {api.Node{Kind: api.Text, Text: "a-b"}, 0, 0}, {api.Node{Kind: api.Rule, Text: "a"}, 0, 0},
		{api.Node{Kind: api.Seq}, 2, 5000}, {api.Node{Kind: api.Choice}, 2, 5000},
		{api.Node{Kind: api.Rep, Min: 2, Max: 3}, 1, 1}, {api.Node{Kind: api.And}, 1, 1}, {api.Node{Kind: api.Not}, 1, 1}, {api.Node{Kind: api.Cap, Text: "a"}, 1, 1},
	} {
		for n := -3; n <= 5000; n++ {
			if got, want := tree.Fits(c.node, n), c.least <= n && n <= c.most; got != want {
				t.Errorf("Fits(%v, %d) = %v", c.node, n, got)
			}
		}
	}
}

// P4.1: a Rep's numbers, all that are about the ends.
func TestFitsNumbers(t *testing.T) {
	for least := -5; least <= 105; least++ {
		for most := -5; most <= 105; most++ {
			want := 0 <= least && least <= 99 && (most == -1 || least <= most && most <= 99)
			if got := tree.Fits(api.Node{Kind: api.Rep, Min: least, Max: most}, 1); got != want {
				t.Errorf("Fits of a Rep %d, %d = %v", least, most, got)
			}
		}
	}
}

// P4.1: texts and names that may be, and that may not.
func TestFitsTexts(t *testing.T) {
	for n := range 300 {
		for _, piece := range []string{"a", "\x00", "\xff", " ", "7"} {
			s := strings.Repeat(piece, n)
			if got, want := tree.Fits(api.Node{Kind: api.Text, Text: s}, 0), 1 <= n && n <= 255; got != want {
				t.Errorf("Fits of Text %q = %v", s, got)
			}
			want := piece == "a" && 1 <= n && n <= 32
			if a, b := tree.Fits(api.Node{Kind: api.Rule, Text: s}, 0), tree.Fits(api.Node{Kind: api.Cap, Text: s}, 1); a != want || b != want {
				t.Errorf("Fits of Rule, Cap %q = %v, %v", s, a, b)
			}
		}
	}
	for b := range 256 {
		for _, s := range []string{string([]byte{byte(b)}), "a" + string([]byte{byte(b)}), string([]byte{byte(b)}) + "a", "a" + string([]byte{byte(b)}) + "b"} {
			want := nameForm.MatchString(s)
			if a, b := tree.Fits(api.Node{Kind: api.Rule, Text: s}, 0), tree.Fits(api.Node{Kind: api.Cap, Text: s}, 1); a != want || b != want || !tree.Fits(api.Node{Kind: api.Text, Text: s}, 0) {
				t.Errorf("Fits of Rule, Cap, Text %q", s)
			}
		}
	}
}

// P4.1: a node's Kids are not looked at by Fits, nor by Of.
func TestKidsNotLookedAt(t *testing.T) {
	for _, kids := range [][]int{nil, {}, {0}, {-1, 9}, {7, 7, 7}, make([]int, 100)} {
		for _, p := range plants() {
			n := p.node
			n.Kids = kids
			if !tree.Fits(n, len(p.kids)) {
				t.Errorf("no Fits(%v, %d)", n, len(p.kids))
			}
			var l []api.Tree
			for _, k := range p.kids {
				l = append(l, k.clean())
			}
			if got, is := tree.Of(n, l); !is || !sameTree(got, p.clean()) {
				t.Errorf("Of(%v) = %v, %v", n, got, is)
			}
		}
		for _, c := range unfit() {
			c.node.Kids = kids
			if tree.Fits(c.node, c.kids) {
				t.Errorf("%s, with Kids %v: it fits", c.why, kids)
			}
		}
	}
}

// P4.1: what does not fit, for one thing alone, fits not, is not right, and is not made.
func TestUnfit(t *testing.T) {
	for _, c := range unfit() {
		if tree.Fits(c.node, c.kids) {
			t.Errorf("%s: it fits", c.why)
		}
		l := slices.Repeat([]api.Tree{ab.clean()}, c.kids)
		if got, is := tree.Of(c.node, l); is || !sameTree(got, api.Tree{}) {
			t.Errorf("%s: Of = %v, %v", c.why, got, is)
		}
	}
}

// P4.1, P4.2: arenas that are not right, each for one thing alone.
func TestWrong(t *testing.T) {
	for _, c := range wrongs() {
		if right(c.tree) {
			t.Errorf("%s: the words say it is right", c.why)
		}
		tellsNothing(t, c.why, c.tree)
	}
}

// tellsNothing asks each call of a tree that is not right.
func tellsNothing(t *testing.T, why string, x api.Tree) {
	t.Helper()
	if tree.Right(x) || tree.May(x) {
		t.Errorf("%s: right %v, it may be %v", why, tree.Right(x), tree.May(x))
	}
	if c := tree.Clean(x); !sameTree(c, api.Tree{}) {
		t.Errorf("%s: Clean = %v", why, c)
	}
	good := ab.clean()
	if tree.Same(x, x) || tree.Same(x, good) || tree.Same(good, x) || tree.Same(x, api.Tree{}) || tree.Same(api.Tree{}, x) {
		t.Errorf("%s: it is the same", why)
	}
	if n, d := tree.Size(x), tree.Depth(x); n != 0 || d != 0 {
		t.Errorf("%s: Size %d, Depth %d", why, n, d)
	}
	if w, k := tree.Walk(x), tree.Kids(x); len(w) != 0 || len(k) != 0 {
		t.Errorf("%s: Walk = %v, Kids = %v", why, w, k)
	}
	for n := -2; n < len(x.Nodes)+2; n++ {
		if s, is := tree.Sub(x, n); is || !sameTree(s, api.Tree{}) {
			t.Errorf("%s: Sub(%d) = %v, %v", why, n, s, is)
		}
	}
	if r := tree.Root(x); !sameNode(r, api.Node{}) {
		t.Errorf("%s: Root = %v", why, r)
	}
	for _, kids := range [][]api.Tree{{x}, {x, good}, {good, x}, {good, x, good}, {x, x}} {
		kind := uint8(api.Seq)
		if len(kids) == 1 {
			kind = api.Not
		}
		if o, is := tree.Of(api.Node{Kind: kind}, kids); is || !sameTree(o, api.Tree{}) {
			t.Errorf("%s: Of = %v, %v", why, o, is)
		}
	}
}

// tellsAll asks each call of a tree that is right, whose plant, and row, are known.
func tellsAll(t *testing.T, x api.Tree, p plant, row []int) {
	t.Helper()
	size, depth, clean := p.size(), p.depth(), p.clean()
	if !tree.Right(x) || tree.May(x) != (size <= maxNodes && depth <= maxDepth) {
		t.Fatalf("%v: right %v, it may be %v", x, tree.Right(x), tree.May(x))
	}
	if c := tree.Clean(x); !sameTree(c, clean) {
		t.Fatalf("Clean(%v) = %v, not %v", x, c, clean)
	}
	if !tree.Same(x, x) || !tree.Same(x, clean) || !tree.Same(clean, x) {
		t.Fatalf("%v is not the same", x)
	}
	if n, d := tree.Size(x), tree.Depth(x); n != size || d != depth {
		t.Fatalf("%v: Size %d, Depth %d, not %d, %d", x, n, d, size, depth)
	}
	if w := tree.Walk(x); !slices.Equal(w, row) {
		t.Fatalf("Walk(%v) = %v, not %v", x, w, row)
	}
	for i, q := range p.all() {
		if s, is := tree.Sub(x, row[i]); !is || !sameTree(s, q.clean()) {
			t.Fatalf("Sub(%v, %d) = %v, %v", x, row[i], s, is)
		}
	}
	for _, n := range []int{math.MinInt, -1, size, size + 1, 1 << 32, math.MaxInt} {
		if s, is := tree.Sub(x, n); is || !sameTree(s, api.Tree{}) {
			t.Fatalf("Sub(%v, %d) = %v, %v", x, n, s, is)
		}
	}
	var kids []api.Tree
	for _, k := range p.kids {
		kids = append(kids, k.clean())
	}
	if k := tree.Kids(x); !sameTrees(k, kids) {
		t.Fatalf("Kids(%v) = %v", x, k)
	}
	if r := tree.Root(x); !sameNode(r, p.node) {
		t.Fatalf("Root(%v) = %v", x, r)
	}
	// P4.3: each tree that is right is made of its Root and its Kids.
	if o, is := tree.Of(tree.Root(x), tree.Kids(x)); !is || !sameTree(o, clean) {
		t.Fatalf("of the Root and Kids of %v: %v, %v", x, o, is)
	}
}

// P4.1, P4.2: each call, of each sample, clean, and strewn in other arenas.
func TestRightOnes(t *testing.T) {
	r := numbers(2)
	strewn := 0
	for _, p := range plants() {
		clean := p.clean()
		var row []int
		for at := range p.all() {
			row = append(row, placeInClean(p, at))
		}
		tellsAll(t, clean, p, row)
		for range 5 {
			x, row := p.strewn(&r)
			if !sameTree(x, clean) {
				strewn++
			}
			tellsAll(t, x, p, row)
		}
	}
	if strewn < 100 {
		t.Errorf("but %d arenas are not clean", strewn)
	}
}

// placeInClean tells the number of a node in the clean arena by its place in the row: all ahead of it there stand ahead, but those it stands within; and all within it.
func placeInClean(p plant, at int) int {
	all := p.all()
	n := all[at].size() - 1
	for i := range at {
		if i+all[i].size() <= at {
			n++
		}
	}
	return n
}

// P4.1, P4.2: each arena of up to four nodes with two kids at most, whose kinds are as their Kids ask, held against the words.
func TestAllSmallArenas(t *testing.T) {
	rightOnes := 0
	check := func(x api.Tree) {
		if !right(x) {
			tellsNothing(t, "small", x)
			return
		}
		rightOnes++
		p := grown(x, x.Root)
		var row []int
		var down func(int)
		down = func(n int) {
			row = append(row, n)
			for _, k := range x.Nodes[n].Kids {
				down(k)
			}
		}
		down(x.Root)
		tellsAll(t, x, p, row)
	}
	var build func(nodes []api.Node, more int, lists [][]int, roots []int)
	build = func(nodes []api.Node, more int, lists [][]int, roots []int) {
		if more == 0 {
			for _, root := range roots {
				check(api.Tree{Nodes: nodes, Root: root})
			}
			return
		}
		for _, l := range lists {
			build(append(nodes[:len(nodes):len(nodes)], api.Node{Kind: []uint8{0, 8, 4}[len(l)], Kids: l}), more-1, lists, roots)
		}
	}
	build(nil, 0, nil, []int{-1, 0, 1})
	build(nil, 1, lists(-1, 2, 2), []int{-1, 0, 1})
	build(nil, 2, lists(-1, 2, 2), []int{-1, 0, 1, 2})
	build(nil, 3, lists(-1, 2, 2), []int{0, 1, 2, 3})
	build(nil, 4, lists(0, 3, 2), []int{3})
	// Trees of nodes with two kids at most, numbered falling from the root on: 1, 1, 3 and 9.
	if rightOnes != 14 {
		t.Errorf("%d of them are right", rightOnes)
	}
}

// lists tells all lists of numbers between two, of so many at most.
func lists(from, to, most int) [][]int {
	all, last := [][]int{nil}, [][]int{nil}
	for range most {
		var next [][]int
		for _, l := range last {
			for n := from; n <= to; n++ {
				next = append(next, append(slices.Clone(l), n))
			}
		}
		all, last = append(all, next...), next
	}
	return all
}

// P4.1: the leaves; of what may not be there: it is not right.
func TestLeaves(t *testing.T) {
	leaf := func(got api.Tree, p plant) {
		if !sameTree(got, p.clean()) || !tree.Right(got) || !tree.May(got) || tree.Size(got) != 1 {
			t.Errorf("a leaf: %v, not %v", got, p.clean())
		}
	}
	leaf(tree.Empty(), empty())
	for _, s := range []api.Bytes{{}, some, allOf, {1}, {0, 0, 0, 1 << 63}} {
		leaf(tree.Set(s), set(s))
	}
	for _, s := range []string{"a", "ab", "1", "-", "\x00", "\n", "\xff", strings.Repeat("t", 255)} {
		leaf(tree.Text(s), text(s))
	}
	for _, s := range []string{"a", "_", "Z9", strings.Repeat("n", 32)} {
		leaf(tree.Rule(s), rule(s))
	}
	for _, s := range []string{"", strings.Repeat("t", 256), strings.Repeat("t", 1<<20)} {
		tellsNothing(t, "Text", tree.Text(s))
	}
	for _, s := range []string{"", "1", "1a", "a-b", "a ", "\u00e9", "\xff", strings.Repeat("n", 33), strings.Repeat("n", 1<<20)} {
		tellsNothing(t, "Rule", tree.Rule(s))
	}
}

// P4.1: so many nodes, and so many one within the other, as may be; and one more.
func TestLimits(t *testing.T) {
	r := numbers(3)
	for _, c := range []struct {
		what string
		p    plant
		may  bool
	}{
		{"MaxNodes", seq(many(1023)...), true}, {"one more node", seq(many(1024)...), false}, {"one less", choice(many(1022)...), true}, {"far more", choice(many(4000)...), false},
		{"MaxDepth", nots(31, empty()), true}, {"one deeper", nots(32, empty()), false}, {"one less deep", nots(30, text("a")), true}, {"a hundred Nots", nots(100, empty()), false},
		{"both", seq(append(many(1024-32), nots(30, rule("x")))...), true}, {"both, one more node", seq(append(many(1025-32), nots(30, rule("x")))...), false}, {"both, one deeper", seq(append(many(1024-33), nots(31, rule("x")))...), false},
		{"the last kid but one is deep", seq(nots(31, empty()), empty()), false}, {"of two the first one is as deep as may be", seq(nots(30, empty()), nots(3, empty())), true},
		{"through all kinds", rep(0, 1, capture("c", and(choice(nots(26, ab), ab)))), true}, {"through all kinds, one deeper", rep(0, 1, capture("c", and(choice(ab, nots(27, ab))))), false},
	} {
		clean := c.p.clean()
		strewn, row := c.p.strewn(&r)
		if tree.May(clean) != c.may || tree.May(strewn) != c.may || !tree.Right(clean) {
			t.Errorf("%s: it may be: %v, %v; right: %v", c.what, tree.May(clean), tree.May(strewn), tree.Right(clean))
		}
		tellsAll(t, strewn, c.p, row)
	}
}

// The chapter's examples.
func TestExamples(t *testing.T) {
	a, b := api.Node{Kind: api.Text, Text: "a"}, api.Node{Kind: api.Rule, Text: "b"}
	made, is := tree.Of(api.Node{Kind: api.Seq}, []api.Tree{tree.Text("a"), tree.Rule("b")})
	if want := arena(2, a, b, api.Node{Kind: api.Seq, Kids: []int{0, 1}}); !is || !sameTree(made, want) {
		t.Errorf("a Seq of \"a\" and b: %v, %v", made, is)
	}
	turned := arena(2, b, a, api.Node{Kind: api.Seq, Kids: []int{1, 0}})
	if !tree.Right(turned) || !sameTree(tree.Clean(turned), made) || sameTree(turned, made) || !tree.Same(turned, made) {
		t.Errorf("turned about: Clean = %v", tree.Clean(turned))
	}
	if w := tree.Walk(turned); !slices.Equal(w, []int{2, 1, 0}) {
		t.Errorf("Walk = %v", w)
	}
	for _, x := range []api.Tree{
		arena(1, a, api.Node{Kind: api.Seq, Kids: []int{0}}),
		arena(1, a, api.Node{Kind: api.Rep, Min: 2, Max: 1, Kids: []int{0}}),
		arena(3, a, api.Node{Kind: api.Not, Kids: []int{0}}, api.Node{Kind: api.Not, Kids: []int{0}}, api.Node{Kind: api.Seq, Kids: []int{1, 2}}),
	} {
		tellsNothing(t, "an example", x)
	}
	if x := nots(100, empty()).clean(); !tree.Right(x) || tree.May(x) {
		t.Errorf("a hundred Nots: right %v, it may be %v", tree.Right(x), tree.May(x))
	}
}
