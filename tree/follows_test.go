package tree_test

import (
	"reflect"
	"slices"
	"strings"
	"testing"
	"unsafe"

	"bonsai/api"
	"bonsai/tree"
)

// P4.1, P4.3: what Of made is clean, and its Root and its Kids are what was handed in, clean or not.
func TestOfThereAndBack(t *testing.T) {
	r := numbers(4)
	l := plants()
	for range 400 {
		var handed, clean []api.Tree
		var kids []plant
		for range r.next(6) {
			p := l[r.next(len(l))]
			x, _ := p.strewn(&r)
			kids, handed, clean = append(kids, p), append(handed, x), append(clean, p.clean())
		}
		for _, n := range []api.Node{
			{}, {Kind: 1, Set: some}, {Kind: 2, Text: "a-b"}, {Kind: 3, Text: "a"}, {Kind: 4}, {Kind: 5}, {Kind: 6, Min: 2, Max: 9}, {Kind: 7}, {Kind: 8}, {Kind: 9, Text: "n"}, {Kind: 10}, {Kind: 6, Max: 100}, {Kind: 4, Min: 1},
		} {
			got, is := tree.Of(n, handed)
			if !fits(n, len(kids)) {
				if is || !sameTree(got, api.Tree{}) {
					t.Errorf("Of(%v, %d kids) = %v, %v", n, len(kids), got, is)
				}
				continue
			}
			if !is || !sameTree(got, node(n, kids...).clean()) || !sameTree(got, tree.Clean(got)) {
				t.Errorf("Of(%v, %v) = %v, %v", n, handed, got, is)
			}
			if back := tree.Root(got); !sameNode(back, n) {
				t.Errorf("the Root of what is made of %v: %v", n, back)
			}
			if back := tree.Kids(got); !sameTrees(back, clean) || !slices.EqualFunc(back, handed, tree.Same) {
				t.Errorf("the Kids of what is made of %v: %v", handed, back)
			}
		}
	}
}

// P4.1: one tree may be handed in as several kids.
func TestOfTheSameKids(t *testing.T) {
	one := ab.clean()
	got, is := tree.Of(api.Node{Kind: api.Choice}, []api.Tree{one, one, one})
	if !is || !sameTree(got, choice(ab, ab, ab).clean()) {
		t.Errorf("Of one, thrice: %v, %v", got, is)
	}
	p := ab
	for range 12 {
		one, is = tree.Of(api.Node{Kind: api.Seq}, []api.Tree{one, one})
		p = seq(p, p)
		if !is || tree.Size(one) != p.size() || tree.Depth(one) != p.depth() {
			t.Fatalf("Of one, twice: Size %d, Depth %d, %v", tree.Size(one), tree.Depth(one), is)
		}
	}
	if !sameTree(one, p.clean()) {
		t.Error("Of one, twice, again and again")
	}
}

// P4.4: Walk tells each number once, the root first, and a kid behind its node, the first kid's row first.
func TestWalk(t *testing.T) {
	r := numbers(5)
	for _, p := range plants() {
		x, _ := p.strewn(&r)
		w := tree.Walk(x)
		at := map[int]int{}
		for i, n := range w {
			at[n] = i
		}
		if len(w) != len(x.Nodes) || len(at) != len(w) || w[0] != x.Root {
			t.Errorf("Walk(%v) = %v", x, w)
		}
		for n, node := range x.Nodes {
			if _, is := at[n]; !is {
				t.Errorf("Walk(%v) is without %d", x, n)
			}
			next := at[n] + 1
			for _, k := range node.Kids {
				s, _ := tree.Sub(x, k)
				if at[k] != next {
					t.Errorf("Walk(%v): %d stands at %d, not %d", x, k, at[k], next)
				}
				next += len(s.Nodes)
			}
		}
	}
}

// P4.5: the Size is 1 and the kids' Sizes, the Depth 1 and the greatest of the kids' Depths.
func TestSizes(t *testing.T) {
	r := numbers(6)
	for _, p := range plants() {
		x, _ := p.strewn(&r)
		for n := range x.Nodes {
			s, _ := tree.Sub(x, n)
			size, depth := 0, 0
			for _, k := range tree.Kids(s) {
				size += tree.Size(k)
				depth = max(depth, tree.Depth(k))
			}
			if tree.Size(s) != size+1 || tree.Depth(s) != depth+1 {
				t.Errorf("%v: Size %d, Depth %d, its kids' %d, %d", s, tree.Size(s), tree.Depth(s), size, depth)
			}
		}
	}
}

// P4.6: what is clean is right, has each node behind all within its kids, and is clean again the same.
func TestClean(t *testing.T) {
	r := numbers(7)
	for _, p := range plants() {
		x, _ := p.strewn(&r)
		c := tree.Clean(x)
		if !tree.Right(c) || !tree.Same(c, x) || !sameTree(tree.Clean(c), c) {
			t.Errorf("Clean(%v) = %v", x, c)
		}
		for n, node := range c.Nodes {
			for i, k := range slices.Backward(node.Kids) {
				// The last kid stands right ahead of its node; each other one right ahead of all that stand within the next one.
				behind := n
				if i+1 < len(node.Kids) {
					next := node.Kids[i+1]
					behind = next + 1 - grown(c, next).size()
				}
				if k != behind-1 {
					t.Errorf("Clean(%v) = %v: the kid %d of %d", x, c, k, n)
				}
			}
		}
	}
}

// P4.2, P4.6: two right ones are the same just if their nodes are, once clean; whatever their arenas.
func TestSame(t *testing.T) {
	r := numbers(8)
	l := plants()
	alike := 0
	for i, p := range l {
		for j, q := range l {
			x, _ := p.strewn(&r)
			y, _ := q.strewn(&r)
			got, want := tree.Same(x, y), p.same(q)
			if got != want || tree.Same(y, x) != want || sameTree(tree.Clean(x), tree.Clean(y)) != want {
				t.Errorf("Same(%v, %v) = %v", x, y, got)
			}
			if want && i != j {
				alike++
			}
			for _, third := range []plant{p, q, l[r.next(len(l))]} {
				z, _ := third.strewn(&r)
				if got && tree.Same(y, z) != tree.Same(x, z) {
					t.Errorf("Same of three: %v, %v, %v", x, y, z)
				}
			}
		}
	}
	if alike == 0 {
		t.Error("no two samples are the same")
	}
}

// P4.2, P4.6: two that differ in one thing alone are not the same.
func TestNotSame(t *testing.T) {
	r := numbers(9)
	for _, group := range [][]plant{
		{empty(), set(api.Bytes{}), set(api.Bytes{1}), set(api.Bytes{2}), set(api.Bytes{0, 1}), set(api.Bytes{0, 0, 1}), set(api.Bytes{0, 0, 0, 1}), set(api.Bytes{1, 0, 0, 1})},
		{text("a"), text("b"), text("aa"), text("A"), text("a\x00"), text(strings.Repeat("a", 254)), text(strings.Repeat("a", 255)), rule("a"), rule("b"), rule("aa"), rule("A")},
		{seq(text("a"), text("b")), choice(text("a"), text("b")), seq(text("b"), text("a")), seq(text("a"), text("b"), text("b")), seq(text("a"), rule("b")), seq(text("a"), text("a"))},
		{rep(0, 1, ab), rep(0, 2, ab), rep(1, 1, ab), rep(1, 2, ab), rep(0, -1, ab), rep(1, -1, ab), rep(0, 0, ab), rep(0, 99, ab), rep(99, 99, ab), and(ab), not(ab), capture("a", ab), capture("b", ab), capture("ab", ab), ab},
		{and(and(ab)), and(not(ab)), not(and(ab)), not(not(ab)), and(and(and(ab))), and(ab)},
		{seq(text("a"), seq(text("b"), text("c"))), seq(seq(text("a"), text("b")), text("c")), seq(text("a"), text("b"), text("c")), seq(seq(text("a"), text("c")), text("b")), seq(seq(text("b"), text("a")), text("c")), seq(text("c"), seq(text("a"), text("b"))), choice(text("a"), seq(text("b"), text("c"))), seq(text("a"), choice(text("b"), text("c")))},
		{seq(not(empty()), empty(), empty()), seq(empty(), not(empty()), empty()), seq(empty(), empty(), not(empty())), not(seq(empty(), empty(), empty())), seq(empty(), not(seq(empty(), empty())))},
	} {
		for i, p := range group {
			for j, q := range group {
				for _, about := range []func(plant) plant{
					func(p plant) plant { return p },
					func(p plant) plant { return nots(40, p) },
					func(p plant) plant { return seq(ab, p, mixed) },
					func(p plant) plant { return choice(p, ab) },
				} {
					x, _ := about(p).strewn(&r)
					y, _ := about(q).strewn(&r)
					if got := tree.Same(x, y); got != (i == j) {
						t.Errorf("Same(%v, %v) = %v", x, y, got)
					}
				}
			}
		}
	}
}

// R1: it ends, and soon, with many nodes, and with as many levels as there may be.
func TestManyNodes(t *testing.T) {
	wide, deep := seq(many(1<<17)...).clean(), api.Tree{Nodes: []api.Node{{}}}
	for n := range 1 << 16 {
		deep.Nodes = append(deep.Nodes, api.Node{Kind: api.Not, Kids: []int{n}})
	}
	deep.Root = len(deep.Nodes) - 1
	for _, x := range []api.Tree{wide, deep} {
		w := tree.Walk(x)
		if !tree.Right(x) || tree.May(x) || tree.Size(x) != len(x.Nodes) || len(w) != len(x.Nodes) || w[0] != x.Root {
			t.Errorf("of %d nodes: right %v, it may be %v, Size %d", len(x.Nodes), tree.Right(x), tree.May(x), tree.Size(x))
		}
		if c := tree.Clean(x); !sameTree(c, x) || !tree.Same(x, c) {
			t.Errorf("of %d nodes: not clean, or not the same", len(x.Nodes))
		}
		if o, is := tree.Of(tree.Root(x), tree.Kids(x)); !is || !sameTree(o, x) {
			t.Errorf("of %d nodes: not made of its kids", len(x.Nodes))
		}
		if s, is := tree.Sub(x, len(x.Nodes)/2); !is || tree.Size(s) > len(x.Nodes)/2+1 {
			t.Errorf("of %d nodes: Sub", len(x.Nodes))
		}
	}
	if d := tree.Depth(deep); d != 1<<16+1 {
		t.Errorf("Depth %d", d)
	}
	if d, n := tree.Depth(wide), len(tree.Kids(wide)); d != 2 || n != 1<<17 {
		t.Errorf("Depth %d, %d kids", d, n)
	}
}

// roomy tells a tree in lists with room behind their ends, in which something stands, and whose texts' bytes can be written to.
func roomy(x api.Tree) (out api.Tree, texts [][]byte) {
	back := make([]api.Node, 0, len(x.Nodes)+3)
	for _, n := range x.Nodes {
		kids := append(append([]int{}, n.Kids...), 7, 8, 9)
		n.Kids = kids[:len(n.Kids)]
		if n.Text != "" {
			b := []byte(n.Text)
			texts = append(texts, b)
			n.Text = unsafe.String(&b[0], len(b))
		}
		back = append(back, n)
	}
	behind := append(back, api.Node{Kind: 2, Text: "x"}, api.Node{Kind: 8, Kids: []int{0}})
	return api.Tree{Nodes: behind[:len(x.Nodes)], Root: x.Root}, texts
}

// deep tells a copy of a tree, with all that stands behind the ends of its lists.
func deep(x api.Tree) api.Tree {
	out := api.Tree{Root: x.Root}
	for _, n := range x.Nodes[:cap(x.Nodes)] {
		n.Kids = slices.Clone(n.Kids[:cap(n.Kids)])
		n.Text = strings.Clone(n.Text)
		out.Nodes = append(out.Nodes, n)
	}
	return out
}

// told is what all calls tell of a tree.
type told struct {
	clean, sub, of, both api.Tree
	walk                 []int
	kids                 []api.Tree
	root                 api.Node
}

func ask(x api.Tree) told {
	y := told{clean: tree.Clean(x), walk: tree.Walk(x), kids: tree.Kids(x), root: tree.Root(x)}
	y.sub, _ = tree.Sub(x, x.Root)
	y.of, _ = tree.Of(api.Node{Kind: api.Not}, []api.Tree{x})
	y.both, _ = tree.Of(api.Node{Kind: api.Seq}, []api.Tree{x, x})
	tree.Right(x)
	tree.May(x)
	tree.Same(x, x)
	tree.Size(x)
	tree.Depth(x)
	return y
}

func (y told) trees() []api.Tree {
	return append([]api.Tree{y.clean, y.sub, y.of, y.both}, y.kids...)
}

// R1: what is handed in stays as it was, also behind the lists' ends, and the same is told each time.
func TestHandedInStays(t *testing.T) {
	r := numbers(10)
	trees := []api.Tree{}
	for _, p := range plants() {
		x, _ := p.strewn(&r)
		trees = append(trees, x, p.clean())
	}
	for _, c := range wrongs() {
		trees = append(trees, c.tree)
	}
	for _, x := range trees {
		held, _ := roomy(x)
		before := deep(held)
		first := ask(held)
		if again := ask(held); !reflect.DeepEqual(first, again) || !reflect.DeepEqual(first, ask(x)) {
			t.Errorf("of %v another thing is told the second time, or without room behind", x)
		}
		if !reflect.DeepEqual(deep(held), before) {
			t.Errorf("%v was changed", x)
		}
		kids := []api.Tree{held, held, held}
		n := api.Node{Kind: api.Choice, Kids: []int{4, 5}}
		tree.Of(n, kids[:2])
		if !reflect.DeepEqual(deep(held), before) || !slices.Equal(n.Kids, []int{4, 5}) || !reflect.DeepEqual(kids, []api.Tree{held, held, held}) {
			t.Errorf("Of changed what was handed in: %v", x)
		}
	}
}

// R1: what is told shares no memory with what is handed in.
func TestSharesNoMemory(t *testing.T) {
	r := numbers(11)
	for _, p := range plants() {
		x, _ := p.strewn(&r)
		want := ask(x)
		held, texts := roomy(x)
		got := ask(held)
		for _, b := range texts {
			for i := range b {
				b[i] = '?'
			}
		}
		for i := range held.Nodes {
			for j := range held.Nodes[i].Kids {
				held.Nodes[i].Kids[j] = -5
			}
			held.Nodes[i] = api.Node{Kind: 99}
		}
		if !reflect.DeepEqual(got, want) {
			t.Errorf("what is told of %v is seen to change with it", x)
		}
	}
	name := []byte("abc")
	held := unsafe.String(&name[0], len(name))
	leaves := []api.Tree{tree.Text(held), tree.Rule(held)}
	made, _ := tree.Of(api.Node{Kind: api.Cap, Text: held}, []api.Tree{tree.Empty()})
	name[1] = '?'
	if leaves[0].Nodes[0].Text != "abc" || leaves[1].Nodes[0].Text != "abc" || made.Nodes[1].Text != "abc" {
		t.Errorf("texts are seen to change: %v, %v", leaves, made)
	}
}

// R1: what is told shares no memory with what is told beside it, or at another time.
func TestAnswersStandApart(t *testing.T) {
	r := numbers(12)
	for _, p := range plants() {
		x, _ := p.strewn(&r)
		want := ask(x)
		got := ask(x)
		all := got.trees()
		for i, y := range all {
			// Each list is written to, and put to, to its end and behind it; then all others must be as they were.
			for j := range y.Nodes {
				kids := y.Nodes[j].Kids
				for k := range kids[:cap(kids)] {
					kids[:cap(kids)][k] = -7
				}
				for m, n := range y.Nodes {
					if m != j && slices.Contains(n.Kids, -7) {
						t.Fatalf("two lists of %v share memory", x)
					}
				}
				copy(kids, want.trees()[i].Nodes[j].Kids)
			}
			room := y.Nodes[:cap(y.Nodes)]
			for j := range room {
				room[j] = api.Node{Kind: 77}
			}
			for j, z := range all {
				if j != i && !sameTree(z, want.trees()[j]) {
					t.Fatalf("answers %d and %d of %v share memory", i, j, x)
				}
			}
			copy(y.Nodes, want.trees()[i].Nodes)
		}
		if again := ask(x); !reflect.DeepEqual(again, want) {
			t.Errorf("of %v another thing is told, once an answer is written to", x)
		}
	}
	for _, leaf := range []func() api.Tree{tree.Empty, func() api.Tree { return tree.Set(some) }, func() api.Tree { return tree.Text("a") }, func() api.Tree { return tree.Rule("a") }} {
		one, other := leaf(), leaf()
		one.Nodes[0] = api.Node{Kind: 77}
		if other.Nodes[0].Kind == 77 || leaf().Nodes[0].Kind == 77 {
			t.Error("two leaves share memory")
		}
	}
}
