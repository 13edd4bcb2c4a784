package tree_test

import (
	"math"
	"regexp"
	"slices"
	"strconv"
	"strings"

	"bonsai/api"
)

// The words as the document says them, in another way than the program does: trees that hold their kids themselves, without an arena, and what may be written out.

const (
	maxNodes   = 1024
	maxDepth   = 32
	maxRep     = 99
	maxLiteral = 255
)

// plant is a tree without an arena.
type plant struct {
	node api.Node // without Kids
	kids []plant
}

// kind is a row of S1's table.
type kind struct {
	least, most int // kids
	set         bool
	text        func(string) bool // nil: it has none
	numbers     bool
}

var nameForm = regexp.MustCompile(`\A[a-zA-Z_][a-zA-Z_0-9]{0,31}\z`)

func literal(s string) bool { return s != "" && len(s) <= maxLiteral }

var kinds = map[uint8]kind{
	0: {0, 0, false, nil, false},
	1: {0, 0, true, nil, false},
	2: {0, 0, false, literal, false},
	3: {0, 0, false, nameForm.MatchString, false},
	4: {2, math.MaxInt, false, nil, false},
	5: {2, math.MaxInt, false, nil, false},
	6: {1, 1, false, nil, true},
	7: {1, 1, false, nil, false},
	8: {1, 1, false, nil, false},
	9: {1, 1, false, nameForm.MatchString, false},
}

// repeats are all numbers that a Rep may have.
var repeats = allRepeats()

func allRepeats() map[[2]int]bool {
	l := map[[2]int]bool{}
	for least := range maxRep + 1 {
		l[[2]int{least, -1}] = true
		for most := least; most <= maxRep; most++ {
			l[[2]int{least, most}] = true
		}
	}
	return l
}

// fits is what the document says of Fits.
func fits(n api.Node, kids int) bool {
	k, known := kinds[n.Kind]
	if !known || kids < k.least || kids > k.most {
		return false
	}
	text := n.Text == ""
	if k.text != nil {
		text = k.text(n.Text)
	}
	numbers := n.Min == 0 && n.Max == 0
	if k.numbers {
		numbers = repeats[[2]int{n.Min, n.Max}]
	}
	return text && numbers && (k.set || n.Set == [4]uint64{})
}

// right is what the document says of Right.
func right(t api.Tree) bool {
	if t.Root < 0 || t.Root >= len(t.Nodes) {
		return false
	}
	times := map[int]int{}
	for i, n := range t.Nodes {
		for _, k := range n.Kids {
			if k < 0 || k >= i {
				return false
			}
			times[k]++
		}
		if !fits(n, len(n.Kids)) {
			return false
		}
	}
	for i := range t.Nodes {
		if i == t.Root && times[i] != 0 || i != t.Root && times[i] != 1 {
			return false
		}
	}
	return true
}

// grown tells the tree that stands at a node of an arena that is right.
func grown(t api.Tree, node int) plant {
	p := plant{node: t.Nodes[node]}
	p.node.Kids = nil
	for _, k := range t.Nodes[node].Kids {
		p.kids = append(p.kids, grown(t, k))
	}
	return p
}

// clean tells a plant's clean arena.
func (p plant) clean() api.Tree {
	nodes := p.lay(nil)
	return api.Tree{Nodes: nodes, Root: len(nodes) - 1}
}

func (p plant) lay(nodes []api.Node) []api.Node {
	n := p.node
	for _, k := range p.kids {
		nodes = k.lay(nodes)
		n.Kids = append(n.Kids, len(nodes)-1)
	}
	return append(nodes, n)
}

func (p plant) size() int {
	n := 1
	for _, k := range p.kids {
		n += k.size()
	}
	return n
}

func (p plant) depth() int {
	n := 0
	for _, k := range p.kids {
		n = max(n, k.depth())
	}
	return n + 1
}

// all tells a plant and those within it, in the row of a tree.
func (p plant) all() []plant {
	l := []plant{p}
	for _, k := range p.kids {
		l = append(l, k.all()...)
	}
	return l
}

func (p plant) same(q plant) bool {
	return sameNode(p.node, q.node) && slices.EqualFunc(p.kids, q.kids, plant.same)
}

// strewn tells another arena of a plant, in which the numbers stand as a row of numbers says; and its row.
func (p plant) strewn(r *numbers) (api.Tree, []int) {
	all := p.all()
	above := make([]int, len(all))
	for i, q := range all {
		at := i + 1
		for _, k := range q.kids {
			above[at] = i
			at += k.size()
		}
	}
	number, open := make([]int, len(all)), []int{0}
	for next := len(all) - 1; next >= 0; next-- {
		pick := r.next(len(open))
		i := open[pick]
		open = slices.Delete(open, pick, pick+1)
		number[i] = next
		at := i + 1
		for _, k := range all[i].kids {
			open = append(open, at)
			at += k.size()
		}
	}
	nodes := make([]api.Node, len(all))
	for i, q := range all {
		nodes[number[i]] = q.node
	}
	for i := 1; i < len(all); i++ {
		n := &nodes[number[above[i]]]
		n.Kids = append(n.Kids, number[i])
	}
	return api.Tree{Nodes: nodes, Root: len(nodes) - 1}, number
}

// sameNode and sameTree: a list of nothing and no list are the same.
func sameNode(a, b api.Node) bool {
	return a.Kind == b.Kind && a.Set == b.Set && a.Text == b.Text && a.Min == b.Min && a.Max == b.Max && slices.Equal(a.Kids, b.Kids)
}

func sameTree(a, b api.Tree) bool {
	return a.Root == b.Root && slices.EqualFunc(a.Nodes, b.Nodes, sameNode)
}

func sameTrees(a, b []api.Tree) bool { return slices.EqualFunc(a, b, sameTree) }

// numbers is a row of numbers that is the same each time.
type numbers uint32

func (r *numbers) next(below int) int {
	*r = *r*1664525 + 1013904223
	return int(*r>>8) % below
}

// Plants, in few letters.
func node(n api.Node, kids ...plant) plant { return plant{n, kids} }
func empty() plant                         { return node(api.Node{}) }
func set(s api.Bytes) plant                { return node(api.Node{Kind: 1, Set: s}) }
func text(s string) plant                  { return node(api.Node{Kind: 2, Text: s}) }
func rule(s string) plant                  { return node(api.Node{Kind: 3, Text: s}) }
func seq(kids ...plant) plant              { return node(api.Node{Kind: 4}, kids...) }
func choice(kids ...plant) plant           { return node(api.Node{Kind: 5}, kids...) }
func and(p plant) plant                    { return node(api.Node{Kind: 7}, p) }
func not(p plant) plant                    { return node(api.Node{Kind: 8}, p) }
func capture(s string, p plant) plant      { return node(api.Node{Kind: 9, Text: s}, p) }
func rep(least, most int, p plant) plant {
	return node(api.Node{Kind: 6, Min: least, Max: most}, p)
}

// nots tells so many Nots, one within the other, about a plant.
func nots(n int, p plant) plant {
	for range n {
		p = not(p)
	}
	return p
}

// many tells so many plants, no two the same.
func many(n int) []plant {
	var l []plant
	for i := range n {
		l = append(l, rule("r"+strconv.Itoa(i)))
	}
	return l
}

var (
	some   = api.Bytes{1 << 10, 1 << 33}
	allOf  = api.Bytes{math.MaxUint64, math.MaxUint64, math.MaxUint64, math.MaxUint64}
	ab     = seq(text("a"), rule("b"))
	mixed  = choice(seq(rep(0, -1, set(some)), text("ab"), choice(rule("x"), empty())), not(and(ab)), capture("n", seq(set(allOf), text("q"), choice(text("b"), text("b")))))
	longer = seq(ab, ab, seq(ab, choice(ab, mixed, ab)))
)

// plants are of each kind, with few kids and many, flat and deep, with the same within them twice.
func plants() []plant {
	l := []plant{
		empty(), set(api.Bytes{}), set(some), set(allOf), text("a"), text("\x00\xff"), text(strings.Repeat("t", maxLiteral)), rule("a"), rule(strings.Repeat("n", 32)),
		ab, choice(text("a"), rule("b")), seq(text("a"), text("a")), seq(text("a"), text("b"), text("c")), seq(many(3)...), choice(many(50)...),
		rep(0, -1, text("x")), rep(0, 0, empty()), rep(1, 1, ab), rep(99, 99, ab), rep(99, -1, ab), rep(0, 99, ab), rep(2, 5, ab),
		and(text("a")), not(text("a")), and(not(and(ab))), capture("a", text("a")), capture("z9_", capture("a", ab)),
		seq(text("a"), choice(rule("x"), rule("y"))), seq(choice(rule("x"), rule("y")), text("a")),
		seq(seq(text("a"), text("b")), text("c")), seq(text("a"), seq(text("b"), text("c"))), seq(empty(), empty()), choice(choice(ab, ab), choice(ab, ab)),
		mixed, longer, nots(30, ab), nots(40, mixed), seq(nots(3, empty()), nots(7, ab), nots(5, text("w"))),
	}
	r := numbers(1)
	for range 60 {
		l = append(l, wild(&r, 5))
	}
	return l
}

// wild tells a plant that a row of numbers says, so deep at most.
func wild(r *numbers, deep int) plant {
	letter := string(rune('a' + r.next(3)))
	k := r.next(14)
	if deep == 0 {
		k %= 4
	}
	switch k {
	case 0:
		return empty()
	case 1:
		return set(api.Bytes{uint64(r.next(3))})
	case 2:
		return text(letter)
	case 3:
		return rule(letter)
	case 6:
		return rep(r.next(2), []int{1, 7, -1}[r.next(3)], wild(r, deep-1))
	case 7:
		return and(wild(r, deep-1))
	case 8:
		return not(wild(r, deep-1))
	case 9:
		return capture(letter, wild(r, deep-1))
	}
	p := plant{node: api.Node{Kind: uint8(4 + k%2)}}
	for range 2 + r.next(3) {
		p.kids = append(p.kids, wild(r, deep-1))
	}
	return p
}

// wrong is an arena that is not right, and why.
type wrong struct {
	why  string
	tree api.Tree
}

func arena(root int, nodes ...api.Node) api.Tree { return api.Tree{Nodes: nodes, Root: root} }

// wrongs are arenas that are not right: each for one thing alone, wherever that can be.
func wrongs() []wrong {
	a, s := api.Node{Kind: 2, Text: "a"}, func(kids ...int) api.Node { return api.Node{Kind: 4, Kids: kids} }
	n := func(kids ...int) api.Node { return api.Node{Kind: 8, Kids: kids} }
	l := []wrong{
		{"no tree", api.Tree{}},
		{"no node", arena(0, []api.Node{}...)}, {"no node, root 1", arena(1)}, {"no node, root -1", arena(-1)},
		{"no root: 1 of 1", arena(1, a)}, {"no root: -1", arena(-1, a)}, {"no root: 3 of 3", arena(3, a, a, s(0, 1))}, {"no root: far off", arena(math.MaxInt, a)}, {"no root: far below", arena(math.MinInt, a)},
		{"a root that is not the last one", arena(0, a, n(0))}, {"a root that is not the last one, and the kid of none", arena(0, a, a)}, {"a root in the middle", arena(1, a, n(0), n(1))}, {"a root ahead of what is no kid", arena(1, a, n(0), a)},
		{"the kid of none, first", arena(1, a, a)}, {"the kid of none, in the middle", arena(3, a, a, a, s(0, 2))}, {"the kid of none, last but one", arena(3, a, a, a, s(0, 1))}, {"the kid of none, with a kid", arena(3, a, n(0), a, n(2))},
		{"twice a kid of one", arena(1, a, s(0, 0))}, {"twice a kid of one, apart", arena(2, a, a, s(0, 1, 0))}, {"a kid of two", arena(3, a, n(0), n(0), s(1, 2))}, {"a kid of two, one the root", arena(2, a, n(0), s(0, 1))}, {"a kid of two, and one of none", arena(3, a, a, n(0), s(0, 2))},
		{"its own kid", arena(0, n(0))}, {"its own kid, the root", arena(1, a, s(0, 1))}, {"its own kid, another one", arena(1, n(0), n(0))},
		{"the kid of one with a less number", arena(1, n(1), a)}, {"the kid of one with a less number, in the middle", arena(2, n(1), a, n(0))}, {"each other's kid", arena(1, n(1), n(0))}, {"a root that is a kid", arena(2, n(2), a, s(0, 1))},
		{"a kid -1", arena(1, a, n(-1))}, {"a kid -1 beside another", arena(1, a, s(0, -1))}, {"a kid far below 0", arena(1, a, s(0, math.MinInt))}, {"a kid that no node has", arena(1, a, s(0, 2))}, {"a kid far off", arena(1, a, s(0, math.MaxInt))}, {"a kid of 2^32", arena(1, a, n(1<<32))},
	}
	for _, c := range unfit() {
		t := arena(0, c.node)
		for i := range c.kids {
			t.Nodes = slices.Insert(t.Nodes, i, a)
			t.Root++
			t.Nodes[t.Root].Kids = append(t.Nodes[t.Root].Kids, i)
		}
		l = append(l, wrong{"at the root: " + c.why, t})
		in := api.Tree{Nodes: append(slices.Clone(t.Nodes), n(t.Root)), Root: t.Root + 1}
		l = append(l, wrong{"within: " + c.why, in})
	}
	return l
}

// unfits is a node that, with so many kids, is not as its Kind says, and why.
type unfits struct {
	why  string
	node api.Node
	kids int
}

// unfit are written out: for one thing alone.
func unfit() []unfits {
	s33, s256 := strings.Repeat("n", 33), strings.Repeat("t", 256)
	l := []unfits{
		{"a Seq of none", api.Node{Kind: 4}, 0}, {"a Seq of one", api.Node{Kind: 4}, 1}, {"a Choice of none", api.Node{Kind: 5}, 0}, {"a Choice of one", api.Node{Kind: 5}, 1},
		{"an Empty with a kid", api.Node{}, 1}, {"a Set with a kid", api.Node{Kind: 1}, 1}, {"a Text with a kid", api.Node{Kind: 2, Text: "a"}, 1}, {"a Rule with a kid", api.Node{Kind: 3, Text: "a"}, 1}, {"an Empty with two", api.Node{}, 2},
		{"a Rep of none", api.Node{Kind: 6, Max: 1}, 0}, {"a Rep of two", api.Node{Kind: 6, Max: 1}, 2}, {"an And of none", api.Node{Kind: 7}, 0}, {"an And of two", api.Node{Kind: 7}, 2}, {"a Not of none", api.Node{Kind: 8}, 0}, {"a Not of two", api.Node{Kind: 8}, 2}, {"a Cap of none", api.Node{Kind: 9, Text: "a"}, 0}, {"a Cap of two", api.Node{Kind: 9, Text: "a"}, 2},
		{"no Kind: 10", api.Node{Kind: 10}, 0}, {"no Kind: 10, with a kid", api.Node{Kind: 10}, 1}, {"no Kind: 11", api.Node{Kind: 11}, 2}, {"no Kind: 255", api.Node{Kind: 255}, 0},
		{"a Text of nothing", api.Node{Kind: 2}, 0}, {"a Text of 256 bytes", api.Node{Kind: 2, Text: s256}, 0},
		{"a Rule of no name", api.Node{Kind: 3}, 0}, {"a Rule with a digit first", api.Node{Kind: 3, Text: "1a"}, 0}, {"a Rule of another byte", api.Node{Kind: 3, Text: "a-b"}, 0}, {"a Rule of 33 letters", api.Node{Kind: 3, Text: s33}, 0},
		{"a Cap of no name", api.Node{Kind: 9}, 1}, {"a Cap with a digit first", api.Node{Kind: 9, Text: "1a"}, 1}, {"a Cap of another byte", api.Node{Kind: 9, Text: "\u00e9"}, 1}, {"a Cap of 33 letters", api.Node{Kind: 9, Text: s33}, 1},
	}
	for _, c := range [][2]int{{-1, 0}, {-1, -1}, {100, 100}, {100, -1}, {0, 100}, {99, 100}, {0, -2}, {2, 1}, {3, 2}, {1, 0}, {99, 98}, {0, math.MinInt}, {0, math.MaxInt}, {math.MinInt, 1}, {math.MaxInt, -1}, {math.MaxInt, math.MaxInt}, {1 << 32, 1 << 32}} {
		l = append(l, unfits{"a Rep " + strconv.Itoa(c[0]) + ", " + strconv.Itoa(c[1]), api.Node{Kind: 6, Min: c[0], Max: c[1]}, 1})
	}
	for k := range uint8(10) {
		own, kids := kinds[k], kinds[k].least
		has := api.Node{Kind: k}
		if own.text != nil {
			has.Text = "a"
		}
		add := func(what string, change func(*api.Node)) {
			n := has
			change(&n)
			l = append(l, unfits{"Kind " + strconv.Itoa(int(k)) + " with " + what, n, kids})
		}
		if own.text == nil {
			add("a Text", func(n *api.Node) { n.Text = "a" })
		}
		if !own.set {
			for _, s := range []api.Bytes{{1}, {0, 1}, {0, 0, 1}, {0, 0, 0, 1 << 63}, allOf} {
				add("a Set", func(n *api.Node) { n.Set = s })
			}
		}
		if !own.numbers {
			add("a Min", func(n *api.Node) { n.Min = 1 })
			add("a Min below 0", func(n *api.Node) { n.Min = -1 })
			add("a Max", func(n *api.Node) { n.Max = 1 })
			add("a Max below 0", func(n *api.Node) { n.Max = -1 })
			add("Min and Max", func(n *api.Node) { n.Min, n.Max = 1, 1 })
		}
	}
	return l
}
