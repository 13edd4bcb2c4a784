package expr_test

import (
	"slices"
	"strings"

	"bonsai/api"
)

// The words as the document says them, in another way than the program does: trees without arenas, that are made normal by mending one thing after the other, till there is none to mend.

// plant is a tree without an arena.
type plant struct {
	node api.Node // without Kids
	kids []plant
}

// Plants are written in texts: - Empty, 0 and 1 Sets, a small letter a Text, a great one a Rule, ( ) a Seq, [ ] a Choice, and in front of a kid what stands here.
var heads = map[byte]api.Node{
	'*': {Kind: 6, Max: -1}, '+': {Kind: 6, Min: 1, Max: -1}, '?': {Kind: 6, Max: 1}, '=': {Kind: 6, Min: 3, Max: 7}, '#': {Kind: 6},
	'&': {Kind: 7}, '!': {Kind: 8}, '<': {Kind: 9, Text: "n"}, '>': {Kind: 9, Text: "m_2"},
}

var some = api.Bytes{1 << 10, 1 << 33, 0, 1 << 63}

// read tells the plant that a text denotes.
func read(s string) plant {
	p, left := grow(s)
	if left != "" {
		panic("no plant: " + s)
	}
	return p
}

func reads(l ...string) []plant {
	var out []plant
	for _, s := range l {
		out = append(out, read(s))
	}
	return out
}

func grow(s string) (plant, string) {
	c, s := s[0], s[1:]
	if n, is := heads[c]; is {
		kid, left := grow(s)
		return plant{n, []plant{kid}}, left
	}
	switch {
	case c == '-':
		return plant{}, s
	case c == '0' || c == '1':
		return plant{node: api.Node{Kind: 1, Set: sets(c)}}, s
	case 'a' <= c && c <= 'z':
		return plant{node: api.Node{Kind: 2, Text: string(c)}}, s
	case 'A' <= c && c <= 'Z':
		return plant{node: api.Node{Kind: 3, Text: string(c)}}, s
	}
	p := plant{node: api.Node{Kind: uint8(4 + strings.IndexByte("([", c))}}
	for s[0] != ')' && s[0] != ']' {
		var kid plant
		kid, s = grow(s)
		p.kids = append(p.kids, kid)
	}
	return p, s[1:]
}

func sets(c byte) api.Bytes {
	if c == '0' {
		return api.Bytes{}
	}
	return some
}

// String is the text that denotes a plant: what no text denotes is told by its Kind.
func (p plant) String() string {
	within := ""
	for _, k := range p.kids {
		within += k.String()
	}
	switch p.node.Kind {
	case 0:
		return "-"
	case 1:
		if p.node.Set == some {
			return "1"
		}
		return "0"
	case 2, 3:
		return p.node.Text
	case 4:
		return "(" + within + ")"
	case 5:
		return "[" + within + "]"
	}
	for c, n := range heads {
		if n.Kind == p.node.Kind && n.Text == p.node.Text && n.Min == p.node.Min && n.Max == p.node.Max {
			return string(c) + within
		}
	}
	return "{" + string('0'+rune(p.node.Kind)) + within + "}"
}

// names tells a list of plants in a text.
func names(l []plant) string {
	s := ""
	for _, p := range l {
		s += " " + p.String()
	}
	return s
}

func (p plant) same(q plant) bool {
	return p.node.Kind == q.node.Kind && p.node.Set == q.node.Set && p.node.Text == q.node.Text && p.node.Min == q.node.Min && p.node.Max == q.node.Max && slices.EqualFunc(p.kids, q.kids, plant.same)
}

// mended tells a plant with one thing mended that is not as it is in what is normal; no: there is no such thing.
func (p plant) mended() (plant, bool) {
	for i, k := range p.kids {
		if better, is := k.mended(); is {
			return p.with(i, better), true
		}
	}
	if p.node.Kind != 4 && p.node.Kind != 5 {
		return p, false
	}
	for i, k := range p.kids {
		if k.node.Kind == p.node.Kind {
			return p.with(i, k.kids...), true
		}
		if p.node.Kind == 4 && k.node.Kind == 0 {
			return p.with(i), true
		}
	}
	switch {
	case len(p.kids) == 1:
		return p.kids[0], true
	case len(p.kids) == 0 && p.node.Kind == 4:
		return read("-"), true
	case len(p.kids) == 0:
		return read("0"), true
	}
	return p, false
}

// with tells a plant with these kids in a kid's stead.
func (p plant) with(i int, kids ...plant) plant {
	return plant{p.node, slices.Concat(p.kids[:i], kids, p.kids[i+1:])}
}

func (p plant) made() plant {
	for {
		better, is := p.mended()
		if !is {
			return p
		}
		p = better
	}
}

// normal is what S1 says of trees that are normal.
func (p plant) normal() bool {
	for _, k := range p.kids {
		is := k.node.Kind
		if !k.normal() || p.node.Kind == 4 && (is == 4 || is == 0) || p.node.Kind == 5 && is == 5 {
			return false
		}
	}
	return true
}

// parts, ways, head and tail are what the document says of a plant that is normal.
func (p plant) parts() []plant {
	switch p.node.Kind {
	case 0:
		return nil
	case 4:
		return p.kids
	}
	return []plant{p}
}

func (p plant) ways() []plant {
	if p.node.Kind == 5 {
		return p.kids
	}
	return []plant{p}
}

func (p plant) head() (plant, bool) {
	if p.node.Kind == 4 {
		return p.kids[0], true
	}
	return p, p.node.Kind != 0
}

func (p plant) tail() plant {
	if p.node.Kind != 4 {
		return read("-")
	}
	return seq(p.kids[1:]...).made()
}

// seq and choice may be of one, or of none: made normal they are what the document says.
func seq(kids ...plant) plant    { return plant{api.Node{Kind: 4}, kids} }
func choice(kids ...plant) plant { return plant{api.Node{Kind: 5}, kids} }

func (p plant) size() int {
	n := 1
	for _, k := range p.kids {
		n += k.size()
	}
	return n
}

// clean tells a plant's clean arena.
func (p plant) clean() api.Tree {
	var nodes []api.Node
	var lay func(plant) int
	lay = func(p plant) int {
		n := p.node
		for _, k := range p.kids {
			n.Kids = append(n.Kids, lay(k))
		}
		nodes = append(nodes, n)
		return len(nodes) - 1
	}
	return api.Tree{Root: lay(p), Nodes: nodes}
}

// strewn tells another arena of a plant, in which the numbers stand as a row of numbers says.
func (p plant) strewn(r *numbers) api.Tree {
	type place struct {
		of   plant
		told *int
	}
	out := api.Tree{Nodes: make([]api.Node, p.size())}
	open := []place{{p, &out.Root}}
	for next := len(out.Nodes) - 1; next >= 0; next-- {
		pick := r.next(len(open))
		here := open[pick]
		open = slices.Delete(open, pick, pick+1)
		n := here.of.node
		n.Kids = make([]int, len(here.of.kids))
		for i, k := range here.of.kids {
			open = append(open, place{k, &n.Kids[i]})
		}
		out.Nodes[next], *here.told = n, next
	}
	return out
}

// arenas tells a plant's clean arena, and two others.
func (p plant) arenas(r *numbers) []api.Tree {
	return []api.Tree{p.clean(), p.strewn(r), p.strewn(r)}
}

func cleans(l []plant) []api.Tree {
	var out []api.Tree
	for _, p := range l {
		out = append(out, p.clean())
	}
	return out
}

func strewns(l []plant, r *numbers) []api.Tree {
	var out []api.Tree
	for _, p := range l {
		out = append(out, p.strewn(r))
	}
	return out
}

// sameTree, to the node's number: a list of nothing and no list are the same.
func sameTree(a, b api.Tree) bool {
	return a.Root == b.Root && slices.EqualFunc(a.Nodes, b.Nodes, func(m, n api.Node) bool {
		return m.Kind == n.Kind && m.Set == n.Set && m.Text == n.Text && m.Min == n.Min && m.Max == n.Max && slices.Equal(m.Kids, n.Kids)
	})
}

func sameTrees(a, b []api.Tree) bool { return slices.EqualFunc(a, b, sameTree) }

// numbers is a row of numbers that is the same each time.
type numbers uint32

func (r *numbers) next(below int) int {
	*r = *r*22695477 + 1
	return int(*r>>9) % below
}

// small tells all plants of so many nodes, out of these leaves, Nots, and Seqs and Choices of two and more.
func small(nodes int, leaves string) []plant {
	if nodes == 1 {
		return reads(strings.Split(leaves, "")...)
	}
	var out []plant
	for _, p := range small(nodes-1, leaves) {
		out = append(out, plant{heads['!'], []plant{p}})
	}
	for _, l := range rows(nodes-1, leaves) {
		if len(l) > 1 {
			out = append(out, seq(l...), choice(l...))
		}
	}
	return out
}

// rows tells all lists of plants that have so many nodes together.
func rows(nodes int, leaves string) [][]plant {
	if nodes == 0 {
		return [][]plant{nil}
	}
	var out [][]plant
	for first := 1; first <= nodes; first++ {
		others := rows(nodes-first, leaves)
		for _, p := range small(first, leaves) {
			for _, l := range others {
				out = append(out, append([]plant{p}, l...))
			}
		}
	}
	return out
}

// written are plants of each kind, normal and not, flat and deep.
func written() []plant {
	return reads(
		"-", "0", "1", "a", "R", "(ab)", "[ab]", "(aRb1c0)", "[aRb1c0]", "*a", "+a", "?a", "=a", "#a", "&a", "!a", "<a", ">a",
		"*-", "#-", "&-", "!0", "<-", "[--]", "[-a]", "[a-]", "[00]", "[0a]", "[a0]", "(0a)", "(00)", "(aa)", "[aa]",
		"(a[bc])", "([ab]c)", "[a(bc)]", "[(ab)c]", "([ab][cd])", "[(ab)(cd)]", "*(ab)", "*[ab]", "&(ab)", "!(a[bc])", "<[a(bc)]",
		"(*a*b)", "(&a!b)", "[*a?b]", "(<a>b)", "**a", "!!a", "&!&a", "<><a", "(!(ab)!(cd))", "(*(ab)c)", "[&[ab]c]",
		"(a(bc))", "((ab)c)", "((ab)(cd))", "(((ab)c)d)", "(a(b(cd)))", "(a(bc)d)", "((a(bc))((de)f))", "[a[bc]]", "[[ab]c]", "[[ab][cd]]", "[[[ab]c]d]", "[a[b[cd]]]", "[a[bc]d]",
		"(-a)", "(a-)", "(--)", "(-a-)", "(a-b)", "(-ab)", "(ab-)", "(---)", "(--a--)", "(-a-b-)", "((--)a)", "(a(--))", "((--)(--))", "(-(-a))", "((a-)-)", "(-(ab))", "((ab)-)", "(a(-b-)c)", "((-(-(--)))-)",
		"[(--)a]", "[a(--)]", "[(--)(--)]", "[(-a)(b-)]", "*(--)", "!(--)", "<(-a)", "&((a-)(-b))", "=[a[bc]]", "(!(-a)-)",
		"[(-[ab])c]", "[a([bc]-)]", "[(-[ab])(-[cd])]", "[(-[(-[ab])c])d]", "(-[ab])", "((-[ab])c)", "[(-(-[ab]-))c]", "[a(-[b(-[cd])])]", "[(-(ab))c]", "(a[(bc)(de)])", "([(-a)(b-)](-c))",
		"(a(-[b(-[c(de)])]))", "[(-[(-[00])0])-]", "(([ab]-)([cd]-))", "[&(-[ab])(-&[cd])]", "!!(-(-!!(-a)))", "<(-<(-<-))", "*(a(-*(b(-*(cd)))))", "[!([ab]-)[(a-)(-b)]]",
		"(a"+strings.Repeat("b", 60)+")", "["+strings.Repeat("ab", 30)+"]", "("+strings.Repeat("-", 60)+"a)", strings.Repeat("(a", 50)+"b"+strings.Repeat(")", 50), strings.Repeat("(", 50)+"a"+strings.Repeat("b)", 50),
		strings.Repeat("[a", 50)+"b"+strings.Repeat("]", 50), strings.Repeat("[(-", 20)+"[ab]"+strings.Repeat(")c]", 20), strings.Repeat("([a", 20)+"b"+strings.Repeat("]-)", 20), strings.Repeat("(a[b", 20)+"c"+strings.Repeat("])", 20), strings.Repeat("!(-", 30)+"a"+strings.Repeat(")", 30),
	)
}

// samples are those, and some that a row of numbers says.
func samples() []plant {
	out := written()
	r := numbers(3)
	for range 300 {
		out = append(out, wild(&r, 1+r.next(5)))
	}
	return out
}

// wild tells a plant that a row of numbers says, so deep at most; Empties, Seqs and Choices are many.
func wild(r *numbers, deep int) plant {
	if deep == 0 || r.next(6) == 0 {
		return read(string("---01abcRS"[r.next(10)]))
	}
	if r.next(4) == 0 {
		return plant{heads["*+?=#&!<>"[r.next(9)]], []plant{wild(r, deep-1)}}
	}
	p := plant{node: api.Node{Kind: uint8(4 + r.next(2))}}
	for range 2 + r.next(3) {
		p.kids = append(p.kids, wild(r, deep-1))
	}
	return p
}

// wrong is an arena that is not right, and why.
type wrong struct {
	why  string
	tree api.Tree
}

// wrongs are arenas in which one thing was spoiled of what the plants have.
func wrongs() []wrong {
	out := []wrong{
		{"no tree", api.Tree{}}, {"no node, root -1", api.Tree{Root: -1}}, {"no node, in a list", api.Tree{Nodes: []api.Node{}}},
		{"each other's kid", api.Tree{Nodes: []api.Node{{Kind: 8, Kids: []int{1}}, {Kind: 8, Kids: []int{0}}}, Root: 1}},
		{"its own kid", api.Tree{Nodes: []api.Node{{Kind: 7, Kids: []int{0}}}}},
	}
	spoil := func(why, text string, change func(*api.Tree)) {
		x := read(text).clean()
		change(&x)
		out = append(out, wrong{why + ": " + text, x})
	}
	node := func(why, text string, at int, change func(*api.Node)) {
		spoil(why, text, func(x *api.Tree) { change(&x.Nodes[at]) })
	}
	for _, s := range []string{"-", "a", "(ab)", "[ab]", "*a", "&(ab)", "<-", "(-a)", "(a(bc))", "[[ab]c]", "(--)"} {
		spoil("no root", s, func(x *api.Tree) { x.Root = len(x.Nodes) })
		spoil("a root below 0", s, func(x *api.Tree) { x.Root = -1 })
		spoil("the kid of none, first", s, func(x *api.Tree) {
			up := api.Node{Kind: 8, Kids: []int{0}}
			x.Nodes, x.Root = []api.Node{{}, {}, up}, 2
		})
		spoil("the kid of none, last", s, func(x *api.Tree) { x.Nodes = append(x.Nodes, api.Node{}) })
		spoil("a kind that is none, above", s, func(x *api.Tree) {
			x.Nodes = append(x.Nodes, api.Node{Kind: 10, Kids: []int{x.Root}})
			x.Root++
		})
		spoil("twice a kid", s, func(x *api.Tree) {
			x.Nodes = append(x.Nodes, api.Node{Kind: 4, Kids: []int{x.Root, x.Root}})
			x.Root++
		})
	}
	for _, kind := range []uint8{4, 5} {
		out = append(out, wrong{"a Seq, or a Choice, of none", api.Tree{Nodes: []api.Node{{Kind: kind}}}}, wrong{"a Seq, or a Choice, of one", api.Tree{Nodes: []api.Node{{}, {Kind: kind, Kids: []int{0}}}, Root: 1}})
	}
	node("a root within", "!!a", 0, func(n *api.Node) { n.Kids = []int{2} })
	node("a kid that is not there", "(ab)", 2, func(n *api.Node) { n.Kids[1] = 9 })
	node("a kid below 0", "[ab]", 2, func(n *api.Node) { n.Kids[0] = -1 })
	node("a leaf with a kid", "(a-)", 1, func(n *api.Node) { n.Kids = []int{0} })
	node("an Empty with a Text", "(-a)", 0, func(n *api.Node) { n.Text = "a" })
	node("an Empty with a Set", "-", 0, func(n *api.Node) { n.Set = some })
	node("an Empty with a Min", "[-a]", 0, func(n *api.Node) { n.Min = 1 })
	node("a Seq with a Max", "((ab)c)", 2, func(n *api.Node) { n.Max = 1 })
	node("a Choice with a Text", "[a[bc]]", 3, func(n *api.Node) { n.Text = "x" })
	node("a Seq, to be opened, with a Set", "(a(bc))", 3, func(n *api.Node) { n.Set = some })
	node("a Text of nothing", "(ab)", 0, func(n *api.Node) { n.Text = "" })
	node("a Text of 256 bytes", "(ab)", 1, func(n *api.Node) { n.Text = strings.Repeat("t", 256) })
	node("a Rule of no name", "[Ra]", 0, func(n *api.Node) { n.Text = "1a" })
	node("a Cap of no name", "<a", 1, func(n *api.Node) { n.Text = "" })
	node("a Rep with least above most", "=a", 1, func(n *api.Node) { n.Min = 8 })
	node("a Rep beyond MaxRep", "(*ab)", 1, func(n *api.Node) { n.Max = 100 })
	node("a Rep below 0", "?-", 1, func(n *api.Node) { n.Min = -1 })
	return out
}
