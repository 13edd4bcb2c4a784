package print_test

import (
	"fmt"
	"math"
	"slices"
	"strings"

	"bonsai/api"
)

// The words as the document says them, in another way than the program does: trees without arenas, whose texts are put together out of the kids' texts by functions that call themselves, with all pairs of kinds written out that ask for parentheses.

const (
	maxNodes   = 1024
	maxDepth   = 32
	maxRep     = 99
	maxName    = 32
	maxLiteral = 255
	maxSource  = 65536
)

// plant is a tree without an arena.
type plant struct {
	node api.Node // without Kids
	kids []plant
}

// Plants, in few letters.
func empty() plant                   { return plant{} }
func set(s api.Bytes) plant          { return plant{node: api.Node{Kind: 1, Set: s}} }
func lit(s string) plant             { return plant{node: api.Node{Kind: 2, Text: s}} }
func rule(s string) plant            { return plant{node: api.Node{Kind: 3, Text: s}} }
func seq(kids ...plant) plant        { return plant{api.Node{Kind: 4}, kids} }
func alt(kids ...plant) plant        { return plant{api.Node{Kind: 5}, kids} }
func rep(a, b int, kid plant) plant  { return plant{api.Node{Kind: 6, Min: a, Max: b}, []plant{kid}} }
func and(kid plant) plant            { return plant{api.Node{Kind: 7}, []plant{kid}} }
func not(kid plant) plant            { return plant{api.Node{Kind: 8}, []plant{kid}} }
func cut(name string, k plant) plant { return plant{api.Node{Kind: 9, Text: name}, []plant{k}} }

// bytesOf tells the set of these bytes.
func bytesOf(s string) (out api.Bytes) {
	for _, b := range []byte(s) {
		out[b>>6] |= 1 << (b & 63)
	}
	return out
}

var allBytes = api.Bytes{math.MaxUint64, math.MaxUint64, math.MaxUint64, math.MaxUint64}

// repeats tells whether S1 says that a Rep may have these numbers.
func repeats(a, b int) bool { return 0 <= a && a <= maxRep && (b == -1 || a <= b && b <= maxRep) }

// timesOf is the count of a Rep.
func timesOf(a, b int) string {
	if own, is := map[[2]int]string{{0, 1}: "?", {0, -1}: "*", {1, -1}: "+"}[[2]int{a, b}]; is {
		return own
	}
	if !repeats(a, b) {
		return ""
	}
	s := fmt.Sprintf("{%d,%d}", a, b)
	return strings.NewReplacer(fmt.Sprintf("{%d,%d}", a, a), fmt.Sprintf("{%d}", a), "-1", "").Replace(s)
}

// signOf is a byte's sign, beside those that stand by themselves but for a backslash.
func signOf(b byte, but string) string {
	switch {
	case strings.IndexByte(but, b) >= 0:
		return `\` + string(rune(b))
	case b < 32 || b > 126:
		return strings.NewReplacer(`\x0a`, `\n`, `\x0d`, `\r`, `\x09`, `\t`).Replace(fmt.Sprintf(`\x%02x`, b))
	}
	return string(rune(b))
}

func literalOf(s string) string {
	out := ""
	for _, b := range []byte(s) {
		out += signOf(b, `"\`)
	}
	return `"` + out + `"`
}

func classOf(s api.Bytes) string {
	var runs [][]string
	ahead := false
	for b := range 256 {
		is := s[b/64]>>(b%64)&1 == 1
		if is && !ahead {
			runs = append(runs, nil)
		}
		if is {
			last := len(runs) - 1
			runs[last] = append(runs[last], signOf(byte(b), `]-^\`))
		}
		ahead = is
	}
	out := ""
	for _, l := range runs {
		switch {
		case len(l) == 256:
			return "."
		case len(l) > 2:
			out += l[0] + "-" + l[len(l)-1]
		default:
			out += strings.Join(l, "")
		}
	}
	return "[" + out + "]"
}

// brackets are the kinds of the kids that stand in parentheses, by the kind around them.
var brackets = map[uint8][]uint8{4: {4, 5}, 5: {5}, 6: {4, 5, 6, 7, 8}, 7: {4, 5}, 8: {4, 5}}

// around tells the text of a node, of those of its kids, and their kinds.
func around(n api.Node, kinds []uint8, texts []string) string {
	var l []string
	for i, s := range texts {
		if slices.Contains(brackets[n.Kind], kinds[i]) {
			s = "(" + s + ")"
		}
		l = append(l, s)
	}
	switch n.Kind {
	case 0:
		return `""`
	case 1:
		return classOf(n.Set)
	case 2:
		return literalOf(n.Text)
	case 3:
		return n.Text
	case 4:
		return strings.Join(l, " ")
	case 5:
		return strings.Join(l, " / ")
	case 6:
		return l[0] + timesOf(n.Min, n.Max)
	case 7:
		return "&" + l[0]
	case 8:
		return "!" + l[0]
	}
	return "<" + n.Text + ": " + l[0] + ">"
}

// text is what the document says of a tree's text.
func (p plant) text() string {
	var kinds []uint8
	var texts []string
	for _, k := range p.kids {
		kinds, texts = append(kinds, k.node.Kind), append(texts, k.text())
	}
	return around(p.node, kinds, texts)
}

func (p plant) size() int {
	n := 1
	for _, k := range p.kids {
		n += k.size()
	}
	return n
}

// strewn tells an arena of a plant, in which the numbers stand as a row of numbers says.
func (p plant) strewn(r *numbers) api.Tree {
	type place struct {
		of   plant
		told *int
	}
	out := api.Tree{Nodes: make([]api.Node, p.size())}
	open := []place{{p, &out.Root}}
	for next := len(out.Nodes) - 1; next >= 0; next-- {
		pick := r.next(len(open))
		here := open[pick]
		open = slices.Delete(open, pick, pick+1)
		n := here.of.node
		n.Kids = make([]int, len(here.of.kids))
		for i, k := range here.of.kids {
			open = append(open, place{k, &n.Kids[i]})
		}
		out.Nodes[next], *here.told = n, next
	}
	return out
}

// clean tells the arena in which the kids stand ahead of their node, one behind the other.
func (p plant) clean() api.Tree {
	var out api.Tree
	var lay func(plant) int
	lay = func(p plant) int {
		n := p.node
		for _, k := range p.kids {
			n.Kids = append(n.Kids, lay(k))
		}
		out.Nodes = append(out.Nodes, n)
		return len(out.Nodes) - 1
	}
	out.Root = lay(p)
	return out
}

func (p plant) same(q plant) bool {
	n, m := p.node, q.node
	return n.Kind == m.Kind && n.Set == m.Set && n.Text == m.Text && n.Min == m.Min && n.Max == m.Max && slices.EqualFunc(p.kids, q.kids, plant.same)
}

// numbers is a row of numbers that is the same each time.
type numbers uint32

func (r *numbers) next(below int) int {
	*r = *r*22695477 + 1
	return int(*r>>9) % below
}

// alone is a plant of each kind, by its number, with the text that the document gives it.
var alone = []struct {
	p    plant
	text string
}{
	{empty(), `""`}, {set(bytesOf("abc")), "[a-c]"}, {lit("x"), `"x"`}, {rule("r"), "r"}, {seq(rule("x"), rule("y")), "x y"}, {alt(rule("x"), rule("y")), "x / y"},
	{rep(0, -1, rule("x")), "x*"}, {and(rule("x")), "&x"}, {not(rule("x")), "!x"}, {cut("n", rule("x")), "<n: x>"},
}

// leaves are leaves of each sort.
func leaves() []plant {
	l := []plant{
		empty(), set(api.Bytes{}), set(allBytes), set(bytesOf("a")), set(bytesOf("ab")), set(bytesOf("abc")), set(bytesOf("abcx")), set(bytesOf("]-^\\")), set(bytesOf("+,-.")), set(bytesOf("\n\r\t\x00\xff")), set(bytesOf("\"(<!")),
		lit("a"), lit("ab"), lit("\"\\"), lit("\n\r\t\x00\x7f\xff"), lit(" / "), lit("(a)"), lit("]-^"), lit(strings.Repeat("t", maxLiteral)), lit(strings.Repeat("\x00", maxLiteral)),
		rule("a"), rule("_"), rule("Z9_"), rule(strings.Repeat("n", maxName)),
	}
	for b := range 256 {
		one := bytesOf(string([]byte{byte(b)}))
		but := allBytes
		but[b>>6] &^= one[b>>6]
		l = append(l, set(one), set(but), lit(string([]byte{byte(b)})))
	}
	return l
}

// plants are of all sorts, normal and not.
func plants() []plant {
	l := leaves()
	for _, a := range alone {
		l = append(l, a.p)
	}
	x, y := rule("x"), rule("y")
	l = append(l,
		seq(lit("a"), seq(x, y)), seq(seq(x, y), seq(y, x)), alt(alt(x, y), y), alt(x, alt(y, alt(x, y))), seq(empty(), empty()), alt(empty(), empty()), seq(x, alt(y, seq(x, alt(y, empty())))),
		seq(empty(), x, empty()), rep(0, 0, seq(x, empty())), not(and(not(seq(x, y)))), cut("a", cut("b", cut("c", alt(x, seq(y, x))))), rep(0, 1, rep(1, -1, set(bytesOf("abc")))), rep(2, 2, rep(2, 2, rep(2, 3, x))),
		alt(slices.Repeat([]plant{x, seq(x, y)}, 100)...), seq(slices.Repeat([]plant{x, alt(x, y)}, 100)...), not(rep(0, -1, not(rep(0, -1, not(x))))),
	)
	r := numbers(1)
	for range 1500 {
		l = append(l, wild(&r, 1+r.next(5)))
	}
	return l
}

// wild tells a plant that a row of numbers says, so deep at most.
func wild(r *numbers, deep int) plant {
	if deep == 0 {
		return []plant{empty(), set(bytesOf("ab")), lit("a"), lit("b"), rule("a"), rule("b"), set(allBytes)}[r.next(7)]
	}
	switch r.next(8) {
	case 0:
		return wild(r, 0)
	case 1, 2:
		least := r.next(3)
		return rep(least, []int{-1, least, least + 1, maxRep}[r.next(4)], wild(r, deep-1))
	case 3:
		return []plant{and(wild(r, deep-1)), not(wild(r, deep-1))}[r.next(2)]
	case 4:
		return cut([]string{"a", "b"}[r.next(2)], wild(r, deep-1))
	}
	p := plant{node: api.Node{Kind: uint8(4 + r.next(2))}}
	for range 2 + r.next(3) {
		p.kids = append(p.kids, wild(r, deep-1))
	}
	return p
}

// small tells all plants of so many nodes, of these leaves, and of holders of one, and of more.
func small(nodes int, leaves []plant) []plant {
	if nodes == 1 {
		return leaves
	}
	var out []plant
	for _, p := range small(nodes-1, leaves) {
		out = append(out, and(p), not(p), rep(0, 1, p), rep(0, -1, p), rep(1, 1, p), cut("a", p))
	}
	for _, l := range rows(nodes-1, leaves) {
		if len(l) > 1 {
			out = append(out, seq(l...), alt(l...))
		}
	}
	return out
}

// rows tells all lists of plants that have so many nodes together.
func rows(nodes int, leaves []plant) [][]plant {
	if nodes == 0 {
		return [][]plant{nil}
	}
	var out [][]plant
	for first := 1; first <= nodes; first++ {
		others := rows(nodes-first, leaves)
		for _, p := range small(first, leaves) {
			for _, l := range others {
				out = append(out, append([]plant{p}, l...))
			}
		}
	}
	return out
}

// wrong is an arena that is not right, and why.
type wrong struct {
	why  string
	tree api.Tree
}

// wrongs are arenas that are not right, each in its way, of what is right but for that.
func wrongs() []wrong {
	a, s33 := api.Node{Kind: 2, Text: "a"}, strings.Repeat("n", maxName+1)
	of := func(root int, l ...api.Node) api.Tree { return api.Tree{Nodes: l, Root: root} }
	up := func(kind uint8, kids ...int) api.Node { return api.Node{Kind: kind, Kids: kids} }
	out := []wrong{
		{"no tree", api.Tree{}}, {"no node, root -1", of(-1)}, {"no node, root 1", of(1)}, {"no node, in a list", api.Tree{Nodes: []api.Node{}}},
		{"no root: 1 of 1", of(1, a)}, {"no root: -1", of(-1, a)}, {"no root: far off", of(math.MaxInt, a)}, {"no root: far below", of(math.MinInt, a)}, {"a root within", of(0, a, up(8, 0))},
		{"the kid of none, first", of(1, a, a)}, {"the kid of none, last", of(0, a, a)}, {"the kid of none, between", of(3, a, a, a, up(4, 0, 2))}, {"the kid of two", of(3, a, up(8, 0), up(7, 0), up(4, 1, 2))}, {"twice a kid", of(1, a, up(5, 0, 0))},
		{"its own kid", of(0, up(8, 0))}, {"its own kid, above", of(1, a, up(4, 0, 1))}, {"each other's kid", of(1, up(8, 1), up(8, 0))}, {"a kid behind", of(2, up(8, 1), a, up(8, 0))}, {"a kid -1", of(1, a, up(8, -1))}, {"a kid that is not there", of(1, a, up(4, 0, 2))}, {"a kid far off", of(1, a, up(8, math.MaxInt))},
		{"a Seq of none", of(0, up(4))}, {"a Choice of none", of(0, up(5))}, {"a Seq of one", of(1, a, up(4, 0))}, {"a Choice of one", of(1, a, up(5, 0))}, {"an And of none", of(0, up(7))}, {"a Not of two", of(2, a, a, up(8, 0, 1))}, {"a Rep of two", of(2, a, a, up(6, 0, 1))}, {"an Empty with a kid", of(1, a, up(0, 0))}, {"a Set with a kid", of(1, a, up(1, 0))},
		{"a Text with a kid", of(1, a, api.Node{Kind: 2, Text: "a", Kids: []int{0}})}, {"a Cap of none", of(0, api.Node{Kind: 9, Text: "n"})},
		{"Kind 10", of(0, api.Node{Kind: 10})}, {"Kind 10, with a kid", of(1, a, up(10, 0))}, {"Kind 255", of(0, api.Node{Kind: 255})}, {"Kind 16 + 4", of(2, a, a, up(20, 0, 1))},
	}
	spoil := func(why string, p plant, change func(*api.Node)) {
		x := p.clean()
		change(&x.Nodes[x.Root])
		in := seq(lit("a"), p).clean()
		change(&in.Nodes[1+p.size()-1])
		out = append(out, wrong{why, x}, wrong{why + ", within", in})
	}
	for _, s := range []string{"", "9", "a b", "a-", "é", s33, "a\n", "\"a\""} {
		spoil("a Rule "+s, rule("r"), func(n *api.Node) { n.Text = s })
		spoil("a Cap "+s, cut("n", empty()), func(n *api.Node) { n.Text = s })
	}
	spoil("a Text of nothing", lit("a"), func(n *api.Node) { n.Text = "" })
	spoil("a Text of 256 bytes", lit("a"), func(n *api.Node) { n.Text = strings.Repeat("a", maxLiteral+1) })
	for _, c := range [][2]int{{-1, 0}, {-1, -1}, {2, 1}, {1, 0}, {0, -2}, {100, -1}, {100, 100}, {0, 100}, {math.MinInt, -1}, {0, math.MinInt}, {0, math.MaxInt}} {
		spoil(fmt.Sprint("a Rep ", c), rep(0, 1, lit("a")), func(n *api.Node) { n.Min, n.Max = c[0], c[1] })
	}
	for _, c := range alone {
		k := c.p.node.Kind
		if k != 1 {
			spoil("a Set: "+c.text, c.p, func(n *api.Node) { n.Set[3] = 1 })
		}
		if k != 2 && k != 3 && k != 9 {
			spoil("a Text: "+c.text, c.p, func(n *api.Node) { n.Text = "a" })
		}
		if k != 6 {
			spoil("a Min: "+c.text, c.p, func(n *api.Node) { n.Min = 1 })
			spoil("a Max: "+c.text, c.p, func(n *api.Node) { n.Max = -1 })
		}
	}
	return out
}
