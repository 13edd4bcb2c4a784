package print_test

import (
	"fmt"
	"reflect"
	"slices"
	"strings"
	"testing"
	"unsafe"

	"bonsai/api"
	"bonsai/expr"
	"bonsai/parse"
	"bonsai/print"
	"bonsai/tree"
)

// sameTree, to the node's number: a list of nothing and no list are the same.
func sameTree(a, b api.Tree) bool {
	return a.Root == b.Root && slices.EqualFunc(a.Nodes, b.Nodes, func(m, n api.Node) bool {
		return m.Kind == n.Kind && m.Set == n.Set && m.Text == n.Text && m.Min == n.Min && m.Max == n.Max && slices.Equal(m.Kids, n.Kids)
	})
}

// P8.2: no two small trees that are not the same have the same text.
func TestSmallUnlike(t *testing.T) {
	told := map[string]plant{}
	for n := range 6 {
		l := []plant{empty(), rule("a")}
		if n < 4 {
			l = append(l, lit("a"), set(bytesOf("a")))
		}
		for _, p := range small(n+1, l) {
			s := print.Tree(p.clean())
			if q, is := told[s]; is && !p.same(q) {
				t.Fatalf("%s is told of %v, and of %v", s, p, q)
			}
			told[s] = p
		}
	}
	if len(told) < 20000 {
		t.Errorf("only %d texts are told", len(told))
	}
}

// P8.2: of trees of all sorts, in whatever arenas.
func TestUnlike(t *testing.T) {
	r := numbers(3)
	l := plants()
	same := 0
	for i, p := range l {
		x := p.strewn(&r)
		s := print.Tree(x)
		for j := range 60 {
			q := p
			if j > 0 {
				q = l[(i*7+j*31)%len(l)]
			}
			y := q.strewn(&r)
			is := tree.Same(x, y)
			if (print.Tree(y) == s) != is {
				t.Fatalf("%s, and %s: the same tree: %v", brief(s), brief(print.Tree(y)), is)
			}
			if is {
				same++
			}
		}
	}
	if same < len(l) {
		t.Errorf("only %d are the same", same)
	}
}

// changed tells an arena that is right with one thing changed: by turns the Kind, the Text, the Set, the numbers of a node, or two kids change places.
func changed(r *numbers, x api.Tree) api.Tree {
	y := tree.Clean(x)
	n := &y.Nodes[r.next(len(y.Nodes))]
	switch n.Kind {
	case 0:
		*n = api.Node{Kind: 1}
	case 1:
		n.Set[r.next(4)] ^= 1 << r.next(64)
	case 2, 3, 9:
		if r.next(3) == 0 && n.Kind != 9 {
			n.Kind = 5 - n.Kind
		} else {
			n.Text += string("ab_"[r.next(3)])
		}
	case 4, 5:
		if r.next(2) == 0 {
			n.Kind = 9 - n.Kind
		} else {
			at := r.next(len(n.Kids) - 1)
			n.Kids[at], n.Kids[at+1] = n.Kids[at+1], n.Kids[at]
		}
	case 6:
		if r.next(2) == 0 {
			n.Min = min(n.Min+1, maxRep)
			n.Max = max(n.Max, -1)
		} else {
			n.Max = []int{n.Min, n.Min + 1, maxRep, -1}[r.next(4)]
		}
	default:
		n.Kind = 15 - n.Kind
	}
	return y
}

// P8.2: one thing that is changed is to be seen in the text.
func TestChanged(t *testing.T) {
	r := numbers(4)
	others := 0
	for _, p := range plants() {
		x := p.strewn(&r)
		for range 12 {
			y := changed(&r, x)
			if !tree.Right(y) {
				if s := print.Tree(y); s != "" {
					t.Fatalf("%v is not right: %s", y, s)
				}
				continue
			}
			same := tree.Same(x, y)
			if (print.Tree(x) == print.Tree(y)) != same {
				t.Fatalf("%s, and %s: the same tree: %v", brief(print.Tree(x)), brief(print.Tree(y)), same)
			}
			if !same {
				others++
			}
		}
	}
	if others < 10000 {
		t.Errorf("only %d are another tree", others)
	}
}

// P8.3: a tree's text is read as that tree made normal, if that may be; else it is more than there may be.
func TestRead(t *testing.T) {
	r := numbers(5)
	l := plants()
	for n := range 5 {
		l = append(l, small(n+1, []plant{empty(), lit("a")})...)
	}
	tooLarge, normal := 0, 0
	for _, c := range [][2]int{{maxDepth, 1}, {maxDepth - 1, 1}, {2, maxNodes}, {2, maxNodes - 1}, {2, maxNodes - 2}, {3, 400}} {
		p := plant{node: api.Node{Kind: 5}, kids: slices.Repeat([]plant{rule("x")}, c[1])}
		if c[1] == 1 {
			p = rule("x")
		}
		for range c[0] - 1 {
			p = not(p)
		}
		l = append(l, p, cut("n", p), seq(p, p), seq(empty(), p), alt(p, p), rep(0, 1, p))
	}
	for _, p := range l {
		x := p.strewn(&r)
		s := print.Tree(x)
		if len(s) > maxSource {
			t.Fatalf("a sample of %d bytes", len(s))
		}
		want, _ := expr.Make(x)
		if expr.Normal(x) {
			normal++
		}
		for _, text := range []string{s, "(" + s + ")", " " + s + " # x"} {
			got, at, e := parse.Expr(text)
			if tree.May(want) {
				if e != api.OK || at != 0 || !sameTree(got, want) {
					t.Fatalf("%s: read as %v, %d, %d", brief(text), brief(fmt.Sprint(got)), at, e)
				}
				continue
			}
			tooLarge++
			if e != api.ErrTooLarge || at != len(text) {
				t.Fatalf("%s: more than may be is read: %d, %d", brief(text), at, e)
			}
		}
	}
	if tooLarge < 10 || normal < 500 || normal == len(l) {
		t.Errorf("%d are too large, %d of %d normal", tooLarge, normal, len(l))
	}
}

// P8.3: a text of MaxSource bytes, just so long, is read; deep ones are read as what they are made.
func TestReadLong(t *testing.T) {
	text := lit(strings.Repeat("\x00", maxLiteral))
	kids := slices.Repeat([]plant{text}, 64)
	left := maxSource - len(seq(kids...).text())
	kids = append(kids, slices.Repeat([]plant{rule("a")}, left/2)...)
	p := seq(kids...)
	if left%2 == 1 {
		p.kids[64] = rule("ab")
	}
	s := print.Tree(p.clean())
	want := p.clean()
	if got, at, e := parse.Expr(s); len(s) != maxSource || at != 0 || e != api.OK || !sameTree(got, want) {
		t.Errorf("of %d bytes: %d nodes, %d, %d", len(s), len(got.Nodes), at, e)
	}
	for deep := range 20 {
		// Seqs within Seqs and Choices within Choices are opened: so many levels come to two.
		for _, n := range []api.Node{{Kind: 4}, {Kind: 5}} {
			x := nested(deep*40+1, n)
			want, _ := expr.Make(x)
			if got, at, e := parse.Expr(print.Tree(x)); at != 0 || e != api.OK || !sameTree(got, want) {
				t.Errorf("%d deep: %d nodes, %d, %d", deep*40+1, len(got.Nodes), at, e)
			}
		}
	}
}

// grammars are of rules that call each other, normal and small enough to be read again.
func grammars(many int) []api.Grammar {
	r := numbers(6)
	names := []string{"a", "b", "x", "y", "r", "Z9_"}
	var l []plant
	for _, p := range plants() {
		calls := func(n api.Node) bool { return n.Kind == 3 && !slices.Contains(names, n.Text) }
		if x := p.clean(); expr.Normal(x) && tree.May(x) && !slices.ContainsFunc(x.Nodes, calls) {
			l = append(l, p)
		}
	}
	var out []api.Grammar
	for range many {
		var g api.Grammar
		for _, s := range names {
			g.Rules = append(g.Rules, api.Def{Name: s, Body: l[r.next(len(l))].clean()})
		}
		out = append(out, g)
	}
	return out
}

// P8.3: so is a grammar's, rule by rule.
func TestGrammarsRead(t *testing.T) {
	for _, g := range grammars(600) {
		s := print.Grammar(g)
		got, at, e := parse.Grammar(s)
		if e != api.OK || at != 0 || len(got.Rules) != len(g.Rules) {
			t.Fatalf("%s: %d rules, %d, %d", brief(s), len(got.Rules), at, e)
		}
		for i, d := range g.Rules {
			if got.Rules[i].Name != d.Name || !sameTree(got.Rules[i].Body, d.Body) {
				t.Fatalf("%s: rule %d is read as %v", brief(s), i, got.Rules[i])
			}
		}
		if again := print.Grammar(got); again != s {
			t.Fatalf("%s: read, and written again: %s", brief(s), brief(again))
		}
	}
}

// P8.4: a text is made of the kids' texts, and as long as these, its signs, and its parentheses.
func TestPutTogether(t *testing.T) {
	r := numbers(7)
	held := 0
	for _, p := range plants() {
		x := p.strewn(&r)
		n := tree.Root(x)
		var kinds []uint8
		var texts []string
		long := 0
		for _, k := range tree.Kids(x) {
			kind, s := tree.Root(k).Kind, print.Tree(k)
			kinds, texts = append(kinds, kind), append(texts, s)
			long += len(s)
			if slices.Contains(brackets[n.Kind], kind) {
				long += len("()")
			}
		}
		if len(texts) == 0 {
			continue
		}
		held++
		got := print.Tree(x)
		if want := around(n, kinds, texts); got != want {
			t.Fatalf("%s; out of the kids' texts: %s", brief(got), brief(want))
		}
		switch n.Kind {
		case 4:
			long += len(texts) - 1
		case 5:
			long += 3 * (len(texts) - 1)
		case 6:
			long += len(print.Count(n.Min, n.Max))
		case 7, 8:
			long++
		case 9:
			long += len("<: >") + len(n.Text)
		}
		if len(got) != long {
			t.Fatalf("%s: %d bytes, not %d", brief(got), len(got), long)
		}
	}
	if held < 800 {
		t.Errorf("only %d have kids", held)
	}
}

// P8.5: a tree's text has bytes 32 to 126 alone; a grammar's has a LF for each rule, the last one at its end.
func TestOneLine(t *testing.T) {
	r := numbers(8)
	l := plants()
	printable := func(s string) bool {
		return !strings.ContainsFunc(s, func(c rune) bool { return c < 32 || c > 126 })
	}
	for _, p := range l {
		if s := print.Tree(p.clean()); !printable(s) || s == "" {
			t.Fatalf("%q", s)
		}
	}
	for range 600 {
		var g api.Grammar
		for range 1 + r.next(70) {
			g.Rules = append(g.Rules, api.Def{Name: string("abc"[r.next(3)]), Body: l[r.next(len(l))].clean()})
		}
		lines := strings.SplitAfter(print.Grammar(g), "\n")
		if len(lines) != len(g.Rules)+1 || lines[len(g.Rules)] != "" {
			t.Fatalf("%d rules, %d lines, behind the last one %q", len(g.Rules), len(lines), lines[len(lines)-1])
		}
		for i, d := range g.Rules {
			if lines[i] != print.Def(d) || !printable(strings.TrimSuffix(lines[i], "\n")) {
				t.Fatalf("line %d: %q; alone: %q", i, lines[i], print.Def(d))
			}
		}
	}
}

// roomy tells a copy of a grammar whose lists have room behind their ends, in which something stands, and whose texts' bytes can be written to: these are told, too.
func roomy(g api.Grammar) (out api.Grammar, texts [][]byte) {
	text := func(s string) string {
		if s == "" {
			return s
		}
		b := []byte(s)
		texts = append(texts, b)
		return unsafe.String(&b[0], len(b))
	}
	for _, d := range g.Rules {
		nodes := make([]api.Node, 0, len(d.Body.Nodes)+2)
		for _, n := range d.Body.Nodes {
			n.Text = text(n.Text)
			n.Kids = append(make([]int, 0, len(n.Kids)+2), n.Kids...)
			copy(n.Kids[len(n.Kids):cap(n.Kids)], []int{7, 8})
			nodes = append(nodes, n)
		}
		nodes[:cap(nodes)][len(nodes)] = api.Node{Kind: 8, Text: "x", Kids: []int{0}}
		out.Rules = append(out.Rules, api.Def{Name: text(d.Name), Body: api.Tree{Nodes: nodes, Root: d.Body.Root}})
	}
	return api.Grammar{Rules: append(out.Rules, api.Def{Name: "behind"})[:len(g.Rules)]}, texts
}

// copied tells a copy of a grammar, with all that stands behind the ends of its lists.
func copied(g api.Grammar) []api.Def {
	out := slices.Clone(g.Rules[:cap(g.Rules)])
	for i, d := range out {
		nodes := slices.Clone(d.Body.Nodes[:cap(d.Body.Nodes)])
		for j, n := range nodes {
			nodes[j].Text, nodes[j].Kids = strings.Clone(n.Text), slices.Clone(n.Kids[:cap(n.Kids)])
		}
		out[i] = api.Def{Name: strings.Clone(d.Name), Body: api.Tree{Nodes: nodes, Root: d.Body.Root}}
	}
	return out
}

// ask tells all that the calls tell of a grammar.
func ask(g api.Grammar) []string {
	out := []string{print.Grammar(g), fmt.Sprint(print.Size(g))}
	for _, d := range g.Rules {
		out = append(out, print.Def(d), print.Tree(d.Body))
	}
	return out
}

// R1: what is handed in stays as it was, also behind the lists' ends; what is told shares no memory with it; and the same is told each time.
func TestStandsApart(t *testing.T) {
	r := numbers(9)
	l := grammars(60)
	for _, p := range plants() {
		l = append(l, api.Grammar{Rules: []api.Def{{Name: "a", Body: p.strewn(&r)}}}, api.Grammar{Rules: []api.Def{{Name: "a", Body: p.clean()}, {Name: "9", Body: p.strewn(&r)}}})
	}
	for _, c := range wrongs() {
		l = append(l, api.Grammar{Rules: []api.Def{{Name: "a", Body: lit("x").clean()}, {Name: "b", Body: c.tree}}})
	}
	for _, g := range l {
		held, texts := roomy(g)
		before := copied(held)
		first := ask(held)
		if !reflect.DeepEqual(copied(held), before) {
			t.Fatalf("%v was changed", brief(fmt.Sprint(g)))
		}
		want := ask(g)
		if !slices.Equal(first, want) || !slices.Equal(ask(held), want) {
			t.Fatalf("of %v another thing is told the second time, or without room behind", brief(fmt.Sprint(g)))
		}
		for i := range want {
			want[i] = strings.Clone(want[i])
		}
		for _, b := range texts {
			for i := range b {
				b[i] = '?'
			}
		}
		if !slices.Equal(first, want) {
			t.Fatalf("what is told of %v is seen to change with it", brief(fmt.Sprint(g)))
		}
	}
}

// R1: whatever is handed in, each call ends, and an arena is told right just if it has a text.
func TestWhatever(t *testing.T) {
	r := numbers(10)
	right := 0
	for range 400000 {
		var x api.Tree
		for i := range r.next(5) {
			n := api.Node{Kind: uint8(r.next(11))}
			for range []int{0, 1, 2, 2}[r.next(4)] {
				n.Kids = append(n.Kids, r.next(i+3)-1)
			}
			switch r.next(6) {
			case 0:
				n.Set[r.next(4)] = 1
			case 1:
				n.Min, n.Max = r.next(5)-2, r.next(5)-2
			case 2, 3:
				n.Text = []string{"a", "9", "B"}[r.next(3)]
			}
			x.Nodes = append(x.Nodes, n)
		}
		x.Root = len(x.Nodes) - 1 + []int{0, 0, 0, -1, 1}[r.next(5)]
		is := tree.Right(x)
		if is {
			right++
		}
		s := print.Tree(x)
		if (s != "") != is {
			t.Fatalf("%v is right: %v; its text: %q", x, is, s)
		}
		if want := "a <- " + s + "\n"; is && print.Grammar(api.Grammar{Rules: []api.Def{{Name: "a", Body: x}}}) != want {
			t.Fatalf("%v: a grammar of %s", x, s)
		}
	}
	if right < 1000 {
		t.Errorf("only %d are right", right)
	}
}
