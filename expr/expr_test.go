package expr_test

import (
	"math"
	"regexp"
	"slices"
	"strings"
	"testing"

	"bonsai/api"
	"bonsai/expr"
	"bonsai/tree"
)

// wants holds what a call told against the plant that is wanted, clean; no plant: no.
func wants(t *testing.T, what string, got api.Tree, is bool, want *plant) {
	t.Helper()
	if want == nil {
		if is || !sameTree(got, api.Tree{}) {
			t.Fatalf("%s: %v, %v; wanted: no", what, got, is)
		}
		return
	}
	if !is || !sameTree(got, want.clean()) {
		t.Fatalf("%s: %v, %v; wanted: %v", what, got, is, want)
	}
}

// tellsOf holds all calls of one tree against what the document says of its plant.
func tellsOf(t *testing.T, p plant, x api.Tree) {
	t.Helper()
	made := p.made()
	what := p.String()
	got, is := expr.Make(x)
	wants(t, "Make "+what, got, is, &made)
	if n := expr.Normal(x); n != p.normal() || n != made.same(p) {
		t.Fatalf("Normal %s (%v): %v", what, x, n)
	}
	if l := expr.Parts(x); !sameTrees(l, cleans(made.parts())) {
		t.Fatalf("Parts %s: %v", what, l)
	}
	if l := expr.Ways(x); !sameTrees(l, cleans(made.ways())) {
		t.Fatalf("Ways %s: %v", what, l)
	}
	head, has := made.head()
	tail := made.tail()
	wantHead, wantTail := &head, &tail
	if !has {
		wantHead, wantTail = nil, nil
	}
	got, is = expr.Head(x)
	wants(t, "Head "+what, got, is, wantHead)
	got, is = expr.Tail(x)
	wants(t, "Tail "+what, got, is, wantTail)
	got, is = expr.Seq([]api.Tree{x})
	wants(t, "Seq of "+what, got, is, &made)
	got, is = expr.Choice([]api.Tree{x})
	wants(t, "Choice of "+what, got, is, &made)
	for head, n := range heads {
		about := plant{n, []plant{made}}
		got, is = overBy(n, x)
		wants(t, string(head)+" of "+what, got, is, &about)
	}
}

// overBy asks the call that is meant by a node of one kid.
func overBy(n api.Node, x api.Tree) (api.Tree, bool) {
	switch n.Kind {
	case api.Rep:
		return expr.Rep(x, n.Min, n.Max)
	case api.And:
		return expr.And(x)
	case api.Not:
		return expr.Not(x)
	}
	return expr.Cap(n.Text, x)
}

// tellsOfAll holds Seq and Choice of a list against what the document says of it.
func tellsOfAll(t *testing.T, l []plant, x []api.Tree) {
	t.Helper()
	want := seq(l...).made()
	got, is := expr.Seq(x)
	wants(t, "Seq"+names(l), got, is, &want)
	want = choice(l...).made()
	got, is = expr.Choice(x)
	wants(t, "Choice"+names(l), got, is, &want)
}

// P5.1, P5.2, P5.3: of all trees that are small, however their nodes are numbered.
func TestSmallTrees(t *testing.T) {
	r := numbers(1)
	for nodes := range 7 {
		leaves := "-0aR"
		if nodes > 4 {
			leaves = "-a"
		}
		for _, p := range small(nodes+1, leaves) {
			tellsOf(t, p, p.clean())
			tellsOf(t, p, p.strewn(&r))
		}
	}
}

// P5.1, P5.2, P5.3: of trees of each kind, normal or not, clean or not.
func TestSamples(t *testing.T) {
	r := numbers(2)
	normal, not := 0, 0
	for _, p := range samples() {
		for _, x := range p.arenas(&r) {
			tellsOf(t, p, x)
		}
		if p.normal() {
			normal++
		} else {
			not++
		}
	}
	if normal < 50 || not < 50 {
		t.Errorf("%d samples are normal, %d are not", normal, not)
	}
}

// P5.1: what trees are made, written out, so that the test's own words are held against something, too.
func TestMakeWrittenOut(t *testing.T) {
	r := numbers(3)
	for _, c := range []struct{ from, to string }{
		{"-", "-"}, {"0", "0"}, {"1", "1"}, {"a", "a"}, {"R", "R"}, {"(ab)", "(ab)"}, {"[ab]", "[ab]"}, {"*a", "*a"}, {"#-", "#-"}, {"!a", "!a"}, {"<-", "<-"},
		{"((ab)c)", "(abc)"}, {"(a(bc))", "(abc)"}, {"((ab)(cd))", "(abcd)"}, {"(a(b(c(de))))", "(abcde)"}, {"((((ab)c)d)e)", "(abcde)"}, {"(a((bc)(de))f)", "(abcdef)"},
		{"[[ab]c]", "[abc]"}, {"[a[bc]]", "[abc]"}, {"[[ab][cd]]", "[abcd]"}, {"[a[b[c[de]]]]", "[abcde]"}, {"[[[[ab]c]d]e]", "[abcde]"}, {"[a[[bc][de]]f]", "[abcdef]"},
		{"(-a)", "a"}, {"(a-)", "a"}, {"(--)", "-"}, {"(a-b)", "(ab)"}, {"(-ab-)", "(ab)"}, {"(-----)", "-"}, {"((--)(--))", "-"}, {"(a(--)b)", "(ab)"}, {"(a(-b-)c)", "(abc)"}, {"((-a)(b-))", "(ab)"},
		{"[--]", "[--]"}, {"[-a]", "[-a]"}, {"[a-]", "[a-]"}, {"[(--)a]", "[-a]"}, {"[[-a]-]", "[-a-]"}, {"[00]", "[00]"}, {"[0a]", "[0a]"}, {"[a0]", "[a0]"}, {"[[00]0]", "[000]"}, {"(0a)", "(0a)"}, {"(-0)", "0"},
		{"[(-[ab])c]", "[abc]"}, {"[a([bc]-)]", "[abc]"}, {"[(-(-[ab]))c]", "[abc]"}, {"[(-[(-[ab])c])d]", "[abcd]"}, {"(-[ab])", "[ab]"}, {"((-[ab])c)", "([ab]c)"}, {"[(a[bc])d]", "[(a[bc])d]"}, {"[(-(ab))c]", "[(ab)c]"}, {"(a(-[(bc)d]))", "(a[(bc)d])"},
		{"(a[bc])", "(a[bc])"}, {"[a(bc)]", "[a(bc)]"}, {"(a[(bc)d])", "(a[(bc)d])"}, {"[a(b[cd])]", "[a(b[cd])]"},
		{"*(a-)", "*a"}, {"*(--)", "*-"}, {"=(a(bc))", "=(abc)"}, {"&[[ab]c]", "&[abc]"}, {"!(-(ab))", "!(ab)"}, {"<(a(-b))", "<(ab)"}, {"!!(-a)", "!!a"}, {"(!(-a)-)", "!a"}, {"*(*(a-)*(-b))", "*(*a*b)"}, {"(&-a)", "(&-a)"}, {"(#a-)", "#a"}, {"(**-a)", "(**-a)"},
	} {
		p := read(c.from)
		want := read(c.to)
		for _, x := range p.arenas(&r) {
			got, is := expr.Make(x)
			wants(t, "Make "+c.from, got, is, &want)
			if n := expr.Normal(x); n != (c.from == c.to) {
				t.Errorf("Normal %s: %v", c.from, n)
			}
		}
	}
}

// P5.1: parts and ways of each kind, written out.
func TestPartsAndWays(t *testing.T) {
	r := numbers(4)
	for _, c := range []struct {
		of          string
		parts, ways []string
	}{
		{"-", nil, []string{"-"}}, {"(--)", nil, []string{"-"}}, {"0", []string{"0"}, []string{"0"}}, {"1", []string{"1"}, []string{"1"}}, {"a", []string{"a"}, []string{"a"}}, {"R", []string{"R"}, []string{"R"}},
		{"(ab)", []string{"a", "b"}, []string{"(ab)"}}, {"[ab]", []string{"[ab]"}, []string{"a", "b"}}, {"*a", []string{"*a"}, []string{"*a"}}, {"&a", []string{"&a"}, []string{"&a"}}, {"!-", []string{"!-"}, []string{"!-"}}, {"<(ab)", []string{"<(ab)"}, []string{"<(ab)"}},
		{"(a(bc))", []string{"a", "b", "c"}, []string{"(abc)"}}, {"[[ab]c]", []string{"[abc]"}, []string{"a", "b", "c"}}, {"(-a)", []string{"a"}, []string{"a"}}, {"(-[ab])", []string{"[ab]"}, []string{"a", "b"}},
		{"[-(--)]", []string{"[--]"}, []string{"-", "-"}}, {"[(ab)(cd)]", []string{"[(ab)(cd)]"}, []string{"(ab)", "(cd)"}}, {"([ab][cd])", []string{"[ab]", "[cd]"}, []string{"([ab][cd])"}}, {"(-([ab]-)[(-c)d])", []string{"[ab]", "[cd]"}, []string{"([ab][cd])"}},
		{"(!(-a)*[b[cd]])", []string{"!a", "*[bcd]"}, []string{"(!a*[bcd])"}}, {"[00]", []string{"[00]"}, []string{"0", "0"}}, {"(aaa)", []string{"a", "a", "a"}, []string{"(aaa)"}},
	} {
		for _, x := range read(c.of).arenas(&r) {
			if l := expr.Parts(x); !sameTrees(l, cleans(reads(c.parts...))) {
				t.Errorf("Parts %s: %v", c.of, l)
			}
			if l := expr.Ways(x); !sameTrees(l, cleans(reads(c.ways...))) {
				t.Errorf("Ways %s: %v", c.of, l)
			}
		}
	}
}

// P5.2: Seq and Choice of none, of one, of two, of many, written out.
func TestSeqAndChoice(t *testing.T) {
	r := numbers(5)
	for _, c := range []struct {
		of          []string
		seq, choice string
	}{
		{nil, "-", "0"}, {[]string{"-"}, "-", "-"}, {[]string{"0"}, "0", "0"}, {[]string{"a"}, "a", "a"}, {[]string{"(ab)"}, "(ab)", "(ab)"}, {[]string{"[ab]"}, "[ab]", "[ab]"}, {[]string{"(a(bc))"}, "(abc)", "(abc)"}, {[]string{"[a[bc]]"}, "[abc]", "[abc]"}, {[]string{"(--)"}, "-", "-"}, {[]string{"*(-a)"}, "*a", "*a"},
		{[]string{"a", "b"}, "(ab)", "[ab]"}, {[]string{"a", "a"}, "(aa)", "[aa]"}, {[]string{"-", "a"}, "a", "[-a]"}, {[]string{"a", "-"}, "a", "[a-]"}, {[]string{"-", "-"}, "-", "[--]"}, {[]string{"0", "a"}, "(0a)", "[0a]"}, {[]string{"a", "0"}, "(a0)", "[a0]"}, {[]string{"0", "0"}, "(00)", "[00]"},
		{[]string{"(ab)", "c"}, "(abc)", "[(ab)c]"}, {[]string{"a", "(bc)"}, "(abc)", "[a(bc)]"}, {[]string{"(ab)", "(cd)"}, "(abcd)", "[(ab)(cd)]"}, {[]string{"[ab]", "c"}, "([ab]c)", "[abc]"}, {[]string{"a", "[bc]"}, "(a[bc])", "[abc]"}, {[]string{"[ab]", "[cd]"}, "([ab][cd])", "[abcd]"}, {[]string{"[ab]", "(cd)"}, "([ab]cd)", "[ab(cd)]"},
		{[]string{"a", "b", "c"}, "(abc)", "[abc]"}, {[]string{"-", "a", "-"}, "a", "[-a-]"}, {[]string{"a", "-", "b"}, "(ab)", "[a-b]"}, {[]string{"-", "-", "-"}, "-", "[---]"}, {[]string{"-", "[ab]"}, "[ab]", "[-ab]"}, {[]string{"-", "(ab)"}, "(ab)", "[-(ab)]"}, {[]string{"(--)", "[a[bc]]", "-"}, "[abc]", "[-abc-]"},
		{[]string{"(-[ab])", "c"}, "([ab]c)", "[abc]"}, {[]string{"c", "([ab]-)"}, "(c[ab])", "[cab]"}, {[]string{"(-a)", "(-b)"}, "(ab)", "[ab]"}, {[]string{"&(-a)", "!(b(cd))"}, "(&a!(bcd))", "[&a!(bcd)]"}, {[]string{"*(ab)", "*[ab]"}, "(*(ab)*[ab])", "[*(ab)*[ab]]"},
	} {
		l := reads(c.of...)
		for _, x := range [][]api.Tree{cleans(l), strewns(l, &r)} {
			want := read(c.seq)
			got, is := expr.Seq(x)
			wants(t, "Seq"+names(l), got, is, &want)
			want = read(c.choice)
			got, is = expr.Choice(x)
			wants(t, "Choice"+names(l), got, is, &want)
		}
	}
	for _, none := range [][]api.Tree{nil, {}} {
		e, is := expr.Seq(none)
		if !is || !tree.Same(e, tree.Empty()) {
			t.Errorf("Seq of none: %v, %v", e, is)
		}
		e, is = expr.Choice(none)
		if !is || !tree.Same(e, tree.Set(api.Bytes{})) {
			t.Errorf("Choice of none: %v, %v", e, is)
		}
	}
}

// P5.2: Seq and Choice of all short lists of small trees, and of long ones.
func TestListsOfTrees(t *testing.T) {
	r := numbers(6)
	for nodes := range 6 {
		for _, l := range rows(nodes, "-0a") {
			tellsOfAll(t, l, cleans(l))
			tellsOfAll(t, l, strewns(l, &r))
		}
	}
	all := samples()
	for range 500 {
		var l []plant
		for range r.next(8) {
			l = append(l, all[r.next(len(all))])
		}
		tellsOfAll(t, l, strewns(l, &r))
	}
	one := read("(-[a(b-)])").clean()
	got, is := expr.Seq([]api.Tree{one, one, one})
	want := read("([ab][ab][ab])")
	wants(t, "Seq of one tree, thrice", got, is, &want)
}

// P5.2: a becomes what it is alone only once its kids are made normal: a Choice of one Seq within a Seq, a Seq of one Choice within a Choice.
func TestWhatBecomesOne(t *testing.T) {
	s, c := read("(ab)").clean(), read("[ab]").clean()
	x := tree.Text("x")
	one := func(of func([]api.Tree) (api.Tree, bool), l ...api.Tree) api.Tree {
		got, is := of(l)
		if !is {
			t.Fatalf("no: of %v", l)
		}
		return got
	}
	for _, e := range []struct {
		got  api.Tree
		want string
	}{
		{one(expr.Seq, one(expr.Choice, s), x), "(abx)"}, {one(expr.Seq, x, one(expr.Choice, s)), "(xab)"}, {one(expr.Choice, one(expr.Seq, c), x), "[abx]"}, {one(expr.Choice, x, one(expr.Seq, c)), "[xab]"},
		{one(expr.Choice, one(expr.Seq, tree.Empty(), c), x), "[abx]"}, {one(expr.Choice, x, one(expr.Seq, c, tree.Empty())), "[xab]"}, {one(expr.Seq, one(expr.Choice, one(expr.Seq, tree.Empty(), c))), "[ab]"}, {one(expr.Choice, one(expr.Seq), one(expr.Choice)), "[-0]"},
		{one(expr.Seq, one(expr.Choice, tree.Empty()), x), "x"}, {one(expr.Seq, one(expr.Choice), x), "(0x)"}, {one(expr.Choice, one(expr.Choice), x), "[0x]"}, {one(expr.Seq, one(expr.Seq), x), "x"},
	} {
		want := read(e.want)
		wants(t, e.want, e.got, true, &want)
	}
}

// P5.2: Rep with all numbers about its ends, and far beyond them.
func TestRep(t *testing.T) {
	nums := []int{math.MinInt, -1 << 32, -100, 1 << 32, 1<<32 + 5, math.MaxInt}
	for n := -3; n <= 103; n++ {
		nums = append(nums, n)
	}
	from, to := read("(-[a[bc]])").clean(), read("[abc]")
	for _, least := range nums {
		for _, most := range nums {
			var want *plant
			if 0 <= least && least <= 99 && (most == -1 || least <= most && most <= 99) {
				want = &plant{api.Node{Kind: 6, Min: least, Max: most}, []plant{to}}
			}
			got, is := expr.Rep(from, least, most)
			wants(t, "Rep", got, is, want)
		}
	}
	for _, c := range [][2]int{{0, 0}, {0, 99}, {99, 99}, {0, -1}, {99, -1}, {1, 1}} {
		if got, is := expr.Rep(tree.Empty(), c[0], c[1]); !is || got.Nodes[1].Min != c[0] || got.Nodes[1].Max != c[1] {
			t.Errorf("Rep %v: %v, %v", c, got, is)
		}
	}
	for _, c := range [][2]int{{-1, 0}, {-1, -1}, {0, 100}, {100, 100}, {100, -1}, {0, -2}, {2, 1}, {99, 98}} {
		if got, is := expr.Rep(tree.Empty(), c[0], c[1]); is {
			t.Errorf("Rep %v: %v", c, got)
		}
	}
}

var nameForm = regexp.MustCompile(`\A[a-zA-Z_][a-zA-Z_0-9]{0,31}\z`)

// P5.2: Cap with names that may be, and that may not.
func TestCap(t *testing.T) {
	l := []string{"", "a", "_", "Z9", "a_b", "1", "1a", "a1", "a-b", "a b", " a", "a ", "\x00", "a\n", "\u00e9", "\xff", "<-", strings.Repeat("n", 31), strings.Repeat("n", 32), strings.Repeat("n", 33), strings.Repeat("n", 5000), "1" + strings.Repeat("n", 31)}
	for b := range 256 {
		l = append(l, string([]byte{byte(b)}), string([]byte{'a', byte(b)}))
	}
	from, to := read("(a(-b))").clean(), read("(ab)")
	may := 0
	for _, s := range l {
		var want *plant
		if nameForm.MatchString(s) {
			want = &plant{api.Node{Kind: 9, Text: s}, []plant{to}}
			may++
		}
		got, is := expr.Cap(s, from)
		wants(t, "Cap "+s, got, is, want)
	}
	if may != 53+63+7 {
		t.Errorf("%d names may be", may)
	}
}

// P5.3: head and tail of each kind, of Seqs that begin by each kind, and of what has none; written out.
func TestHeadAndTail(t *testing.T) {
	r := numbers(7)
	for _, c := range []struct{ of, head, tail string }{
		{"-", "", ""}, {"(--)", "", ""}, {"(-(--)-)", "", ""},
		{"0", "0", "-"}, {"1", "1", "-"}, {"a", "a", "-"}, {"R", "R", "-"}, {"[ab]", "[ab]", "-"}, {"[-a]", "[-a]", "-"}, {"[(ab)(ac)]", "[(ab)(ac)]", "-"}, {"*a", "*a", "-"}, {"#-", "#-", "-"}, {"=(ab)", "=(ab)", "-"}, {"&(ab)", "&(ab)", "-"}, {"!-", "!-", "-"}, {"<(ab)", "<(ab)", "-"},
		{"(ab)", "a", "b"}, {"(abc)", "a", "(bc)"}, {"(0a)", "0", "a"}, {"(1ab)", "1", "(ab)"}, {"(Rab)", "R", "(ab)"}, {"([ab]c)", "[ab]", "c"}, {"(*ab)", "*a", "b"}, {"(?(ab)c)", "?(ab)", "c"}, {"(&ab)", "&a", "b"}, {"(!aa)", "!a", "a"}, {"(<ab)", "<a", "b"}, {"(<(ab)(cd))", "<(ab)", "(cd)"},
		{"(-a)", "a", "-"}, {"(-ab)", "a", "b"}, {"(-(-(ab))c)", "a", "(bc)"}, {"((ab)c)", "a", "(bc)"}, {"(((ab)c)(d-))", "a", "(bcd)"}, {"((--)a(--))", "a", "-"}, {"(a[bc])", "a", "[bc]"}, {"(a[(bc)d])", "a", "[(bc)d]"}, {"(-[a[bc]])", "[abc]", "-"}, {"(aa)", "a", "a"}, {"(a(b(c(de))))", "a", "(bcde)"}, {"[(ab)c]", "[(ab)c]", "-"},
	} {
		var head, tail *plant
		if c.head != "" {
			head, tail = &reads(c.head)[0], &reads(c.tail)[0]
		}
		for _, x := range read(c.of).arenas(&r) {
			got, is := expr.Head(x)
			wants(t, "Head "+c.of, got, is, head)
			got, is = expr.Tail(x)
			wants(t, "Tail "+c.of, got, is, tail)
		}
	}
}

// P5.1, P5.2, P5.3: of what is not right nothing is told, nor of lists in which it stands.
func TestNotRight(t *testing.T) {
	a, b := read("(a-)").clean(), read("[ab]").clean()
	for _, c := range wrongs() {
		x := c.tree
		if tree.Right(x) {
			t.Fatalf("it is right: %s", c.why)
		}
		no := func(what string, got api.Tree, is bool) {
			t.Helper()
			wants(t, what+", "+c.why, got, is, nil)
		}
		got, is := expr.Make(x)
		no("Make", got, is)
		got, is = expr.Head(x)
		no("Head", got, is)
		got, is = expr.Tail(x)
		no("Tail", got, is)
		for _, n := range heads {
			got, is = overBy(n, x)
			no("what is about it", got, is)
		}
		for _, l := range [][]api.Tree{{x}, {x, a}, {a, x}, {a, x, b}, {x, a, b}, {a, b, x}, {x, x}, {x, tree.Empty()}, {tree.Empty(), x}, {x, {}}} {
			got, is = expr.Seq(l)
			no("Seq", got, is)
			got, is = expr.Choice(l)
			no("Choice", got, is)
		}
		if expr.Normal(x) || len(expr.Parts(x)) != 0 || len(expr.Ways(x)) != 0 {
			t.Errorf("%s: Normal %v, Parts %v, Ways %v", c.why, expr.Normal(x), expr.Parts(x), expr.Ways(x))
		}
	}
	got, is := expr.Rep(api.Tree{}, 2, 1)
	wants(t, "Rep, in whatever way wrong", got, is, nil)
	got, is = expr.Cap("", api.Tree{})
	wants(t, "Cap, in whatever way wrong", got, is, nil)
}

// The chapter's examples.
func TestExamples(t *testing.T) {
	a, b, c := tree.Text("a"), tree.Text("b"), tree.Text("c")
	bc, _ := expr.Seq([]api.Tree{b, c})
	abc, is := expr.Seq([]api.Tree{a, tree.Empty(), bc})
	want := read("(abc)")
	wants(t, "Seq of a, Empty, and Seq of b, c", abc, is, &want)
	empty := read("-")
	for _, l := range [][]api.Tree{nil, {tree.Empty()}} {
		got, is := expr.Seq(l)
		wants(t, "Seq of none, of Empty", got, is, &empty)
	}
	x, y, z := tree.Rule("X"), tree.Rule("Y"), tree.Rule("Z")
	xy, _ := expr.Choice([]api.Tree{x, y})
	xyz, is := expr.Choice([]api.Tree{xy, z})
	want = read("[XYZ]")
	wants(t, "Choice of (Choice of x, y) and z", xyz, is, &want)
	none, is := expr.Choice(nil)
	want = read("0")
	wants(t, "Choice of none", none, is, &want)
	head, is := expr.Head(abc)
	want = read("a")
	wants(t, "Head", head, is, &want)
	tail, is := expr.Tail(abc)
	want = read("(bc)")
	wants(t, "Tail", tail, is, &want)
	rep, is := expr.Rep(x, 0, -1)
	want = read("*X")
	wants(t, "Rep", rep, is, &want)
	head, is = expr.Head(rep)
	wants(t, "Head of x*", head, is, &want)
	tail, is = expr.Tail(rep)
	wants(t, "Tail of x*", tail, is, &empty)
	got, is := expr.Rep(x, 3, 2)
	wants(t, "Rep of x, 3, 2", got, is, nil)
}

// flat tells a Seq, or a Choice, of so many Texts.
func flat(kind uint8, many int) api.Tree {
	var x api.Tree
	root := api.Node{Kind: kind}
	for i := range many {
		x.Nodes = append(x.Nodes, api.Node{Kind: 2, Text: string(rune('a' + i%26))})
		root.Kids = append(root.Kids, i)
	}
	x.Nodes, x.Root = append(x.Nodes, root), many
	return x
}

// nested tells so many nodes of a kind, of two, each within the next one, as its first kid or its last one, with the same Texts in a row.
func nested(kind uint8, many int, first bool) api.Tree {
	texts := flat(kind, many+1).Nodes[:many+1]
	if !first {
		slices.Reverse(texts)
	}
	x := api.Tree{Nodes: texts[:1:1]}
	for _, n := range texts[1:] {
		kids := []int{x.Root, x.Root + 1}
		if !first {
			slices.Reverse(kids)
		}
		x.Nodes = append(x.Nodes, n, api.Node{Kind: kind, Kids: kids})
		x.Root += 2
	}
	return x
}

// tower tells a Text with so many nodes above it, one above the other, each of one kid, or with an Empty ahead of it.
func tower(many int, kinds ...uint8) api.Tree {
	x := api.Tree{Nodes: []api.Node{{Kind: 2, Text: "a"}}}
	for i := range many {
		n := api.Node{Kind: kinds[i%len(kinds)], Kids: []int{x.Root}}
		if n.Kind == 4 || n.Kind == 5 {
			x.Nodes = append(x.Nodes, api.Node{})
			x.Root++
			n.Kids = []int{x.Root, x.Root - 1}
		}
		x.Nodes = append(x.Nodes, n)
		x.Root++
	}
	return x
}

// P5.1, P5.2, P5.3, R1: with more nodes, and more of them one within the other, than a tree that may be has; it ends, and soon.
func TestManyNodes(t *testing.T) {
	for _, kind := range []uint8{4, 5} {
		for _, many := range []int{30, 31, 32, 33, 1022, 1023, 1024, 1025, 1 << 16} {
			want := flat(kind, many+1)
			for _, x := range []api.Tree{want, nested(kind, many, true), nested(kind, many, false)} {
				if got, is := expr.Make(x); !is || !sameTree(got, want) {
					t.Fatalf("Make of %d nodes: not as it should be: %v", len(x.Nodes), is)
				}
				if n := expr.Normal(x); n != (len(x.Nodes) == len(want.Nodes)) {
					t.Errorf("Normal of %d nodes: %v", len(x.Nodes), n)
				}
				parts, ways := expr.Parts(x), expr.Ways(x)
				if kind == 5 {
					parts, ways = ways, parts
				}
				if len(parts) != many+1 || len(ways) != 1 || !sameTree(ways[0], want) || !sameTree(parts[many], tree.Text(want.Nodes[many].Text)) {
					t.Errorf("Parts, Ways of %d nodes: %d, %d", len(x.Nodes), len(parts), len(ways))
				}
				got, is := expr.Seq([]api.Tree{x, tree.Empty()})
				other, _ := expr.Choice([]api.Tree{x})
				if !is || !sameTree(got, want) || !sameTree(other, want) {
					t.Errorf("Seq, Choice of %d nodes: not as they should be: %v", len(x.Nodes), is)
				}
			}
		}
	}
	long := flat(4, 1<<16)
	if head, is := expr.Head(long); !is || !sameTree(head, tree.Text("a")) {
		t.Errorf("Head: %v, %v", head, is)
	}
	if tail, is := expr.Tail(long); !is || len(tail.Nodes) != 1<<16 || len(tail.Nodes[tail.Root].Kids) != 1<<16-1 {
		t.Errorf("Tail of %d nodes: %v", len(long.Nodes), is)
	}
}

// P5.1, R1: what is deep stays deep, or comes to nearly nothing; and it ends soon.
func TestDeepTrees(t *testing.T) {
	const deep = 1 << 16
	a := tree.Text("a")
	for _, c := range []struct {
		what  string
		x     api.Tree
		nodes int // that are left
	}{
		{"Nots", tower(deep, 8), deep + 1}, {"Ands and Nots", tower(deep, 7, 8, 7, 7), deep + 1},
		{"Seqs, each of Empty and another one", tower(deep, 4), 1}, {"Choices, each of Empty and another one", tower(deep, 5), deep + 2},
		{"Seqs and Choices", tower(deep, 4, 5), deep/2 + 2}, {"Seqs and Nots", tower(deep, 4, 8), deep/2 + 1}, {"Choices and Nots", tower(deep, 5, 8), deep/2*3 + 1}, {"Seqs, Choices and Nots", tower(deep-1, 4, 5, 8), (deep-1)/3*3 + 1},
	} {
		got, is := expr.Make(c.x)
		if !is || len(got.Nodes) != c.nodes || !expr.Normal(got) {
			t.Fatalf("Make of %s: %d nodes, %v", c.what, len(got.Nodes), is)
		}
		if again, is := expr.Make(got); !is || !sameTree(again, got) || !sameTree(tree.Clean(got), got) {
			t.Errorf("Make of %s: another thing the second time", c.what)
		}
		if n := expr.Normal(c.x); n != (len(c.x.Nodes) == c.nodes) {
			t.Errorf("Normal of %s: %v", c.what, n)
		}
		if c.nodes == 1 && !sameTree(got, a) {
			t.Errorf("Make of %s: %v", c.what, got)
		}
	}
}
