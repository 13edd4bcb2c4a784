package print_test

import (
	"fmt"
	"math"
	"slices"
	"strings"
	"testing"

	"bonsai/api"
	"bonsai/print"
)

// brief tells how a text begins, and how long it is.
func brief(s string) string {
	if len(s) < 400 {
		return s
	}
	return fmt.Sprintf("%s .. (%d bytes)", s[:400], len(s))
}

// tells says that a tree, in several arenas, has that text, alone, and as a rule's body.
func tells(t *testing.T, p plant, want string) {
	t.Helper()
	r := numbers(len(want))
	for _, x := range []api.Tree{p.clean(), p.strewn(&r), p.strewn(&r)} {
		if got := print.Tree(x); got != want {
			t.Errorf("%v: %s; wanted: %s", brief(fmt.Sprint(x)), brief(got), brief(want))
		}
		if got := print.Def(api.Def{Name: "R_1", Body: x}); got != "R_1 <- "+want+"\n" {
			t.Errorf("a rule of %s: %s", brief(want), brief(got))
		}
	}
}

// P8.1: the chapter's examples.
func TestExamples(t *testing.T) {
	x, y := rule("x"), rule("y")
	tells(t, alt(seq(lit("a"), rule("b")), empty()), `"a" b / ""`)
	tells(t, not(seq(x, y)), "!(x y)")
	tells(t, rep(0, 1, rep(1, -1, set(bytesOf("abc")))), "([a-c]+)?")
	tells(t, cut("n", alt(x, y)), "<n: x / y>")
	for want, c := range map[string][2]int{"{1}": {1, 1}, "{2,}": {2, -1}, "{0}": {0, 0}, "": {2, 1}} {
		if got := print.Count(c[0], c[1]); got != want {
			t.Errorf("Count(%d, %d): %q", c[0], c[1], got)
		}
	}
}

// P8.1: the first count that says it; of a Min, or a Max, that no Rep has: empty.
func TestCounts(t *testing.T) {
	for want, c := range map[string][2]int{
		"?": {0, 1}, "*": {0, -1}, "+": {1, -1}, "{0}": {0, 0}, "{1}": {1, 1}, "{2}": {2, 2}, "{99}": {99, 99}, "{2,}": {2, -1}, "{99,}": {99, -1}, "{10,}": {10, -1},
		"{0,2}": {0, 2}, "{1,2}": {1, 2}, "{0,99}": {0, 99}, "{1,99}": {1, 99}, "{98,99}": {98, 99}, "{7,10}": {7, 10},
	} {
		if got := print.Count(c[0], c[1]); got != want {
			t.Errorf("Count(%d, %d): %q; wanted: %q", c[0], c[1], got, want)
		}
		if got := print.Tree(rep(c[0], c[1], rule("x")).clean()); got != "x"+want {
			t.Errorf("x %d to %d: %q", c[0], c[1], got)
		}
	}
	l := []int{math.MinInt, math.MinInt + 1, -1 << 32, math.MaxInt, math.MaxInt - 1, 1 << 32, 1<<32 + 1, 256, 1000}
	for n := range 2*maxRep + 10 {
		l = append(l, n-maxRep)
	}
	for _, a := range l {
		for _, b := range l {
			if got, want := print.Count(a, b), timesOf(a, b); got != want || (want == "") == repeats(a, b) {
				t.Errorf("Count(%d, %d): %q; wanted: %q", a, b, got, want)
			}
		}
	}
}

// P8.1: each kind alone.
func TestAlone(t *testing.T) {
	for _, a := range alone {
		tells(t, a.p, a.text)
	}
	for want, p := range map[string]plant{
		"[]": set(api.Bytes{}), ".": set(allBytes), "[a]": set(bytesOf("a")), "[ab]": set(bytesOf("ab")), `[\]]`: set(bytesOf("]")), `[\-a-d]`: set(bytesOf("-abcd")), `[\x00-\xfe]`: set(api.Bytes{math.MaxUint64, math.MaxUint64, math.MaxUint64, math.MaxUint64 >> 1}), `[\x01-\xff]`: set(api.Bytes{math.MaxUint64 - 1, math.MaxUint64, math.MaxUint64, math.MaxUint64}),
		`"a\"\n\x00"`: lit("a\"\n\x00"), `"\\"`: lit(`\`), `"^]-"`: lit("^]-"), `" "`: lit(" "), "a_9": rule("a_9"),
		"x{0}": rep(0, 0, rule("x")), "x?": rep(0, 1, rule("x")), "x+": rep(1, -1, rule("x")), "x{1}": rep(1, 1, rule("x")), "x{3,}": rep(3, -1, rule("x")), "x{3,4}": rep(3, 4, rule("x")),
	} {
		tells(t, p, want)
	}
	for _, p := range leaves() {
		tells(t, p, p.text())
	}
	letters := "abcdefghijklmnopqrstuvwxyzABCDEFGHIJKLMNOPQRSTUVWXYZ_0123456789"
	for _, c := range letters {
		name := "_" + string(c)
		tells(t, rule(name), name)
		tells(t, cut(name, rule(name)), "<"+name+": "+name+">")
	}
}

// P8.1: each kind within each other one, at each place, in parentheses just where the Words say.
func TestWithin(t *testing.T) {
	x, y := rule("v"), lit("w")
	outer := []struct {
		of     func(kid plant) plant
		text   string // with a $ for the kid
		within string // the kinds of the kids that stand in parentheses
	}{
		{func(k plant) plant { return seq(k, y) }, `$ "w"`, "45"},
		{func(k plant) plant { return seq(x, k) }, `v $`, "45"},
		{func(k plant) plant { return seq(x, k, y) }, `v $ "w"`, "45"},
		{func(k plant) plant { return seq(k, k) }, `$ $`, "45"},
		{func(k plant) plant { return alt(k, y) }, `$ / "w"`, "5"},
		{func(k plant) plant { return alt(x, k) }, `v / $`, "5"},
		{func(k plant) plant { return alt(x, k, y) }, `v / $ / "w"`, "5"},
		{func(k plant) plant { return alt(k, k) }, `$ / $`, "5"},
		{func(k plant) plant { return rep(0, 1, k) }, `$?`, "45678"},
		{func(k plant) plant { return rep(2, -1, k) }, `${2,}`, "45678"},
		{and, `&$`, "45"},
		{not, `!$`, "45"},
		{func(k plant) plant { return cut("c_1", k) }, `<c_1: $>`, ""},
	}
	for _, o := range outer {
		for kind, a := range alone {
			s := a.text
			if strings.Contains(o.within, fmt.Sprint(kind)) {
				s = "(" + s + ")"
			}
			want := strings.ReplaceAll(o.text, "$", s)
			tells(t, o.of(a.p), want)
			for _, p := range outer {
				if p.text == `<c_1: $>` {
					continue // what is in there is seen above
				}
				inner := o.of(a.p)
				s := want
				if strings.Contains(p.within, fmt.Sprint(inner.node.Kind)) {
					s = "(" + want + ")"
				}
				tells(t, p.of(inner), strings.ReplaceAll(p.text, "$", s))
			}
		}
	}
}

// P8.1: texts that are written out.
func TestWritten(t *testing.T) {
	x, y, z := rule("x"), rule("y"), rule("z")
	star := func(p plant) plant { return rep(0, -1, p) }
	for want, p := range map[string]plant{
		"x y z": seq(x, y, z), "x / y / z": alt(x, y, z), "(x y) z": seq(seq(x, y), z), "x (y z)": seq(x, seq(y, z)), "(x / y) / z": alt(alt(x, y), z), "x / (y / z)": alt(x, alt(y, z)), "(x y) (y z)": seq(seq(x, y), seq(y, z)), "x y / z": alt(seq(x, y), z), "x / y z": alt(x, seq(y, z)), "(x / y) z": seq(alt(x, y), z), "x (y / z)": seq(x, alt(y, z)),
		"x* y": seq(star(x), y), "&x y": seq(and(x), y), "&(x y)": and(seq(x, y)), "!(x / y)": not(alt(x, y)), "!x / y": alt(not(x), y), "(x*)*": star(star(x)), "((x*)*)*": star(star(star(x))), "(x y)*": star(seq(x, y)), "(x / y)*": star(alt(x, y)), "(!x)*": star(not(x)), "!x*": not(star(x)), "!&x": not(and(x)), "&(!x)*": and(star(not(x))),
		"<n: x> y": seq(cut("n", x), y), "<n: x>*": star(cut("n", x)), "!<n: x>": not(cut("n", x)), "<n: x*>": cut("n", star(x)), "<n: x y>": cut("n", seq(x, y)), "<n: !x>": cut("n", not(x)), `<n: "">`: cut("n", empty()), "<n: <m: x>>": cut("n", cut("m", x)), "<n: x / y> / z": alt(cut("n", alt(x, y)), z),
		`"" x`: seq(empty(), x), `x "" y`: seq(x, empty(), y), `x ""`: seq(x, empty()), `"" ""`: seq(empty(), empty()), `"" / ""`: alt(empty(), empty()), `x / "" / y`: alt(x, empty(), y), `""*`: star(empty()), `!""`: not(empty()), `&""`: and(empty()), `""{0}`: rep(0, 0, empty()), `("" "")*`: star(seq(empty(), empty())),
		"(x / y) (y / z)": seq(alt(x, y), alt(y, z)), "x (y / z (x / y))": seq(x, alt(y, seq(z, alt(x, y)))), "((x y)? / z)+": rep(1, -1, alt(rep(0, 1, seq(x, y)), z)), "[] / .": alt(set(api.Bytes{}), set(allBytes)), `("<" ">")?`: rep(0, 1, seq(lit("<"), lit(">"))), "((x (y z)) (x y)) z": seq(seq(seq(x, seq(y, z)), seq(x, y)), z),
	} {
		if p.text() != want {
			t.Errorf("the tests' own words: %s, not %s", p.text(), want)
		}
		tells(t, p, want)
	}
}

// P8.1: trees of all sorts, normal and not.
func TestTrees(t *testing.T) {
	for _, p := range plants() {
		tells(t, p, p.text())
	}
}

// P8.1: all small trees.
func TestSmall(t *testing.T) {
	for n := range 4 {
		for _, p := range small(n+1, []plant{empty(), rule("a"), set(bytesOf("x"))}) {
			if got, want := print.Tree(p.clean()), p.text(); got != want {
				t.Errorf("%s; wanted: %s", got, want)
			}
		}
	}
}

// P8.1: a tree that is not right: empty; so is a rule's line with such a body, and a grammar's text with such a line.
func TestWrong(t *testing.T) {
	right := api.Def{Name: "a", Body: lit("x").clean()}
	for _, c := range wrongs() {
		if got := print.Tree(c.tree); got != "" {
			t.Errorf("%s: %q", c.why, got)
		}
		d := api.Def{Name: "b", Body: c.tree}
		if got := print.Def(d); got != "" {
			t.Errorf("a rule, of %s: %q", c.why, got)
		}
		for _, rules := range [][]api.Def{{d}, {d, right}, {right, d}, {right, d, right}} {
			tellsGrammar(t, api.Grammar{Rules: rules}, "")
		}
	}
}

// P8.1: a rule's name that is none.
func TestNames(t *testing.T) {
	right := api.Def{Name: "a", Body: lit("x").clean()}
	for _, s := range []string{"", " ", "9", "9a", "a b", " a", "a ", "a-b", "<-", "a\n", "é", "a\x00", "\xff", ".", "\"a\"", strings.Repeat("a", maxName+1), strings.Repeat("a", 1<<20)} {
		d := api.Def{Name: s, Body: lit("x").clean()}
		if got := print.Def(d); got != "" {
			t.Errorf("%s: %q", brief(s), brief(got))
		}
		for _, rules := range [][]api.Def{{d}, {d, right}, {right, d}, {right, d, right}} {
			tellsGrammar(t, api.Grammar{Rules: rules}, "")
		}
	}
	for b := range 256 {
		s := string([]byte{byte(b)})
		letter := strings.Contains("abcdefghijklmnopqrstuvwxyzABCDEFGHIJKLMNOPQRSTUVWXYZ_", s)
		digit := strings.Contains("0123456789", s)
		for name, is := range map[string]bool{s: letter, "a" + s: letter || digit, "a" + s + "b": letter || digit} {
			want := ""
			if is {
				want = name + " <- \"x\"\n"
			}
			if got := print.Def(api.Def{Name: name, Body: lit("x").clean()}); got != want {
				t.Errorf("%q: %q", name, got)
			}
		}
	}
	long := strings.Repeat("N", maxName)
	if got := print.Def(api.Def{Name: long, Body: empty().clean()}); got != long+" <- \"\"\n" {
		t.Errorf("a name of %d bytes: %q", maxName, got)
	}
}

// tellsGrammar says that a grammar has that text, and its Size.
func tellsGrammar(t *testing.T, g api.Grammar, want string) {
	t.Helper()
	if got := print.Grammar(g); got != want {
		t.Errorf("%s: %s; wanted: %s", brief(fmt.Sprint(g)), brief(got), brief(want))
	}
	if got := print.Size(g); got != len(want) {
		t.Errorf("the Size of %s: %d, not %d", brief(want), got, len(want))
	}
}

// P8.1: a grammar's text, and its Size.
func TestGrammars(t *testing.T) {
	tellsGrammar(t, api.Grammar{}, "")
	tellsGrammar(t, api.Grammar{Rules: []api.Def{}}, "")
	x := api.Def{Name: "x", Body: alt(seq(lit("a"), rule("y")), empty()).clean()}
	y := api.Def{Name: "y", Body: set(bytesOf("b")).clean()}
	tellsGrammar(t, api.Grammar{Rules: []api.Def{x}}, "x <- \"a\" y / \"\"\n")
	tellsGrammar(t, api.Grammar{Rules: []api.Def{x, y}}, "x <- \"a\" y / \"\"\ny <- [b]\n")
	tellsGrammar(t, api.Grammar{Rules: []api.Def{y, x}}, "y <- [b]\nx <- \"a\" y / \"\"\n")
	// No grammar that may be: but lines all the same.
	tellsGrammar(t, api.Grammar{Rules: []api.Def{y, y, x, y}}, "y <- [b]\ny <- [b]\nx <- \"a\" y / \"\"\ny <- [b]\n")
	for _, many := range []int{64, 65, 3000} {
		tellsGrammar(t, api.Grammar{Rules: slices.Repeat([]api.Def{y}, many)}, strings.Repeat("y <- [b]\n", many))
	}
	r := numbers(2)
	l := plants()
	for range 500 {
		var g api.Grammar
		want := ""
		for i := range 1 + r.next(6) {
			p := l[r.next(len(l))]
			name := string("abcdef"[i])
			g.Rules = append(g.Rules, api.Def{Name: name, Body: p.strewn(&r)})
			want += name + " <- " + p.text() + "\n"
		}
		tellsGrammar(t, g, want)
	}
}

// nested tells the arena of so many holders, one within the other, of a rule x: beside what stands within a Seq, or a Choice, stands an Empty.
func nested(deep int, holder api.Node) api.Tree {
	nodes := []api.Node{{Kind: 3, Text: "x"}}
	for range deep {
		n := holder
		n.Kids = []int{len(nodes) - 1}
		if n.Kind == 4 || n.Kind == 5 {
			n.Kids = append(n.Kids, len(nodes))
			nodes = append(nodes, api.Node{})
		}
		nodes = append(nodes, n)
	}
	return api.Tree{Nodes: nodes, Root: len(nodes) - 1}
}

// P8.1, R1: as deep as may be, deeper, and many thousand deep.
func TestDeep(t *testing.T) {
	for _, deep := range []int{maxDepth - 1, maxDepth, 1000, 1 << 16, 1 << 17} {
		// What is ahead and behind stands once for each holder but the outermost one, about which are no parentheses.
		for _, c := range []struct {
			holder                     api.Node
			ahead, behind              string
			outAhead, inner, outBehind string
		}{
			{api.Node{Kind: 8}, "!", "", "!", "x", ""},
			{api.Node{Kind: 7}, "&", "", "&", "x", ""},
			{api.Node{Kind: 9, Text: "n"}, "<n: ", ">", "<n: ", "x", ">"},
			{api.Node{Kind: 6, Max: -1}, "(", ")*", "", "x*", ""},
			{api.Node{Kind: 4}, "(", ` "")`, "", "x", ` ""`},
			{api.Node{Kind: 5}, "(", ` / "")`, "", "x", ` / ""`},
		} {
			x := nested(deep, c.holder)
			want := c.outAhead + strings.Repeat(c.ahead, deep-1) + c.inner + strings.Repeat(c.behind, deep-1) + c.outBehind
			if got := print.Tree(x); got != want {
				t.Errorf("%d of %s: %s; wanted: %s", deep, c.ahead+c.behind, brief(got), brief(want))
			}
			if got := print.Size(api.Grammar{Rules: []api.Def{{Name: "a", Body: x}}}); got != len(want)+6 {
				t.Errorf("%d of %s: Size %d, not %d", deep, c.ahead+c.behind, got, len(want)+6)
			}
		}
	}
}

// P8.1, R1: as many nodes as may be, more, and very many.
func TestWide(t *testing.T) {
	for _, many := range []int{maxNodes - 2, maxNodes - 1, maxNodes, 1 << 16, 1 << 18} {
		var nodes []api.Node
		for i := range many {
			nodes = append(nodes, api.Node{Kind: 3, Text: string("ab"[i%2])})
		}
		for kind, between := range map[uint8]string{4: " ", 5: " / "} {
			n := api.Node{Kind: kind}
			for i := range many {
				n.Kids = append(n.Kids, many-1-i)
			}
			var want []string
			for i := range many {
				want = append(want, string("ab"[(many-1-i)%2]))
			}
			s := strings.Join(want, between)
			if got := print.Tree(api.Tree{Nodes: append(slices.Clone(nodes), n), Root: many}); got != s {
				t.Errorf("%d with%sbetween: %s; wanted: %s", many, between, brief(got), brief(s))
			}
		}
	}
}
