package parse_test

import (
	"fmt"
	"slices"
	"strings"

	"bonsai/api"
	"bonsai/lex"
)

// The words as the document says them, in another way than the program does: S2's table is gone through by functions that call each other, what stands there is put together at once, as trees without arenas, and the place of an error is told by a set of all that may still stand.

const (
	maxSource = 65536
	maxNodes  = 1024
	maxDepth  = 32
	maxRules  = 64

	ok          = api.OK
	errForm     = api.ErrForm
	errTwice    = api.ErrTwice
	errTooLarge = api.ErrTooLarge
	errName     = api.ErrName
)

// plant is a tree without an arena.
type plant struct {
	node api.Node // without Kids
	kids []plant
}

// Plants are written in texts: - Empty, 0 the Set of nothing, . that of all, 1 that of a to c, a small letter a Text, a great one a Rule, ( ) a Seq, [ ] a Choice, and in front of a kid what stands here.
var heads = map[byte]api.Node{
	'?': {Kind: 6, Max: 1}, '*': {Kind: 6, Max: -1}, '+': {Kind: 6, Min: 1, Max: -1}, '#': {Kind: 6}, '2': {Kind: 6, Min: 2, Max: 2}, '3': {Kind: 6, Min: 3, Max: -1}, '4': {Kind: 6, Min: 4, Max: 9},
	'&': {Kind: 7}, '!': {Kind: 8}, '<': {Kind: 9, Text: "n"},
}

var (
	allBytes = api.Bytes{^uint64(0), ^uint64(0), ^uint64(0), ^uint64(0)}
	aToC     = api.Bytes{0, 7 << ('a' - 64)}
)

// grown tells the plant that a text denotes.
func grown(s string) plant {
	p, left := grow(s)
	if left != "" {
		panic("no plant: " + s)
	}
	return p
}

func grow(s string) (plant, string) {
	c, s := s[0], s[1:]
	if n, is := heads[c]; is {
		kid, left := grow(s)
		return plant{n, []plant{kid}}, left
	}
	switch {
	case c == '-':
		return plant{}, s
	case c == '0':
		return plant{node: api.Node{Kind: 1}}, s
	case c == '.':
		return plant{node: api.Node{Kind: 1, Set: allBytes}}, s
	case c == '1':
		return plant{node: api.Node{Kind: 1, Set: aToC}}, s
	case 'a' <= c && c <= 'z':
		return plant{node: api.Node{Kind: 2, Text: string(c)}}, s
	case 'A' <= c && c <= 'Z':
		return plant{node: api.Node{Kind: 3, Text: string(c)}}, s
	}
	p := plant{node: api.Node{Kind: uint8(4 + strings.IndexByte("([", c))}}
	for s[0] != ')' && s[0] != ']' {
		var kid plant
		kid, s = grow(s)
		p.kids = append(p.kids, kid)
	}
	return p, s[1:]
}

func over(n api.Node, kid plant) plant { return plant{n, []plant{kid}} }

// together tells a Seq, or a Choice, of these: kids of its own kind are opened, and of a Seq Empties dropped.
func together(kind uint8, l []plant) plant {
	p := plant{node: api.Node{Kind: kind}}
	for _, k := range l {
		switch {
		case k.node.Kind == kind:
			p.kids = append(p.kids, k.kids...)
		case k.node.Kind != 0 || kind != 4:
			p.kids = append(p.kids, k)
		}
	}
	switch len(p.kids) {
	case 0:
		return plant{}
	case 1:
		return p.kids[0]
	}
	return p
}

func (p plant) size() int {
	n := 1
	for _, k := range p.kids {
		n += k.size()
	}
	return n
}

func (p plant) depth() int {
	n := 0
	for _, k := range p.kids {
		n = max(n, k.depth())
	}
	return n + 1
}

func (p plant) may() bool { return p.size() <= maxNodes && p.depth() <= maxDepth }

// clean tells a plant's clean arena.
func (p plant) clean() api.Tree {
	var nodes []api.Node
	var lay func(plant) int
	lay = func(p plant) int {
		n := p.node
		for _, k := range p.kids {
			n.Kids = append(n.Kids, lay(k))
		}
		nodes = append(nodes, n)
		return len(nodes) - 1
	}
	return api.Tree{Root: lay(p), Nodes: nodes}
}

// sameTree, to the node's number: a list of nothing and no list are the same.
func sameTree(a, b api.Tree) bool {
	return a.Root == b.Root && slices.EqualFunc(a.Nodes, b.Nodes, func(m, n api.Node) bool {
		return m.Kind == n.Kind && m.Set == n.Set && m.Text == n.Text && m.Min == n.Min && m.Max == n.Max && slices.Equal(m.Kids, n.Kids)
	})
}

func sameGrammar(a, b api.Grammar) bool {
	return slices.EqualFunc(a.Rules, b.Rules, func(c, d api.Def) bool { return c.Name == d.Name && sameTree(c.Body, d.Body) })
}

// row is a text's words, each with a mark: n a name, h a name with a <- behind it, = a <-, { a count, " a literal, . a class, the others themselves; last of all $ at the text's end, or ~ for a word that may not be.
type row struct {
	marks string
	words []lex.Word
}

func rowOf(text string) row {
	words, at, e := lex.Words(text)
	last := "$"
	if e == ok {
		at = len(text)
	} else {
		words, _, _ = lex.Words(text[:at])
		last = "~"
	}
	marks := ""
	for i, w := range words {
		mark := "?n=/&!?*+()<>:{\"."[w.Kind : w.Kind+1]
		if w.Kind == 1 && i+1 < len(words) && words[i+1].Kind == 2 {
			mark = "h"
		}
		marks += mark
	}
	return row{marks + last, append(words, lex.Word{At: at})}
}

// stands is S2's grammar of texts by marks: G rules, R a rule, N a name, C a choice, D what is behind its first seq, S a seq, P a prefix, T what is behind a primary.
var stands = map[byte][]string{
	'G': {"R", "RG"}, 'R': {"N=C"}, 'N': {"n", "h"}, 'C': {"SD"}, 'D': {"", "/SD"}, 'S': {"", "PS"},
	'P': {"&P", "!P", "nT", "(C)T", "\"T", ".T", "<N:C>T"}, 'T': {"", "?T", "*T", "+T", "{T"},
}

// place tells the first word that may not stand where it does; -1: there is none.
func (o row) place(start string) int {
	may := map[string]bool{start + "$": true}
	for at := range len(o.marks) {
		next := map[string]bool{}
		var open func(string)
		open = func(left string) {
			if left == "" {
				return
			}
			if left[0] == o.marks[at] {
				next[left[1:]] = true
			}
			for _, s := range stands[left[0]] {
				open(s + left[1:])
			}
		}
		for left := range may {
			open(left)
		}
		if len(next) == 0 {
			return o.words[at].At
		}
		may = next
	}
	return -1
}

// rule is a rule that is denoted.
type rule struct {
	name lex.Word
	body plant
}

// rules and those below are S2's table. Each tells what stands from a word on, and the word behind; no: it doesn't stand there.
func (o row) rules() (l []rule, is bool) {
	at := 0
	for o.marks[at] == 'h' {
		body, next := o.choice(at + 2)
		l = append(l, rule{o.words[at], body})
		at = next
	}
	return l, o.marks[at] == '$' && len(l) > 0
}

func (o row) choice(at int) (plant, int) {
	p, at := o.seq(at)
	l := []plant{p}
	for o.marks[at] == '/' {
		p, at = o.seq(at + 1)
		l = append(l, p)
	}
	return together(5, l), at
}

func (o row) seq(at int) (plant, int) {
	var l []plant
	for {
		p, next, is := o.prefix(at)
		if !is {
			return together(4, l), at
		}
		l, at = append(l, p), next
	}
}

func (o row) prefix(at int) (plant, int, bool) {
	n, is := map[byte]api.Node{'&': {Kind: 7}, '!': {Kind: 8}}[o.marks[at]]
	if !is {
		return o.suffix(at)
	}
	p, at, is := o.prefix(at + 1)
	return over(n, p), at, is
}

func (o row) suffix(at int) (plant, int, bool) {
	p, at, is := o.primary(at)
	for is {
		n, more := map[byte]api.Node{'?': {Kind: 6, Max: 1}, '*': {Kind: 6, Max: -1}, '+': {Kind: 6, Min: 1, Max: -1}, '{': {Kind: 6, Min: o.words[at].Low, Max: o.words[at].High}}[o.marks[at]]
		if !more {
			break
		}
		p, at = over(n, p), at+1
	}
	return p, at, is
}

func (o row) primary(at int) (p plant, next int, is bool) {
	w := o.words[at]
	switch o.marks[at] {
	case 'n':
		return plant{node: api.Node{Kind: 3, Text: w.Text}}, at + 1, true
	case '"':
		if w.Text == "" {
			return plant{}, at + 1, true
		}
		return plant{node: api.Node{Kind: 2, Text: w.Text}}, at + 1, true
	case '.':
		return plant{node: api.Node{Kind: 1, Set: w.Set}}, at + 1, true
	case '(':
		p, at = o.choice(at + 1)
		return p, at + 1, o.marks[at] == ')'
	case '<':
		if o.marks[at+1] != 'n' || o.marks[at+2] != ':' {
			return p, at, false
		}
		p, next = o.choice(at + 3)
		return over(api.Node{Kind: 9, Text: o.words[at+1].Text}, p), next + 1, o.marks[next] == '>'
	}
	return p, at, false
}

// calls tells the names by which rules are called, of a text that denotes something.
func (o row) calls() []lex.Word {
	var l []lex.Word
	for i, w := range o.words {
		if o.marks[i] == 'n' && (i == 0 || o.marks[i-1] != '<') {
			l = append(l, w)
		}
	}
	return l
}

// answer is what a call is to tell of a text.
type answer struct {
	g     api.Grammar
	t     api.Tree
	names []string
	at    int
	e     api.Errno
}

// grammarOf is what the document says of Grammar, and of Names.
func grammarOf(text string) answer {
	if len(text) > maxSource {
		return answer{at: maxSource, e: errTooLarge}
	}
	o := rowOf(text)
	l, is := o.rules()
	if at := o.place("G"); at >= 0 || !is {
		return answer{at: at, e: errForm}
	}
	var out answer
	known := map[string]bool{}
	for _, d := range l {
		if known[d.name.Text] && out.e == ok {
			out.at, out.e = d.name.At, errTwice
		}
		known[d.name.Text] = true
		out.names = append(out.names, d.name.Text)
	}
	for _, w := range o.calls() {
		if !known[w.Text] && out.e == ok {
			out.at, out.e = w.At, errName
		}
	}
	if out.e != ok {
		return out
	}
	for _, d := range l {
		out.g.Rules = append(out.g.Rules, api.Def{Name: d.name.Text, Body: d.body.clean()})
		if len(out.g.Rules) > maxRules || !d.body.may() {
			return answer{names: out.names, at: len(text), e: errTooLarge}
		}
	}
	return out
}

// exprOf is what the document says of Expr.
func exprOf(text string) answer {
	if len(text) > maxSource {
		return answer{at: maxSource, e: errTooLarge}
	}
	o := rowOf(text)
	p, next := o.choice(0)
	if at := o.place("C"); at >= 0 || o.marks[next] != '$' {
		return answer{at: at, e: errForm}
	}
	if !p.may() {
		return answer{at: len(text), e: errTooLarge}
	}
	return answer{t: p.clean()}
}

// sample is an expression's text, and its plant.
type sample struct{ text, plant string }

// primaries are samples of one primary each.
var primaries = []sample{
	{`""`, "-"}, {`"x"`, "x"}, {"B", "B"}, {"[a-c]", "1"}, {".", "."}, {"[^]", "."}, {"[]", "0"}, {`[^\x00-\xff]`, "0"}, {`[\x00-\xff]`, "."},
	{"()", "-"}, {"(B)", "B"}, {`(("x"))`, "x"}, {`("x" "y")`, "(xy)"}, {`("x" / "y")`, "[xy]"}, {"(/)", "[--]"}, {"(!B)", "!B"}, {"(B*)", "*B"}, {`(B "")`, "B"}, {`("" "")`, "-"}, {`("" (B / "x"))`, "[Bx]"},
	{"<n:>", "<-"}, {"<n: B>", "<B"}, {`<n: "x" "y">`, "<(xy)"}, {`<n: "x" / "y">`, "<[xy]"}, {"<n: <n: B>>", "<<B"}, {"<n:(B)>", "<B"}, {"<n:/>", "<[--]"}, {"<n: !.>", "<!."},
}

// suffixes are what may stand behind a primary, from inside out.
var suffixes = []sample{
	{"?", "?"}, {"*", "*"}, {"+", "+"}, {"{0}", "#"}, {"{2}", "2"}, {"{3,}", "3"}, {"{4,9}", "4"}, {"{0,1}", "?"}, {"{0,}", "*"}, {"{1,}", "+"}, {"{0,0}", "#"}, {"{2,2}", "2"},
}

// prefixes are what may stand ahead of a suffix.
var prefixes = []sample{{"&", "&"}, {"!", "!"}, {"& !", "&!"}, {"!&", "!&"}, {"!!", "!!"}, {"&&&", "&&&"}}

// written are whole expressions.
var written = []sample{
	{"", "-"}, {" ", "-"}, {"#", "-"}, {"/", "[--]"}, {"//", "[---]"}, {"B/", "[B-]"}, {"/B", "[-B]"}, {"B//C", "[B-C]"}, {"/B/", "[-B-]"}, {`""/""`, "[--]"}, {`/""`, "[--]"}, {`"" "" / B`, "[-B]"}, {"()/()", "[--]"}, {"B / () / C", "[B-C]"},
	{"B C", "(BC)"}, {"B C / A", "[(BC)A]"}, {"B / C A", "[B(CA)]"}, {"B C / A B", "[(BC)(AB)]"}, {"A B C", "(ABC)"}, {"A / B / C", "[ABC]"}, {`"a"[a-c].B`, "(a1.B)"}, {"B(C)A", "(BCA)"}, {`"x""y"`, "(xy)"}, {"B C*", "(B*C)"}, {"!B C", "(!BC)"}, {"B !C", "(B!C)"}, {"B& C", "(B&C)"},
	{"(A B) C", "(ABC)"}, {"A (B C)", "(ABC)"}, {"(A B) (C A)", "(ABCA)"}, {"((A B) C) A", "(ABCA)"}, {"A (B (C A))", "(ABCA)"}, {"(A / B) / C", "[ABC]"}, {"A / (B / C)", "[ABC]"}, {"(A / B) / (C / A)", "[ABCA]"}, {"((A / B) / C) / A", "[ABCA]"}, {"A / (B / (C / A))", "[ABCA]"}, {"(A / B) C", "([AB]C)"}, {"A (B / C)", "(A[BC])"}, {"(A B) / C", "[(AB)C]"}, {"A / (B C)", "[A(BC)]"}, {"(A B)*", "*(AB)"}, {"(A / B)*", "*[AB]"},
	{`"" B`, "B"}, {`B ""`, "B"}, {`"" B ""`, "B"}, {`B "" C`, "(BC)"}, {`"" ""`, "-"}, {"() B ()", "B"}, {"B (() ()) C", "(BC)"}, {`B ("" C "") A`, "(BCA)"}, {`(B / "") C`, "([B-]C)"}, {`"" (A / B) / C`, "[ABC]"}, {`A / ("" (B / C) "")`, "[ABC]"}, {`"" (A B) / C`, "[(AB)C]"}, {`B ""* C`, "(B*-C)"}, {`B !"" C`, "(B!-C)"}, {`B <n:> C`, "(B<-C)"},
	{"!B*", "!*B"}, {"(!B)*", "*!B"}, {"&B?", "&?B"}, {"!(A B)", "!(AB)"}, {"!(A / B)", "![AB]"}, {"!A / B", "[!AB]"}, {"!A B", "(!AB)"}, {"!(!A)", "!!A"}, {"(B*)*", "**B"}, {"((B)*)+", "+*B"}, {"<n: A> / <n: B>", "[<A<B]"}, {"<n: A / B> C", "(<[AB]C)"}, {"!<n: A>*", "!*<A"}, {"<n: (A B) C>", "<(ABC)"},
	{"(A / (B / C)) (A (B C))", "([ABC]ABC)"}, {"A / (B (C / A)) / B", "[A(B[CA])B]"}, {"!((A / B) / C)*", "!*[ABC]"}, {"(((())))", "-"}, {"((((A))))", "A"}, {"[] / .", "[0.]"}, {"[^]{0}", "#."}, {"([] / []) / []", "[000]"},
}

// samples are expressions of all sorts: each primary with each suffix and each prefix, and whole ones.
func samples() []sample {
	l := slices.Clone(written)
	for _, p := range primaries {
		l = append(l, p)
		for _, s := range suffixes {
			l = append(l, sample{p.text + s.text, s.plant + p.plant}, sample{p.text + " " + s.text + " *", "*" + s.plant + p.plant})
		}
		for _, s := range prefixes {
			l = append(l, sample{s.text + p.text, s.plant + p.plant}, sample{s.text + " " + p.text + "+{2}", s.plant + "2+" + p.plant})
		}
	}
	return l
}

// numbers is a row of numbers that is the same each time.
type numbers uint32

func (r *numbers) next(below int) int {
	*r = *r*1664525 + 1013904223
	return int(*r>>8) % below
}

// partings are what parts words; behind those that are not ended by an LF a word can't stand.
var (
	partings = []string{" ", "\t", "\r", "\n", "  ", "\r\n", "#\n", "# a <- b\n", "#\"\n", "#[(\n", " #x\n#y\n\t", "#<-\n"}
	lasts    = []string{"", " ", "#", "# <- /", "\n#", " # \"\t"}
)

// pieces are words, one or more of each kind.
var pieces = []string{"A", "B", "C", "zz_9", "<-", "/", "&", "!", "?", "*", "+", "(", ")", "<", ">", ":", "{2}", "{3,}", "{4,9}", `"x"`, `""`, `"x\n"`, "[a-c]", "[]", "."}

// wild tells the words of a choice that a row of numbers says, so deep at most.
func wild(r *numbers, deep int) []string {
	var l []string
	for range r.next(4) {
		for range r.next(3) {
			l = append(l, pieces[6:8][r.next(2)])
		}
		switch n := r.next(8); {
		case n < 2 && deep > 0:
			l = slices.Concat(l, []string{"("}, wild(r, deep-1), []string{")"})
		case n < 3 && deep > 0:
			l = slices.Concat(l, []string{"<", pieces[r.next(4)], ":"}, wild(r, deep-1), []string{">"})
		case n < 6:
			l = append(l, pieces[r.next(3)])
		default:
			l = append(l, pieces[19+r.next(6)])
		}
		for range r.next(3) {
			l = append(l, []string{"?", "*", "+", "{2}", "{3,}", "{4,9}", "{0}"}[r.next(7)])
		}
		if r.next(3) == 0 {
			l = append(l, "/")
		}
	}
	return l
}

// wildRules tells the words of rules of these names.
func wildRules(r *numbers, names []string) []string {
	var l []string
	for _, s := range names {
		l = append(append(l, s, "<-"), wild(r, 3)...)
	}
	return l
}

// spoiled tells words with some left out, or put in.
func spoiled(r *numbers, l []string) []string {
	l = slices.Clone(l)
	for range 1 + r.next(2) {
		at := r.next(len(l) + 1)
		if r.next(2) == 0 && at < len(l) {
			l = slices.Delete(l, at, at+1)
			continue
		}
		with := pieces[r.next(len(pieces))]
		if r.next(12) == 0 {
			with = []string{"-", "{2,1}", "[b-a]", "'", "9", `"\q"`, "{"}[r.next(7)]
		}
		l = slices.Insert(l, at, with)
	}
	return l
}

// parted tells a text of words, with what parts words between them and about them.
func parted(r *numbers, l []string) string {
	s := ""
	for _, w := range l {
		if r.next(3) > 0 {
			s += " "
		} else {
			s += partings[r.next(len(partings))]
		}
		s += w
	}
	return s + lasts[r.next(len(lasts))]
}

// rows tells all rows of so many words at most.
func rows(words []string, most int, each func(text string)) {
	var tell func(ahead string, left int)
	tell = func(ahead string, left int) {
		each(ahead)
		if left == 0 {
			return
		}
		for _, w := range words {
			tell(ahead+" "+w, left-1)
		}
	}
	tell("", most)
}

// brief tells a thing's text, or how it begins.
func brief(x any) string { return fmt.Sprintf("%.600s", fmt.Sprint(x)) }
