package parse_test

import (
	"slices"
	"strconv"
	"strings"
	"testing"

	"bonsai/api"
	"bonsai/parse"
	"bonsai/tree"
)

// tellsGrammar holds what Grammar and Names tell against what they are to tell; with an error there is no grammar.
func tellsGrammar(t *testing.T, text string, want answer) {
	t.Helper()
	g, at, e := parse.Grammar(text)
	if at != want.at || e != want.e || !sameGrammar(g, want.g) || (e != ok) != (g.Rules == nil) {
		t.Fatalf("Grammar(%.300q) = %s, %d, %d, not %s, %d, %d", text, brief(g), at, e, brief(want.g), want.at, want.e)
	}
	if names := parse.Names(text); !slices.Equal(names, want.names) || (len(want.names) == 0) != (names == nil) {
		t.Fatalf("Names(%.300q) = %s, not %s", text, brief(names), brief(want.names))
	}
}

// tellsExpr holds what Expr tells against what it is to tell; with an error there is no tree.
func tellsExpr(t *testing.T, text string, want answer) {
	t.Helper()
	x, at, e := parse.Expr(text)
	if at != want.at || e != want.e || !sameTree(x, want.t) || (e != ok) != (x.Nodes == nil) {
		t.Fatalf("Expr(%.300q) = %s, %d, %d, not %s, %d, %d", text, brief(x), at, e, brief(want.t), want.at, want.e)
	}
}

// denotes says that a text denotes these rules, each told by its name and its plant.
func denotes(t *testing.T, text string, rules ...string) {
	t.Helper()
	var want answer
	for i := 0; i < len(rules); i += 2 {
		want.names = append(want.names, rules[i])
		want.g.Rules = append(want.g.Rules, api.Def{Name: rules[i], Body: grown(rules[i+1]).clean()})
	}
	tellsGrammar(t, text, want)
}

// wrong says that Grammar errs, so that there are these names.
func wrong(t *testing.T, text string, at int, e api.Errno, names ...string) {
	t.Helper()
	tellsGrammar(t, text, answer{at: at, e: e, names: names})
}

// abc are rules that the samples call.
const abc = "\nA <-\nB <-\nC <-"

// asSamplesSay holds an expression's text against its plant: alone, and as a rule's body, the first one, one between two, and the last one.
func asSamplesSay(t *testing.T, s sample) {
	t.Helper()
	p := grown(s.plant)
	tellsExpr(t, s.text, answer{t: p.clean()})
	tellsExpr(t, " "+s.text+"\n", answer{t: p.clean()})
	denotes(t, "a <-"+s.text+abc, "a", s.plant, "A", "-", "B", "-", "C", "-")
	denotes(t, "B <-C a <-"+s.text+"\nA <-\n C<-", "B", "C", "a", s.plant, "A", "-", "C", "-")
	denotes(t, abc+" a<- "+s.text, "A", "-", "B", "-", "C", "-", "a", s.plant)
}

// P7.1: each production of S2's grammar: each primary with each suffix and each prefix, and whole expressions, written out; and the test's own words are held against them, too.
func TestSamples(t *testing.T) {
	for _, s := range samples() {
		asSamplesSay(t, s)
		if want := exprOf(s.text); want.e != ok || !sameTree(want.t, grown(s.plant).clean()) {
			t.Errorf("%q: the test's own words say %s, %d, %d", s.text, brief(want.t), want.at, want.e)
		}
	}
}

// P7.1: each sample within each other production.
func TestWithin(t *testing.T) {
	x, y := grown("x"), grown("(xy)")
	for _, s := range samples() {
		p := grown(s.plant)
		for _, c := range []struct {
			text string
			want plant
		}{
			{"(%)", p}, {"((%))", p}, {"(%) (%)", together(4, []plant{p, p})}, {`(%) "x"`, together(4, []plant{p, x})}, {`"x" (%)`, together(4, []plant{x, p})}, {`"x" (%) "x"`, together(4, []plant{x, p, x})},
			{`% / "x"`, together(5, []plant{p, x})}, {`"x" / %`, together(5, []plant{x, p})}, {`"x" / % / "x" "y"`, together(5, []plant{x, p, y})}, {"% / %", together(5, []plant{p, p})},
			{"&(%)", over(heads['&'], p)}, {"!(%)", over(heads['!'], p)}, {"(%)?", over(heads['?'], p)}, {"(%)*", over(heads['*'], p)}, {"(%)+", over(heads['+'], p)}, {"(%){2}", over(heads['2'], p)}, {"(%){3,}", over(heads['3'], p)}, {"(%){4,9}", over(heads['4'], p)},
			{"<n: %>", over(heads['<'], p)}, {"<n: (%)>?", over(heads['?'], over(heads['<'], p))}, {"!(% / %)", over(heads['!'], together(5, []plant{p, p}))}, {`("x" (%))*`, over(heads['*'], together(4, []plant{x, p}))},
		} {
			text := strings.ReplaceAll(c.text, "%", s.text+"\n")
			tellsExpr(t, text, answer{t: c.want.clean()})
			tellsGrammar(t, "z<-"+text+abc, grammarOf("z<-"+text+abc))
		}
	}
}

// P7.1: several signs of a suffix, the first one innermost; several & and !, the nearest to the suffix innermost.
func TestSeveralSigns(t *testing.T) {
	r := numbers(1)
	for range 2000 {
		text, head, tail := "A", "", ""
		for range r.next(6) {
			s := suffixes[r.next(len(suffixes))]
			text, tail = text+partings[r.next(len(partings))]+s.text, s.plant+tail
		}
		for range r.next(6) {
			s := prefixes[r.next(2)]
			text, head = s.text+partings[r.next(len(partings))]+text, s.plant+head
		}
		asSamplesSay(t, sample{text, head + tail + "A"})
	}
}

// P7.1: all rows of words that are not long, alone and as a rule's body, right and wrong.
func TestAllShortRows(t *testing.T) {
	right, not := 0, 0
	held := func(text string) {
		want := exprOf(text)
		tellsExpr(t, text, want)
		tellsGrammar(t, text, grammarOf(text))
		tellsGrammar(t, "b<-"+text, grammarOf("b<-"+text))
		if want.e == ok {
			right++
		} else {
			not++
		}
	}
	rows([]string{"b", "<-", "/", "&", "!", "?", "*", "+", "(", ")", "<", ">", ":", "{2,}", `"x"`, `""`, "[^]", "-"}, 3, held)
	rows([]string{"b", "<-", "/", "!", "*", "(", ")"}, 5, held)
	rows([]string{"b", "<-", "/", "<", ">", ":", "<c:"}, 4, held)
	rows([]string{"b", "(", ")", "/", "<c:", ">"}, 5, held)
	rows([]string{"b", "b<-", "(", ")", "<b"}, 5, held)
	if right < 1000 || not < 1000 {
		t.Errorf("%d right, %d wrong", right, not)
	}
}

// P7.1, P7.2, Errors: texts of all sorts, right and wrong.
func TestAllSorts(t *testing.T) {
	r := numbers(2)
	told := map[api.Errno]int{}
	for range 8000 {
		names := []string{"A", "B", "C", "zz_9"}[r.next(2):]
		if r.next(5) == 0 {
			names[r.next(len(names))] = "C"
		}
		l := wildRules(&r, names)
		if r.next(3) == 0 {
			l = spoiled(&r, l)
		}
		text := parted(&r, l)
		want := grammarOf(text)
		told[want.e]++
		tellsGrammar(t, text, want)
		tellsExpr(t, text, exprOf(text))
		l = wild(&r, 4)
		tellsExpr(t, parted(&r, l), exprOf(strings.Join(l, " ")))
		text = parted(&r, spoiled(&r, l))
		tellsExpr(t, text, exprOf(text))
	}
	for _, e := range []api.Errno{ok, errForm, errTwice, errName} {
		if told[e] < 300 {
			t.Errorf("error %d is told %d times", e, told[e])
		}
	}
}

// P7.1: counts of all numbers, and words that have a text.
func TestWords(t *testing.T) {
	for low := range 100 {
		for high := low - 1; high < 100; high++ {
			text, most := "{"+strconv.Itoa(low)+","+strconv.Itoa(high)+"}", high
			if high < low {
				text, most = "{"+strconv.Itoa(low)+",}", -1
			}
			tellsExpr(t, `"x"`+text, answer{t: over(api.Node{Kind: 6, Min: low, Max: most}, grown("x")).clean()})
		}
		text := "{" + strconv.Itoa(low) + "}"
		tellsExpr(t, `.`+text, answer{t: over(api.Node{Kind: 6, Min: low, Max: low}, grown(".")).clean()})
	}
	for b := range 256 {
		s := string([]byte{byte(b)})
		code := `\x` + strconv.FormatInt(int64(256+b), 16)[1:]
		tellsExpr(t, `"`+code+`"`, answer{t: tree.Text(s)})
		set := api.Bytes{}
		set[b/64] |= 1 << (b % 64)
		tellsExpr(t, `[`+code+`]`, answer{t: tree.Set(set)})
		for i := range set {
			set[i] = ^set[i]
		}
		tellsExpr(t, `[^`+code+`]`, answer{t: tree.Set(set)})
	}
	long := strings.Repeat("n", 32)
	tellsExpr(t, long, answer{t: tree.Rule(long)})
	tellsExpr(t, "<"+long+":>", answer{t: over(api.Node{Kind: 9, Text: long}, plant{}).clean()})
	tellsExpr(t, `"`+strings.Repeat("q", 255)+`"`, answer{t: tree.Text(strings.Repeat("q", 255))})
	denotes(t, long+"<-"+long[1:]+"<-", long, "-", long[1:], "-")
}

// P7.1: a rule begins by a name and a <-, and there the body ahead ends; what is between the two words does not count.
func TestWhereRulesBegin(t *testing.T) {
	for _, p := range append(slices.Clone(partings), "") {
		arrow := p + "<-"
		denotes(t, "A"+arrow, "A", "-")
		denotes(t, "A"+arrow+" B"+arrow, "A", "-", "B", "-")
		denotes(t, "A"+arrow+"B B"+arrow+"A", "A", "B", "B", "A")
		denotes(t, "A"+arrow+"B A B"+arrow+"A", "A", "(BA)", "B", "A")
		denotes(t, "A"+arrow+"B/ B"+arrow, "A", "[B-]", "B", "-")
		denotes(t, "A"+arrow+"B/A B"+arrow, "A", "[BA]", "B", "-")
		denotes(t, "A"+arrow+"!B* B"+arrow, "A", "!*B", "B", "-")
		denotes(t, "A"+arrow+"(B)B"+arrow, "A", "B", "B", "-")
		denotes(t, "A"+arrow+"<n:B>B"+arrow, "A", "<B", "B", "-")
		denotes(t, "A"+arrow+`""B`+arrow, "A", "-", "B", "-")
		denotes(t, "A"+arrow+`.B`+arrow+"B C"+arrow, "A", ".", "B", "B", "C", "-")
		at := len("A"+arrow) + 2
		for _, s := range []string{"! ", "& ", "( ", "/(", "!(", "(!", "((", "(/"} {
			wrong(t, "A"+arrow+s+"B"+arrow, at, errForm)
			wrong(t, "A"+arrow+s+"B"+arrow+"B)", at, errForm)
		}
		wrong(t, "A"+arrow+"<n:B"+arrow+">", at+1, errForm)
		wrong(t, "A"+arrow+"<n:A B"+arrow+">", at+3, errForm)
		// A Cap's name may have one behind it: then that is what may not stand there.
		wrong(t, "A"+arrow+"<B"+arrow, at+len(p), errForm)
		wrong(t, "A"+arrow+"<B"+arrow+":B>", at+len(p), errForm)
		wrong(t, "A"+arrow+arrow, len("A"+arrow)+len(p), errForm)
		tellsExpr(t, "A"+arrow, answer{e: errForm})
		tellsExpr(t, "A"+arrow+"B B"+arrow+"A", answer{e: errForm})
		tellsExpr(t, "A B"+arrow, answer{at: 2, e: errForm})
		tellsExpr(t, "A/B"+arrow+"A", answer{at: 2, e: errForm})
	}
}

// wrongWords are expressions in which a word may not stand, or something is missing at the end; % stands ahead of where that is.
var wrongWords = []string{
	"%?", "%*", "%+", "%{2}", "%)", "%>", "%:", "%<-", "(%", "(A%", "(A/%", "((A)%", "(%?)", "(%>", "(A%>", "(%:", "(A)%)", "()%)", "A%)", "A%>", "A%:", "A/%?", "A/%)", "A /B%>",
	"!%", "!!%", "&%", "!%/", "!%/A", "&%)", "(!%)", "!%?", "!%*A", "A!%", "A !%/ A", "<n:!%>", "(&%/)", "A/!%", "!&%:",
	"<%", "<%>", "<%:", "<%:>", "<n%", "<n%>", "<n %A>", "<n%/", "<n:%", "<n:A%", "<n:A%)", "<n:(A%>", "(<n:A%)", "(<n:A%)>", "<%<n:A>", `<%"n":A>`, "<%.:A>", "<%(n):A>", "<%!n:A>", "<n%*:A>", "<n:A%:>", "<n:A>%>", "<n:%?>", "<n:<n:A>%", "<n%<-:A>",
	"(A)%<-", ".%<-", `"x"%<-`, "A*%<-", "A/%<-", "<n:A>%<-", "(%<-", "!%<-", "(%B<-", "!%B<-", "<n:%B<-", "<n:A %B<-A>", "(A/%B<-A)", "((A)%B<-)",
}

// notWords are what begins no word, or one that may not be.
var notWords = []string{"-", "9", "'", "]", "}", "{", "{1", "{2,1}", "{01}", "{100}", `"`, `"x`, `"\q"`, "[", "[b-a]", "[a", "@", "\x00", "\xff", strings.Repeat("n", 33), `"` + strings.Repeat("q", 256) + `"`}

// P7.1, Errors: each word where it may not stand, and the text's end where something is missing.
func TestErrForm(t *testing.T) {
	for _, s := range wrongWords {
		at := strings.Index(s, "%")
		text := strings.Replace(s, "%", "", 1)
		end := at == len(text)
		tellsExpr(t, text, answer{at: at, e: errForm})
		wrong(t, "a <-"+text, 4+at, errForm)
		if s != "<%" {
			wrong(t, "a <- a/ /a <-"+text+"\nb<-", place(end, 13, at, text+"\n"), errForm)
		}
		// What stands behind the end parts words, or begins a rule.
		for _, behind := range []string{" ", "\n\n", "# A", "#)\n"} {
			tellsExpr(t, text+behind, answer{at: place(end, 0, at, text+behind), e: errForm})
			wrong(t, "a <-"+text+behind, place(end, 4, at, text+behind), errForm)
		}
		for _, not := range notWords {
			// Behind one that may not stand there it is not looked at; where something is missing it stands itself.
			tellsExpr(t, text+" "+not, answer{at: place(end, 0, at, text+" "), e: errForm})
			wrong(t, "a <-"+text+" "+not+" )", place(end, 4, at, text+" "), errForm)
			tellsExpr(t, "A "+not+"\n"+text, answer{at: 2, e: errForm})
			wrong(t, "a <- "+not+"\n"+text, 5, errForm)
		}
	}
}

// place is where something is wrong: in a text that is so far behind, or at its end.
func place(end bool, ahead, at int, text string) int {
	if end {
		return ahead + len(text)
	}
	return ahead + at
}

// P7.1, Errors: a text that denotes no rules, for what it begins by, or what stands between rules.
func TestNoRules(t *testing.T) {
	for _, s := range []string{"", " ", "\n", "#", "# a <- b", " \t\r\n", "#a\n", "a", "a ", "a#<-", "a#\n", "a # <-\n"} {
		wrong(t, s, len(s), errForm)
	}
	for text, at := range map[string]int{
		"<-": 0, "<- a": 0, "/": 0, "(a <- a)": 0, "(": 0, ")": 0, "!a <- a": 0, `"a" <- a`: 0, "[a] <- a": 0, ". <- a": 0, "<a>": 0, ": a": 0, "? a": 0, "{1}": 0,
		"a b": 2, "a a <- b": 2, "a/": 1, "a(": 1, "a*": 1, "a* <- b": 1, "a < - b": 2, "a : b": 2, "a = b": 2, "a <a:b>": 2, "a (b) <- a": 2, "a \"x\" <- a": 2, "a ! <- a": 2, "(a) <- a": 0,
		"a <- a )": 7, "a <- a\nb": 9, "a <- a b <- a )": 14, "a <- <-": 5, "a <- a; b <- a": 6, "a <- a, b": 6, "a <- a | a": 7, "a <- 'a'": 5, "a <-- a": 4, "a <- a -": 7, "a <- a <- <- b": 10, "a <- a /\n* b": 9,
	} {
		want := answer{at: at, e: errForm}
		if text == "a <- a\nb" {
			// b is called, and is not there.
			want = answer{at: 7, e: errName, names: []string{"a"}}
		}
		tellsGrammar(t, text, want)
		if own := grammarOf(text); own.at != want.at || own.e != want.e {
			t.Errorf("%q: the test's own words say %d, %d", text, own.at, own.e)
		}
	}
}

// Errors: a name that was there already, a name that is not there: the first such one of the text.
func TestTwiceAndMissing(t *testing.T) {
	wrong(t, "a <- a <-", 5, errTwice, "a", "a")
	wrong(t, "a <- b <- a <- b <-", 10, errTwice, "a", "b", "a", "b")
	wrong(t, "a <- b <- b <- a <-", 10, errTwice, "a", "b", "b", "a")
	wrong(t, "a <-\n#a<-\na <-\na <-", 10, errTwice, "a", "a", "a")
	wrong(t, "a <- c a <- d", 7, errTwice, "a", "a")
	wrong(t, "a <- b", 5, errName, "a")
	wrong(t, "a <- a b c", 7, errName, "a")
	wrong(t, "a <- a / (!<n: x*>) y", 15, errName, "a")
	wrong(t, "a <- b b <- c d", 12, errName, "a", "b")
	wrong(t, "a <- b c b <- d", 7, errName, "a", "b")
	wrong(t, "a <- A", 5, errName, "a")
	wrong(t, "a <- a_ a_b <-", 5, errName, "a", "a_b")
	wrong(t, "a <- b{0}", 5, errName, "a")
	wrong(t, "a <- <n: n>", 9, errName, "a")
	wrong(t, "a <- <n: a> n", 12, errName, "a")
	wrong(t, "a <- \"b\" b", 9, errName, "a")
	denotes(t, "a <- <n: \"x\"> <n: .>", "a", "(<x<.)")
	denotes(t, "A <- B C B <- A C <- C", "A", "(BC)", "B", "A", "C", "C")
	denotes(t, "A <- <n: N> N <- <n: A> n <- <n: .>", "A", "<N", "N", "<A", "n", "<.")
}

// manyRules are so many rules, each of which calls the next one, the last one the first.
func manyRules(many int) (text string, want answer) {
	for i := range many {
		s, next := "r"+strconv.Itoa(i), "r"+strconv.Itoa((i+1)%many)
		text += s + "<-" + next + "\n"
		want.names = append(want.names, s)
		want.g.Rules = append(want.g.Rules, api.Def{Name: s, Body: tree.Rule(next)})
	}
	return text, want
}

// Errors: as many rules as may be, and more.
func TestManyRules(t *testing.T) {
	for many := 1; many < 140; many++ {
		text, want := manyRules(many)
		if many > maxRules {
			want.g, want.at, want.e = api.Grammar{}, len(text), errTooLarge
		}
		tellsGrammar(t, text, want)
	}
	text, want := manyRules(5000)
	tellsGrammar(t, text+"#", answer{names: want.names, at: len(text) + 1, e: errTooLarge})
}

// sized are expressions of which a number says how many nodes they have, or how deep they are, made normal.
var sized = []struct {
	what  string
	nodes func(n int) (text string, p plant)
}{
	{"a wide Seq", func(n int) (string, plant) {
		return strings.Repeat(" .", n-1), plant{api.Node{Kind: 4}, slices.Repeat([]plant{grown(".")}, n-1)}
	}},
	{"a wide Choice", func(n int) (string, plant) {
		return strings.Repeat("/", n-2), plant{api.Node{Kind: 5}, slices.Repeat([]plant{{}}, n-1)}
	}},
	{"Seqs within Seqs", func(n int) (string, plant) {
		return strings.Repeat("(. ", n-1) + strings.Repeat(")", n-1), plant{api.Node{Kind: 4}, slices.Repeat([]plant{grown(".")}, n-1)}
	}},
	{"Choices within Choices", func(n int) (string, plant) {
		return strings.Repeat("(", n-2) + strings.Repeat("/)", n-2), plant{api.Node{Kind: 5}, slices.Repeat([]plant{{}}, n-1)}
	}},
	{"a Seq with Empties", func(n int) (string, plant) {
		return strings.Repeat(`.""()`, n-1), plant{api.Node{Kind: 4}, slices.Repeat([]plant{grown(".")}, n-1)}
	}},
}

var deep = []struct{ ahead, behind, head string }{
	{"!", "", "!"}, {"&", "", "&"}, {"", "?", "?"}, {"(", "{2}) ", "2"}, {"<n:", ">", "<"}, {"!(", ")", "!"}, {"((", "))*", "*"}, {`("" `, ` "")+`, "+"},
}

// Errors: bodies with just as many nodes as may be, and one more.
func TestManyNodes(t *testing.T) {
	for _, s := range sized {
		for _, n := range []int{3, 4, 100, maxNodes - 1, maxNodes, maxNodes + 1, 2 * maxNodes} {
			text, p := s.nodes(n)
			if p.size() != n {
				t.Fatalf("%s: %d, not %d", s.what, p.size(), n)
			}
			bounded(t, text, p)
		}
	}
}

// Errors: bodies just as deep as may be, and one deeper.
func TestDeepBodies(t *testing.T) {
	for _, s := range deep {
		for n := 1; n < 80; n++ {
			text := strings.Repeat(s.ahead, n-1) + "A" + strings.Repeat(s.behind, n-1)
			p := grown(strings.Repeat(s.head, n-1) + "A")
			if p.depth() != n {
				t.Fatalf("%q: %d, not %d", text, p.depth(), n)
			}
			bounded(t, text, p)
		}
	}
	for n := 1; n < 40; n++ {
		bounded(t, strings.Repeat("(. (/", n)+strings.Repeat("))", n), nested(n))
	}
}

// nested are so many Seqs, in each of which a Choice stands, in that the next one.
func nested(n int) plant {
	p := plant{}
	for range n {
		p = together(4, []plant{grown("."), together(5, []plant{{}, p})})
	}
	return p
}

// bounded holds a text against its plant, if that may be; else it is too large.
func bounded(t *testing.T, text string, p plant) {
	t.Helper()
	want := answer{at: len(text), e: errTooLarge}
	if p.may() {
		want = answer{t: p.clean()}
	}
	tellsExpr(t, text, want)
	for _, c := range [][2]string{{"A<-", ""}, {"A<-", "\nB<-"}, {"B <- A<-", ""}} {
		text := c[0] + text + c[1]
		all := answer{at: len(text), e: errTooLarge}
		if want.e == ok {
			all = answer{}
		}
		for _, name := range strings.Fields(strings.ReplaceAll(c[0]+c[1], "<-", " ")) {
			all.names = append(all.names, name)
			body := tree.Empty()
			if name == "A" {
				body = want.t
			}
			if all.e == ok {
				all.g.Rules = append(all.g.Rules, api.Def{Name: name, Body: body})
			}
		}
		tellsGrammar(t, text, all)
	}
}

// P7.1: how many nodes the bodies have together, and how long the canonical text is, is not looked at.
func TestTogetherTheyMayBeMore(t *testing.T) {
	text, p := sized[0].nodes(maxNodes)
	var want answer
	all := ""
	for i := range 30 {
		name := "r" + strconv.Itoa(i)
		all += name + " <-" + text + "\n"
		want.names = append(want.names, name)
		want.g.Rules = append(want.g.Rules, api.Def{Name: name, Body: p.clean()})
	}
	tellsGrammar(t, all, want)
	long := strings.Repeat(`"`+strings.Repeat("q", 255)+`"`, 200)
	q := plant{api.Node{Kind: 4}, slices.Repeat([]plant{{node: api.Node{Kind: 2, Text: strings.Repeat("q", 255)}}}, 200)}
	tellsGrammar(t, "a <- "+long, answer{names: []string{"a"}, g: api.Grammar{Rules: []api.Def{{Name: "a", Body: q.clean()}}}})
}

// Errors: of two that are wrong the one that the table has first, wherever it stands.
func TestTheFirstError(t *testing.T) {
	large := "x <- " + strings.Repeat("!", maxDepth) + ". "
	many, of := manyRules(maxRules + 1)
	form, twice, missing := "y <- ( ", "z <- z <- ", "w <- nowhere "
	for _, l := range [][]string{{large, missing, twice, form}, {many, missing, twice, form}} {
		for i, s := range l {
			for _, first := range l[i+1:] {
				before, after := grammarOf(s), grammarOf(first)
				if before.e == after.e || after.e == ok {
					t.Fatalf("%.99q, %.99q: %d, %d", s, first, before.e, after.e)
				}
				at := after.at + len(s)
				tellsGrammar(t, s+first, answer{at: at, e: after.e, names: joined(after, before.names)})
				if first == form {
					// What is open goes on: the next rule's name may not stand there.
					tellsGrammar(t, first+s, answer{at: len(first), e: errForm})
					continue
				}
				tellsGrammar(t, first+s, answer{at: after.at, e: after.e, names: joined(before, after.names)})
			}
		}
	}
	if of.e != ok || grammarOf(large).e != errTooLarge || grammarOf(missing).e != errName || grammarOf(twice).e != errTwice || grammarOf(form).e != errForm {
		t.Error("the rules are wrong in another way")
	}
	for _, s := range []string{large, many, form, twice, missing, "-", ""} {
		text := s + strings.Repeat(" ", maxSource+1)
		tellsGrammar(t, text, answer{at: maxSource, e: errTooLarge})
		tellsExpr(t, text, answer{at: maxSource, e: errTooLarge})
		text = strings.Repeat(" ", maxSource) + "a<-"
		tellsGrammar(t, text, answer{at: maxSource, e: errTooLarge})
	}
}

// joined tells some names, and then those of an answer; none, if that is ErrForm.
func joined(a answer, ahead []string) []string {
	if a.e == errForm {
		return nil
	}
	return slices.Concat(ahead, a.names)
}

// filled is a text made as long as that, by a comment.
func filled(text string, long int) string {
	return text + "#" + strings.Repeat("(", long-len(text)-1)
}

// Errors: a text of as many bytes as may be, and of one more.
func TestSource(t *testing.T) {
	denotes(t, filled("A <- A", maxSource), "A", "A")
	wrong(t, filled("A <- A", maxSource+1), maxSource, errTooLarge)
	tellsExpr(t, filled("A", maxSource), answer{t: tree.Rule("A")})
	tellsExpr(t, filled("A", maxSource+1), answer{at: maxSource, e: errTooLarge})
	wrong(t, filled("A <- A <-", maxSource), 5, errTwice, "A", "A")
	wrong(t, filled("A <- B", maxSource), 5, errName, "A")
	wrong(t, filled("A <- (", maxSource), maxSource, errForm)
	wrong(t, filled("A <- )", maxSource), 5, errForm)
	tellsExpr(t, filled("(", maxSource), answer{at: maxSource, e: errForm})
	tellsExpr(t, strings.Repeat("!", maxSource-1)+".", answer{at: maxSource, e: errTooLarge})
	large := "A <- " + strings.Repeat("!", maxDepth) + "."
	wrong(t, filled(large, maxSource-1), maxSource-1, errTooLarge, "A")
	// ErrTooLarge at MaxSource, though that is the text's length here: so there are no names.
	wrong(t, filled(large, maxSource), maxSource, errTooLarge)
	wrong(t, filled(large, maxSource+1), maxSource, errTooLarge)
	wrong(t, strings.Repeat("a<-", maxSource/3), 3, errTwice, slices.Repeat([]string{"a"}, maxSource/3)...)
	wrong(t, strings.Repeat("-", 1<<26), maxSource, errTooLarge)
	tellsExpr(t, strings.Repeat("(", 1<<26), answer{at: maxSource, e: errTooLarge})
}

// P7.1, P7.5, R1: parentheses, and Caps, that stand within one another many thousand deep.
func TestDeepParentheses(t *testing.T) {
	for _, n := range []int{1, 2, 1000, 16000, 32000} {
		up, down := strings.Repeat("(", n), strings.Repeat(")", n)
		tellsExpr(t, up+down, answer{t: tree.Empty()})
		tellsExpr(t, up+"A"+down, answer{t: tree.Rule("A")})
		tellsExpr(t, up+"A B/C"+down+"*", answer{t: grown("*[(AB)C]").clean()})
		denotes(t, "A<-"+up+"A"+down+"B<-"+"A", "A", "A", "B", "A")
		tellsExpr(t, up+"A"+down[1:], answer{at: 2 * n, e: errForm})
		tellsExpr(t, up+"A", answer{at: n + 1, e: errForm})
		tellsExpr(t, up+"A"+down+")", answer{at: 2*n + 1, e: errForm})
		tellsExpr(t, up+"A"+down[1:]+">", answer{at: 2 * n, e: errForm})
		tellsExpr(t, up, answer{at: n, e: errForm})
		tellsExpr(t, down, answer{e: errForm})
		wrong(t, "A<-"+up+"A"+down+")", 2*n+4, errForm)
		wrong(t, "A<-"+up+"B<-"+down, n+3, errForm)
	}
	const n = 13000
	up, down := strings.Repeat("<a:", n), strings.Repeat(">", n)
	tellsExpr(t, up+"A"+down, answer{at: 4*n + 1, e: errTooLarge})
	tellsExpr(t, up+"A"+down[1:], answer{at: 4 * n, e: errForm})
	tellsExpr(t, up+"A"+down+">", answer{at: 4*n + 1, e: errForm})
	tellsExpr(t, up+"A"+down[1:]+")", answer{at: 4 * n, e: errForm})
	wrong(t, "A<-"+up+down, 4*n+3, errTooLarge, "A")
	for _, s := range []struct{ ahead, behind string }{{"(.", ")"}, {"(", ".)"}, {"(./", ")"}, {"(", "/)"}, {"!(", ")"}, {"(", ")?"}, {"(.", "/)"}, {"(", ".)*"}, {"!", ""}, {"", "?"}, {"&(.", ")/"}} {
		n := (maxSource - 1) / (len(s.ahead) + len(s.behind))
		text := strings.Repeat(s.ahead, n) + "." + strings.Repeat(s.behind, n)
		tellsExpr(t, text, answer{at: len(text), e: errTooLarge})
	}
	for _, s := range []struct{ ahead, behind, plant string }{{`(""`, ")", "."}, {"(()", "())", "."}, {"(", `"")`, "."}} {
		n := (maxSource - 1) / (len(s.ahead) + len(s.behind))
		tellsExpr(t, strings.Repeat(s.ahead, n)+"."+strings.Repeat(s.behind, n), answer{t: grown(s.plant).clean()})
	}
}

// P7.1: Expr, whatever rules are called.
func TestExprCalls(t *testing.T) {
	tellsExpr(t, "A", answer{t: tree.Rule("A")})
	tellsExpr(t, "nowhere A / <no_1: A2>", answer{t: exprOf("nowhere A / <no_1: A2>").t})
	for _, s := range []string{"", " ", "\n\t\r ", "#", "# A", "#\n# <-\n", "#(\n"} {
		tellsExpr(t, s, answer{t: tree.Empty()})
	}
	for _, s := range []string{"A <- B", "A <-", "A # \n <- B", "A <- B\nB <- A\n"} {
		tellsExpr(t, s, answer{e: errForm})
		tellsExpr(t, "B / "+s, answer{at: 4, e: errForm})
	}
}

// P7.2: the names of rules, each time.
func TestNames(t *testing.T) {
	for text, want := range map[string]string{
		"a <-": "a", "a <- b c <- a": "a c", "a <- a <- a <-": "a a a", "b <- x a <- y b <- z": "b a b", "_ <- Z9 <- \"_\" / z9 <- .": "_ Z9 z9", "a <- <n: \"x\">": "a", "a<-a b<-b c<-nowhere": "a b c",
		"": "", " ": "", "a": "", "a b": "", "a <- (": "", "a <- b <- )": "", "a <- -": "", "a <- b <- c <- 9": "", "<-": "", "a <- a <- {2,1}": "", "a <- <b <- c>": "",
	} {
		if got := parse.Names(text); !slices.Equal(got, strings.Fields(want)) || want == "" && got != nil {
			t.Errorf("Names(%q) = %q, not %q", text, got, want)
		}
	}
}

// The chapter's examples, and those of the document.
func TestExamples(t *testing.T) {
	g, at, e := parse.Grammar("a <- \"x\" b* / !.\nb <- [0-9]")
	star := over(api.Node{Kind: 6, Max: -1}, plant{node: api.Node{Kind: 3, Text: "b"}})
	a := plant{api.Node{Kind: 5}, []plant{{api.Node{Kind: 4}, []plant{grown("x"), star}}, over(api.Node{Kind: 8}, plant{node: api.Node{Kind: 1, Set: allBytes}})}}
	b := plant{node: api.Node{Kind: 1, Set: api.Bytes{0x3ff << '0'}}}
	if want := (api.Grammar{Rules: []api.Def{{Name: "a", Body: a.clean()}, {Name: "b", Body: b.clean()}}}); !sameGrammar(g, want) || at != 0 || e != api.OK {
		t.Errorf("%v, %d, %d", g, at, e)
	}
	wrong(t, "a <- (b", 7, api.ErrForm)
	wrong(t, "a <- b", 5, api.ErrName, "a")
	wrong(t, "a <- a a <- a", 7, api.ErrTwice, "a", "a")
	denotes(t, `a <- / ""`, "a", "[--]")
	wrong(t, "", 0, api.ErrForm)
	wrong(t, "a", 1, api.ErrForm)
	wrong(t, "a <- !/ b", 6, api.ErrForm)
	wrong(t, "a <- b 'x' ..", 7, api.ErrForm)
	wrong(t, "a <- b; ..", 6, api.ErrForm)
}
