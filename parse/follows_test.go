package parse_test

import (
	"math/bits"
	"reflect"
	"regexp"
	"slices"
	"strings"
	"testing"
	"unsafe"

	"bonsai/api"
	"bonsai/expr"
	"bonsai/lex"
	"bonsai/parse"
	"bonsai/tree"
)

var nameForm = regexp.MustCompile(`\A[a-zA-Z_][a-zA-Z_0-9]{0,31}\z`)

// rightTexts are texts that denote grammars, of all sorts.
func rightTexts(r *numbers, many int) []string {
	l := []string{"a<-", "a <- a", "A <- B / C B <- (A) C <- !B*"}
	for len(l) < many {
		names := []string{"A", "B", "C", "zz_9"}[:3+r.next(2)]
		if text := parted(r, wildRules(r, names)); grammarOf(text).e == ok {
			l = append(l, text)
		}
	}
	return l
}

// P7.3: bodies that are normal, clean, and may be; names, no two the same; all that is called is there.
func TestWhatIsDenoted(t *testing.T) {
	r := numbers(21)
	for _, text := range rightTexts(&r, 3000) {
		g, _, e := parse.Grammar(text)
		if e != ok || len(g.Rules) == 0 || len(g.Rules) > maxRules {
			t.Fatalf("%q: %d, %d rules", text, e, len(g.Rules))
		}
		known := map[string]bool{}
		for _, d := range g.Rules {
			if known[d.Name] || !nameForm.MatchString(d.Name) {
				t.Fatalf("%q: the name %q", text, d.Name)
			}
			known[d.Name] = true
			mayBe(t, text, d.Body)
		}
		for _, d := range g.Rules {
			for _, n := range d.Body.Nodes {
				if n.Kind == api.Rule && !known[n.Text] {
					t.Fatalf("%q: %q is not there", text, n.Text)
				}
			}
		}
	}
	for range 3000 {
		text := parted(&r, wild(&r, 5))
		x, _, e := parse.Expr(text)
		if e != ok {
			t.Fatalf("%q: %d", text, e)
		}
		mayBe(t, text, x)
	}
}

// mayBe says that a tree may be, is normal, and clean.
func mayBe(t *testing.T, text string, x api.Tree) {
	t.Helper()
	if !tree.May(x) || !expr.Normal(x) || !sameTree(tree.Clean(x), x) {
		t.Fatalf("%q: %v may be: %v, is normal: %v", text, x, tree.May(x), expr.Normal(x))
	}
}

// P7.4: a text of rules, and then another one's, denotes these rules and those.
func TestOneByOne(t *testing.T) {
	r := numbers(22)
	for range 2000 {
		var all string
		var want answer
		for _, name := range [][]string{{"A", "zz_9", "B", "C"}, {"C", "B", "A", "zz_9", "D"}, {"_", "zz_9", "A", "A9", "C", "B"}}[r.next(3)] {
			body := parted(&r, wild(&r, 3)) + "\n"
			x, _, e := parse.Expr(body)
			if e != ok {
				t.Fatalf("%q: %d", body, e)
			}
			want.names = append(want.names, name)
			want.g.Rules = append(want.g.Rules, api.Def{Name: name, Body: x})
			all += name + "<-" + body
		}
		tellsGrammar(t, all, want)
	}
	l := rightTexts(&r, 300)
	for i, text := range l {
		other := strings.NewReplacer("A", "X", "B", "Y", "C", "Z", "zz_9", "v", "a", "w").Replace(strings.ReplaceAll(l[len(l)-1-i], "[a-c]", "."))
		one, _, e := parse.Grammar(text)
		two, _, e2 := parse.Grammar(other)
		if e != ok || e2 != ok {
			t.Fatalf("%q: %d, %q: %d", text, e, other, e2)
		}
		both, at, e := parse.Grammar(text + "\n" + other)
		if at != 0 || e != ok || !sameGrammar(both, api.Grammar{Rules: slices.Concat(one.Rules, two.Rules)}) {
			t.Fatalf("%q, and then %q: %v, %d, %d", text, other, both, at, e)
		}
		if _, at, e := parse.Grammar(text + "\n" + text); e != errTwice || at != len(text)+1+strings.Index(text, names(text)[0]) {
			t.Fatalf("%q twice: %d, %d", text, at, e)
		}
	}
}

func names(text string) []string { return grammarOf(text).names }

// P7.5: parentheses, as often as one likes; two with a / between; two one behind the other.
func TestBrackets(t *testing.T) {
	r := numbers(23)
	all := samples()
	some := func() string {
		if r.next(2) == 0 {
			return all[r.next(len(all))].text + "\n"
		}
		return parted(&r, wild(&r, 3)) + "\n"
	}
	read := func(text string) api.Tree {
		x, at, e := parse.Expr(text)
		if at != 0 || e != ok {
			t.Fatalf("%q: %d, %d", text, at, e)
		}
		return x
	}
	for range 2000 {
		a, b := some(), some()
		x, y := read(a), read(b)
		n := 1 + r.next(200)
		if got := read(strings.Repeat("(", n) + a + strings.Repeat(")", n)); !sameTree(got, x) {
			t.Fatalf("%q in parentheses: %v", a, got)
		}
		choice, _ := expr.Choice([]api.Tree{x, y})
		for _, text := range []string{a + "/" + b, "(" + a + ")/(" + b + ")", "(" + a + "/" + b + ")", a + "/(" + b + ")"} {
			if got := read(text); !sameTree(got, choice) {
				t.Fatalf("%q: %v", text, got)
			}
		}
		seq, _ := expr.Seq([]api.Tree{x, y})
		for _, text := range []string{"(" + a + ")(" + b + ")", "((" + a + ") (" + b + "))", "(" + a + ")()(" + b + ")"} {
			if got := read(text); !sameTree(got, seq) {
				t.Fatalf("%q: %v", text, got)
			}
		}
	}
}

// P7.6: a place is the text's length at most; of an ErrForm the text that is cut there is not wrong ahead of that.
func TestPlaces(t *testing.T) {
	r := numbers(24)
	told := 0
	for range 10000 {
		l := wildRules(&r, []string{"A", "B"})
		for range 1 + r.next(2) {
			l = spoiled(&r, l)
		}
		text := parted(&r, l)
		_, at, e := parse.Grammar(text)
		if at > len(text) || at < 0 || e == ok && at != 0 {
			t.Fatalf("Grammar(%q): %d, %d", text, at, e)
		}
		if e == errForm {
			told++
			if _, ahead, e := parse.Grammar(text[:at]); e == errForm && ahead < at {
				t.Fatalf("Grammar(%q): %d; cut there: %d", text, at, ahead)
			}
		}
		text = parted(&r, l[min(2, len(l)):])
		_, at, e = parse.Expr(text)
		if at > len(text) || at < 0 || e == ok && at != 0 {
			t.Fatalf("Expr(%q): %d, %d", text, at, e)
		}
		if e == errForm {
			if _, ahead, e := parse.Expr(text[:at]); e != ok && ahead < at {
				t.Fatalf("Expr(%q): %d; cut there: %d, %d", text, at, ahead, e)
			}
		}
	}
	if told < 3000 {
		t.Errorf("ErrForm is told %d times", told)
	}
}

// P7.7: with blanks, and comments ended by LF, between words, the same is denoted.
func TestBlanks(t *testing.T) {
	r := numbers(25)
	for _, text := range rightTexts(&r, 1500) {
		want, _, _ := parse.Grammar(text)
		words, _, _ := lex.Words(text)
		anew := ""
		for _, w := range words {
			anew += partings[r.next(len(partings))] + text[w.At:w.To]
		}
		for _, other := range []string{anew, anew + "\n", anew + " # <-", lex.Join(words), "\n#\n" + lex.Join(words) + "\t"} {
			if got, at, e := parse.Grammar(other); !sameGrammar(got, want) || at != 0 || e != ok {
				t.Fatalf("%q, and then %q: %v, %d, %d", text, other, got, at, e)
			}
		}
		body := parted(&r, wild(&r, 4))
		x, _, _ := parse.Expr(body)
		words, _, _ = lex.Words(body)
		if got, _, e := parse.Expr(lex.Join(words)); !sameTree(got, x) || e != ok {
			t.Fatalf("%q, joined anew: %v, %d", body, got, e)
		}
	}
}

// told is what the calls tell of a text.
type told struct {
	Grammar api.Grammar
	Tree    api.Tree
	Names   []string
	At      [2]int
	E       [2]api.Errno
}

func ask(text string) told {
	var out told
	out.Grammar, out.At[0], out.E[0] = parse.Grammar(text)
	out.Tree, out.At[1], out.E[1] = parse.Expr(text)
	out.Names = parse.Names(text)
	return out
}

// texts are texts of all sorts.
func texts() []string {
	r := numbers(26)
	l := rightTexts(&r, 200)
	for _, s := range samples() {
		l = append(l, s.text)
	}
	for range 300 {
		l = append(l, parted(&r, wild(&r, 4)), parted(&r, spoiled(&r, wildRules(&r, []string{"A", "B", "C", "zz_9", "C"}[:3+r.next(3)]))))
	}
	return l
}

// lists tells where the lists of a value stand in memory, with the room behind them.
func lists(v reflect.Value) [][2]uintptr {
	var out [][2]uintptr
	switch v.Kind() {
	case reflect.Slice:
		if n := uintptr(v.Cap()) * v.Type().Elem().Size(); n > 0 {
			out = append(out, [2]uintptr{v.Pointer(), v.Pointer() + n})
		}
		for i := range v.Len() {
			out = append(out, lists(v.Index(i))...)
		}
	case reflect.Struct:
		for i := range v.NumField() {
			out = append(out, lists(v.Field(i))...)
		}
	}
	return out
}

// R1: what is told shares no memory with the text, nor with what is told the next time; no two lists of it share any; and the same is told each time.
func TestStandsApart(t *testing.T) {
	for _, text := range texts() {
		bytes := []byte(text + " ")
		held := unsafe.String(&bytes[0], len(text))
		first, second, want := ask(held), ask(held), ask(text)
		all := append(lists(reflect.ValueOf(first)), lists(reflect.ValueOf(second))...)
		slices.SortFunc(all, func(a, b [2]uintptr) int { return int(int64(a[0]) - int64(b[0])) })
		for i := range len(all) - 1 {
			if all[i+1][0] < all[i][1] {
				t.Fatalf("%q: two lists share memory", text)
			}
		}
		if held != text || !reflect.DeepEqual(first, want) || !reflect.DeepEqual(second, want) {
			t.Fatalf("%q: another thing is told the second time", text)
		}
		for i := range bytes {
			bytes[i] = '?'
		}
		for _, d := range append(first.Grammar.Rules, api.Def{Body: first.Tree}) {
			clear(d.Body.Nodes[:cap(d.Body.Nodes)])
		}
		clear(first.Grammar.Rules[:cap(first.Grammar.Rules)])
		clear(first.Names[:cap(first.Names)])
		if !reflect.DeepEqual(second, want) || !reflect.DeepEqual(ask(text), want) {
			t.Fatalf("%q: what is told is seen to change", text)
		}
	}
}

// R1: whatever is handed in, each call ends.
func TestEnds(t *testing.T) {
	r := numbers(27)
	for range 6000 {
		text := make([]byte, r.next(40))
		for i := range text {
			text[i] = byte(r.next(256))
		}
		ask(string(text))
	}
	for range 6000 {
		s := ""
		for range r.next(60) {
			s += " " + pieces[r.next(len(pieces))]
		}
		ask(s)
		ask("A<-" + s)
	}
	for _, p := range append(pieces, "a<-", "<a:", "a\n<-\n", "(/", "/)", "!(", ")*", "\x00", "#", "<", "<a", "<a:(") {
		ask(strings.Repeat(p+" ", maxSource/(len(p)+1)))
		ask("A<-" + strings.Repeat(p, (maxSource-3)/len(p)))
		ask(strings.Repeat(p, 1<<bits.Len(maxSource)))
	}
}
