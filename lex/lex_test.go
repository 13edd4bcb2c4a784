package lex_test

import (
	"slices"
	"strconv"
	"strings"
	"testing"

	"bonsai/api"
	"bonsai/lex"
	"bonsai/set"
)

// tells holds what Words tells against what it is to tell; of errors the words are none.
func tells(t *testing.T, text string, words []lex.Word, at int, e api.Errno) {
	t.Helper()
	gotWords, gotAt, gotE := lex.Words(text)
	if !slices.Equal(gotWords, words) || gotAt != at || gotE != e || (len(words) == 0) != (gotWords == nil) {
		t.Fatalf("Words(%.200q) = %s, %d, %d, not %s, %d, %d", text, brief(gotWords), gotAt, gotE, brief(words), at, e)
	}
}

// asTheWordsSay holds Words against the words of the document.
func asTheWordsSay(t *testing.T, text string) {
	t.Helper()
	words, at, e := wordsOf(text)
	tells(t, text, words, at, e)
}

// placed is a word that stands somewhere.
func placed(s sample, at int) lex.Word {
	s.word.At, s.word.To = at, at+len(s.text)
	return s.word
}

// P6.1: the kinds' numbers.
func TestKinds(t *testing.T) {
	for i, kind := range []uint8{lex.Name, lex.Arrow, lex.Slash, lex.And, lex.Not, lex.Question, lex.Star, lex.Plus, lex.Open, lex.Close, lex.Less, lex.Greater, lex.Colon, lex.Count, lex.Literal, lex.Class} {
		if int(kind) != i+1 {
			t.Errorf("kind %d is %d", i+1, kind)
		}
	}
}

// P6.1: each word alone, at the text's beginning and end, within what parts words, and next to its kind's like.
func TestWordsAlone(t *testing.T) {
	for _, s := range samples() {
		tells(t, s.text, []lex.Word{placed(s, 0)}, 0, api.OK)
		for _, p := range partings {
			tells(t, s.text+p, []lex.Word{placed(s, 0)}, 0, api.OK)
			tells(t, p+s.text, []lex.Word{placed(s, len(p))}, 0, api.OK)
			tells(t, p+s.text+p, []lex.Word{placed(s, len(p))}, 0, api.OK)
			tells(t, s.text+p+s.text, []lex.Word{placed(s, 0), placed(s, len(s.text)+len(p))}, 0, api.OK)
			for _, q := range lasts {
				tells(t, p+s.text+q, []lex.Word{placed(s, len(p))}, 0, api.OK)
			}
		}
	}
}

// P6.1: each word behind each other one, with and without what parts words between.
func TestTwoWords(t *testing.T) {
	for _, a := range samples() {
		for _, b := range samples() {
			for _, p := range []string{" ", "\n", "#\n", "\t# \"\r\n"} {
				tells(t, a.text+p+b.text, []lex.Word{placed(a, 0), placed(b, len(a.text)+len(p))}, 0, api.OK)
			}
			text := a.text + b.text
			switch {
			case a.word.Kind != nameKind || b.word.Kind != nameKind:
				tells(t, text, []lex.Word{placed(a, 0), placed(b, len(a.text))}, 0, api.OK)
			case len(text) > maxName:
				tells(t, text, nil, 0, api.ErrForm)
			default:
				tells(t, text, []lex.Word{{Kind: nameKind, To: len(text), Text: text}}, 0, api.OK)
			}
		}
	}
}

// P6.1: no words, but what parts them.
func TestNoWords(t *testing.T) {
	tells(t, "", nil, 0, api.OK)
	for _, p := range slices.Concat(partings, lasts) {
		tells(t, p, nil, 0, api.OK)
		for _, q := range partings {
			tells(t, q+p, nil, 0, api.OK)
			tells(t, q+p+"\n-", nil, len(q+p)+1, api.ErrForm)
		}
	}
}

// P6.1: words that are one another's beginning.
func TestTheLongestOneCounts(t *testing.T) {
	less, arrow := lex.Word{Kind: 11, To: 1}, lex.Word{Kind: 2, To: 2}
	at := func(w lex.Word, at int) lex.Word {
		w.At, w.To = w.At+at, w.To+at
		return w
	}
	name := func(s string, at int) lex.Word {
		return lex.Word{Kind: nameKind, At: at, To: at + len(s), Text: s}
	}
	tells(t, "<", []lex.Word{less}, 0, api.OK)
	tells(t, "<-", []lex.Word{arrow}, 0, api.OK)
	tells(t, "<<-", []lex.Word{less, at(arrow, 1)}, 0, api.OK)
	tells(t, "<-<", []lex.Word{arrow, at(less, 2)}, 0, api.OK)
	tells(t, "<-<-", []lex.Word{arrow, at(arrow, 2)}, 0, api.OK)
	tells(t, "<>", []lex.Word{less, {Kind: 12, At: 1, To: 2}}, 0, api.OK)
	tells(t, "<a-", nil, 2, api.ErrForm)
	tells(t, "<--", nil, 2, api.ErrForm)
	tells(t, "<\n-", nil, 2, api.ErrForm)
	tells(t, "<#\n-", nil, 3, api.ErrForm)
	tells(t, "<-a", []lex.Word{arrow, name("a", 2)}, 0, api.OK)
	tells(t, "ab", []lex.Word{name("ab", 0)}, 0, api.OK)
	tells(t, "a b", []lex.Word{name("a", 0), name("b", 2)}, 0, api.OK)
	tells(t, "a1 a 1", nil, 5, api.ErrForm)
	tells(t, "a{1}1", nil, 4, api.ErrForm)
	tells(t, "a{", nil, 1, api.ErrForm)
	tells(t, "a{ b }", nil, 1, api.ErrForm)
	tells(t, `"a""b"`, []lex.Word{{Kind: literalKind, To: 3, Text: "a"}, {Kind: literalKind, At: 3, To: 6, Text: "b"}}, 0, api.OK)
	tells(t, `"a"b"`, nil, 4, api.ErrForm)
	tells(t, "[a]]", nil, 3, api.ErrForm)
	tells(t, "{1}}", nil, 3, api.ErrForm)
	tells(t, "{1}{2,}", []lex.Word{{Kind: countKind, To: 3, Low: 1, High: 1}, {Kind: countKind, At: 3, To: 7, Low: 2, High: -1}}, 0, api.OK)
	tells(t, "..", []lex.Word{{Kind: classKind, To: 1, Set: set.All()}, {Kind: classKind, At: 1, To: 2, Set: set.All()}}, 0, api.OK)
}

// P6.1: a # begins a comment where a word might begin, and behind one, but not within a literal or a class; a comment goes to the LF, whatever is in it.
func TestComments(t *testing.T) {
	a, b := sample{text: "a", word: lex.Word{Kind: nameKind, Text: "a"}}, sample{text: "b", word: lex.Word{Kind: nameKind, Text: "b"}}
	for c := range 256 {
		s := string([]byte{byte(c)})
		if c == '\n' {
			tells(t, "a#\nb", []lex.Word{placed(a, 0), placed(b, 3)}, 0, api.OK)
			continue
		}
		tells(t, "a#"+s+"b", []lex.Word{placed(a, 0)}, 0, api.OK)
		tells(t, "a#"+s+"b\nb", []lex.Word{placed(a, 0), placed(b, 5)}, 0, api.OK)
	}
	tells(t, `a "#" b`, []lex.Word{placed(a, 0), {Kind: literalKind, At: 2, To: 5, Text: "#"}, placed(b, 6)}, 0, api.OK)
	tells(t, `a [#] b`, []lex.Word{placed(a, 0), {Kind: classKind, At: 2, To: 5, Set: set.Of("#")}, placed(b, 6)}, 0, api.OK)
}

// P6.1: each byte where a word might begin: alone, behind a blank, behind a comment, behind and ahead of a word.
func TestEachByte(t *testing.T) {
	for c := range 256 {
		s := string([]byte{byte(c)})
		for _, ahead := range []string{"", " ", "\n", "#\n", "a ", "a", "<", "{1}", `"x"`, "[x]", ")", "<-"} {
			for _, behind := range []string{"", " ", "\n", "a", " a", "1", "-", "#", "{2}", "]", "\"", "}", "1}", "<-"} {
				asTheWordsSay(t, ahead+s+behind)
			}
		}
		begins := strings.Contains("abcdefghijklmnopqrstuvwxyzABCDEFGHIJKLMNOPQRSTUVWXYZ_/&!?*+()<>:.", s)
		switch words, at, e := lex.Words(s); {
		case strings.Contains(" \t\r\n#", s):
			tells(t, s, nil, 0, api.OK)
		case begins && (len(words) != 1 || at != 0 || e != api.OK):
			t.Errorf("Words(%q) = %s, %d, %d", s, brief(words), at, e)
		case !begins:
			tells(t, s, nil, 0, api.ErrForm)
			tells(t, " a "+s, nil, 3, api.ErrForm)
		}
	}
}

// P6.1: all texts that are not long, of bytes that matter to one another.
func TestAllShortTexts(t *testing.T) {
	held := func(text string) { asTheWordsSay(t, text) }
	texts("a1<-{}\"[]\\#.\n ", 4, held)
	texts("{},019", 6, held)
	texts("\"\\xan", 6, held)
	texts("[]^-ab", 6, held)
	texts("[]^-\\a", 5, held)
	texts("<-> a#\n", 5, held)
}

// Errors, P6.1: what is none, at its first byte: alone, behind and ahead of words.
func TestNones(t *testing.T) {
	for _, s := range nones() {
		tells(t, s, nil, 0, api.ErrForm)
		tells(t, s+" a", nil, 0, api.ErrForm)
		tells(t, s+"\n", nil, 0, api.ErrForm)
		for _, w := range samples() {
			tells(t, w.text+" "+s, nil, len(w.text)+1, api.ErrForm)
			tells(t, w.text+"#\n"+s+" "+w.text, nil, len(w.text)+2, api.ErrForm)
			asTheWordsSay(t, w.text+s)
			asTheWordsSay(t, s+w.text)
		}
	}
}

// Errors, P6.1: what is begun and not ended.
func TestOpen(t *testing.T) {
	for _, s := range open {
		tells(t, s, nil, 0, api.ErrForm)
		tells(t, "a "+s, nil, 2, api.ErrForm)
		tells(t, "a# b\n("+s, nil, 6, api.ErrForm)
		for _, w := range samples() {
			tells(t, w.text+" "+s, nil, len(w.text)+1, api.ErrForm)
			asTheWordsSay(t, s+w.text)
			asTheWordsSay(t, s+"\n"+w.text)
		}
	}
}

// Errors: of two that are wrong the first one.
func TestTheFirstError(t *testing.T) {
	not := append(nones(), open...)
	for _, a := range nones() {
		for i, b := range not {
			tells(t, "a/ "+a+" b "+b, nil, 3, api.ErrForm)
			if i%7 == 0 {
				asTheWordsSay(t, a+b)
			}
		}
	}
}

// Errors, P6.1: names, literals and counts just as long as may be, and one byte longer.
func TestLengths(t *testing.T) {
	for n := 1; n <= 2*maxName; n++ {
		for _, s := range []string{strings.Repeat("a", n), "_" + strings.Repeat("0", n-1)} {
			if n <= maxName {
				tells(t, s+"+", []lex.Word{{Kind: nameKind, To: n, Text: s}, {Kind: 8, At: n, To: n + 1}}, 0, api.OK)
			} else {
				tells(t, s+"+", nil, 0, api.ErrForm)
			}
		}
	}
	for n := range 2 * maxLiteral {
		s := strings.Repeat("a", n)
		for _, text := range []string{`"` + s + `"`, `"` + strings.Repeat(`\x61`, n) + `"`} {
			if n <= maxLiteral {
				tells(t, text+"+", []lex.Word{{Kind: literalKind, To: len(text), Text: s}, {Kind: 8, At: len(text), To: len(text) + 1}}, 0, api.OK)
			} else {
				tells(t, text+"+", nil, 0, api.ErrForm)
			}
		}
	}
	// A class has no bound of its own.
	class := "[" + strings.Repeat(`\x61-\x63`, 7000) + "]"
	tells(t, class, []lex.Word{{Kind: classKind, To: len(class), Set: set.Range('a', 'c')}}, 0, api.OK)
}

// P6.1: counts of all numbers up to beyond those that may be.
func TestCounts(t *testing.T) {
	for low := range 120 {
		a := strconv.Itoa(low)
		for _, c := range [][2]string{{"{" + a + "}", a}, {"{" + a + ",}", ""}} {
			if low > maxRep {
				tells(t, c[0], nil, 0, api.ErrForm)
				continue
			}
			high := low
			if c[1] == "" {
				high = -1
			}
			tells(t, c[0], []lex.Word{{Kind: countKind, To: len(c[0]), Low: low, High: high}}, 0, api.OK)
		}
		for high := range 120 {
			text := "{" + a + "," + strconv.Itoa(high) + "}"
			if low <= high && high <= maxRep {
				tells(t, text, []lex.Word{{Kind: countKind, To: len(text), Low: low, High: high}}, 0, api.OK)
			} else {
				tells(t, text, nil, 0, api.ErrForm)
			}
		}
	}
}

// Errors: a text of as many bytes as may be, and of one more, whatever else is wrong with it.
func TestSource(t *testing.T) {
	for _, s := range []string{"a ", " a", ".", "<", "<-", `""`, "[]", "{1}", `"ab" `, "#", "\n", "# \"\n", "a#\xff\n", "[a-z]{1,9}", "/ x1 "} {
		text := strings.Repeat(s, maxSource/len(s)+2)
		asTheWordsSay(t, text[:maxSource])
		asTheWordsSay(t, text[:maxSource-1]+"-")
		asTheWordsSay(t, "-"+text[:maxSource-1])
		for _, over := range []string{text[:maxSource+1], text[:maxSource] + "-", "-" + text[:maxSource], text + text} {
			tells(t, over, nil, maxSource, api.ErrTooLarge)
		}
	}
	for _, s := range []string{"n", "7", "{", `"`, "[", `"\`, "[a-", "{1,", `"a`, "[a", "{1", "#", " "} {
		text := s + strings.Repeat(s[len(s)-1:], maxSource)
		asTheWordsSay(t, text[:maxSource])
		tells(t, text[:maxSource+1], nil, maxSource, api.ErrTooLarge)
	}
	tells(t, strings.Repeat("-", 1<<26), nil, maxSource, api.ErrTooLarge)
}

// The chapter's examples.
func TestExamples(t *testing.T) {
	a, b := lex.Word{Kind: lex.Name, At: 0, To: 1, Text: "a"}, lex.Word{Kind: lex.Name, At: 3, To: 4, Text: "b"}
	tells(t, "a<-b#c\n/{2,}", []lex.Word{a, {Kind: lex.Arrow, At: 1, To: 3}, b, {Kind: lex.Slash, At: 7, To: 8}, {Kind: lex.Count, At: 8, To: 12, Low: 2, High: -1}}, 0, api.OK)
	tells(t, "< -", nil, 2, api.ErrForm)
	tells(t, "{2,1}", nil, 0, api.ErrForm)
	tells(t, `x "ab`, nil, 2, api.ErrForm)
	tells(t, ".", []lex.Word{{Kind: lex.Class, To: 1, Set: set.All()}}, 0, api.OK)
	tells(t, "", nil, 0, api.OK)
}
