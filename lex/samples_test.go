package lex_test

import (
	"fmt"
	"regexp"
	"strconv"
	"strings"

	"bonsai/api"
	"bonsai/lex"
	"bonsai/set"
)

// The words as the document says them, in another way than the program does: kinds by their numbers, what is written as regular expressions, and of a place the longest one by trying all.

const (
	maxSource  = 65536
	maxLiteral = 255
	maxName    = 32
	maxRep     = 99

	nameKind    = 1
	countKind   = 14
	literalKind = 15
	classKind   = 16

	inLiteral = `(?:[ !#-\[\]-~]|\\[nrt"\\]|\\x[0-9a-fA-F]{2})`
	inClass   = `(?:[ -,.-\[_-~]|\\[nrt\]^\\-]|\\x[0-9a-fA-F]{2})`
)

var (
	partForm    = regexp.MustCompile(`\A(?:[ \t\r\n]|#[^\n]*)*`)
	nameForm    = regexp.MustCompile(`\A[a-zA-Z_][a-zA-Z_0-9]*`)
	countForm   = regexp.MustCompile(`\A\{(0|[1-9][0-9]?)(?:(,)(0|[1-9][0-9]?)?)?\}`)
	literalForm = regexp.MustCompile(`\A"(` + inLiteral + `*)"`)
	classForm   = regexp.MustCompile(`\A\[(\^?)((?:` + inClass + `(?:-` + inClass + `)?)*)\]`)
	signForm    = regexp.MustCompile(inLiteral)
	rangeForm   = regexp.MustCompile(`(` + inClass + `)(?:-(` + inClass + `))?`)
)

// written are the words that are themselves, by the numbers of their kinds.
var written = map[uint8]string{2: "<-", 3: "/", 4: "&", 5: "!", 6: "?", 7: "*", 8: "+", 9: "(", 10: ")", 11: "<", 12: ">", 13: ":"}

// byteOf tells the byte that a sign is of.
func byteOf(sign string) byte {
	if sign[0] != '\\' {
		return sign[0]
	}
	switch sign[1] {
	case 'n':
		return 10
	case 'r':
		return 13
	case 't':
		return 9
	case 'x':
		n, _ := strconv.ParseUint(sign[2:], 16, 8)
		return byte(n)
	}
	return sign[1]
}

// literalAt tells the literal that a text begins by.
func literalAt(text string) (w lex.Word, is bool) {
	m := literalForm.FindStringSubmatch(text)
	if m == nil {
		return w, false
	}
	for _, sign := range signForm.FindAllString(m[1], -1) {
		w.Text += string([]byte{byteOf(sign)})
	}
	w.Kind, w.To = literalKind, len(m[0])
	return w, len(w.Text) <= maxLiteral
}

// classAt tells the class that a text begins by.
func classAt(text string) (w lex.Word, is bool) {
	m := classForm.FindStringSubmatch(text)
	if m == nil {
		return w, false
	}
	for _, r := range rangeForm.FindAllStringSubmatch(m[2], -1) {
		low := byteOf(r[1])
		high := low
		if r[2] != "" {
			high = byteOf(r[2])
		}
		if high < low {
			return w, false
		}
		w.Set = set.Or(w.Set, set.Range(low, high))
	}
	if m[1] == "^" {
		w.Set = set.Not(w.Set)
	}
	w.Kind, w.To = classKind, len(m[0])
	return w, true
}

// countAt tells the count that a text begins by.
func countAt(text string) (w lex.Word, is bool) {
	m := countForm.FindStringSubmatch(text)
	if m == nil {
		return w, false
	}
	w.Kind, w.To = countKind, len(m[0])
	w.Low, _ = strconv.Atoi(m[1])
	w.High = w.Low
	if m[2] != "" {
		w.High = -1
	}
	if m[3] != "" {
		w.High, _ = strconv.Atoi(m[3])
	}
	return w, w.High == -1 || w.Low <= w.High
}

// wordAt tells the longest word that a text begins by, if that may be.
func wordAt(text string) (lex.Word, bool) {
	var w lex.Word
	is := false
	try := func(x lex.Word, may bool) {
		if x.To > w.To {
			w, is = x, may
		}
	}
	for kind, s := range written {
		if strings.HasPrefix(text, s) {
			try(lex.Word{Kind: kind, To: len(s)}, true)
		}
	}
	s := nameForm.FindString(text)
	try(lex.Word{Kind: nameKind, To: len(s), Text: s}, len(s) <= maxName)
	if strings.HasPrefix(text, ".") {
		try(lex.Word{Kind: classKind, To: 1, Set: set.All()}, true)
	}
	try(countAt(text))
	try(literalAt(text))
	try(classAt(text))
	return w, is
}

// wordsOf is what the document says of Words.
func wordsOf(text string) (words []lex.Word, at int, e api.Errno) {
	if len(text) > maxSource {
		return nil, maxSource, api.ErrTooLarge
	}
	for at = len(partForm.FindString(text)); at < len(text); at += len(partForm.FindString(text[at:])) {
		w, is := wordAt(text[at:])
		if !is {
			return nil, at, api.ErrForm
		}
		w.At, w.To = at, at+w.To
		words = append(words, w)
		at = w.To
	}
	return words, 0, api.OK
}

// sample is a word, how it stands in a text, and how it is written.
type sample struct {
	text  string
	word  lex.Word
	shown string
}

// samples are words of each kind.
func samples() []sample {
	var l []sample
	for _, s := range []string{"a", "_", "Z9", "x_1", "__", "n", "x41", "az09AZ_", strings.Repeat("q", maxName), "_" + strings.Repeat("9", maxName-1)} {
		l = append(l, sample{s, lex.Word{Kind: nameKind, Text: s}, s})
	}
	for kind := uint8(2); kind <= 13; kind++ {
		l = append(l, sample{written[kind], lex.Word{Kind: kind}, written[kind]})
	}
	return append(append(append(l, countSamples()...), literalSamples()...), classSamples()...)
}

func countSamples() []sample {
	var l []sample
	for _, c := range []struct {
		text      string
		low, high int
		shown     string
	}{
		{"{0}", 0, 0, "{0}"}, {"{1}", 1, 1, "{1}"}, {"{9}", 9, 9, "{9}"}, {"{10}", 10, 10, "{10}"}, {"{99}", 99, 99, "{99}"},
		{"{0,}", 0, -1, "{0,}"}, {"{1,}", 1, -1, "{1,}"}, {"{99,}", 99, -1, "{99,}"},
		{"{0,0}", 0, 0, "{0}"}, {"{0,1}", 0, 1, "{0,1}"}, {"{0,99}", 0, 99, "{0,99}"}, {"{98,99}", 98, 99, "{98,99}"}, {"{99,99}", 99, 99, "{99}"}, {"{9,10}", 9, 10, "{9,10}"}, {"{7,7}", 7, 7, "{7}"},
	} {
		l = append(l, sample{c.text, lex.Word{Kind: countKind, Low: c.low, High: c.high}, c.shown})
	}
	return l
}

func literalSamples() []sample {
	var l []sample
	for _, c := range [][3]string{
		{`""`, "", `""`}, {`"a"`, "a", `"a"`}, {`"<-"`, "<-", `"<-"`}, {`" "`, " ", `" "`}, {`"#"`, "#", `"#"`}, {`"a # b"`, "a # b", `"a # b"`}, {`"[a]"`, "[a]", `"[a]"`}, {`"{1}"`, "{1}", `"{1}"`},
		{`"\n\r\t\"\\"`, "\n\r\t\"\\", `"\n\r\t\"\\"`}, {`"\x00\xfF\x41"`, "\x00\xffA", `"\x00\xffA"`}, {`"\x0a"`, "\n", `"\n"`}, {`"\""`, `"`, `"\""`}, {`"\\"`, `\`, `"\\"`}, {`"]-^."`, "]-^.", `"]-^."`},
	} {
		l = append(l, sample{c[0], lex.Word{Kind: literalKind, Text: c[1]}, c[2]})
	}
	for _, s := range []string{"q", "#", " "} {
		long := strings.Repeat(s, maxLiteral)
		l = append(l, sample{`"` + long + `"`, lex.Word{Kind: literalKind, Text: long}, `"` + long + `"`})
	}
	long := `"` + strings.Repeat(`\x80`, maxLiteral) + `"`
	return append(l, sample{long, lex.Word{Kind: literalKind, Text: strings.Repeat("\x80", maxLiteral)}, long})
}

func classSamples() []sample {
	var l []sample
	all := set.All()
	for _, c := range []struct {
		text  string
		set   api.Bytes
		shown string
	}{
		{".", all, "."}, {"[^]", all, "."}, {`[\x00-\xff]`, all, "."}, {"[]", api.Bytes{}, "[]"}, {`[^\x00-\xFF]`, api.Bytes{}, "[]"},
		{"[a]", set.Of("a"), "[a]"}, {"[a-a]", set.Of("a"), "[a]"}, {"[ba]", set.Of("ab"), "[ab]"}, {"[a-c]", set.Range('a', 'c'), "[a-c]"}, {"[c-fa-d]", set.Range('a', 'f'), "[a-f]"},
		{"[#]", set.Of("#"), "[#]"}, {"[ ]", set.Of(" "), "[ ]"}, {`["]`, set.Of("\""), `["]`}, {"[[]", set.Of("["), "[[]"}, {"[.]", set.Of("."), "[.]"}, {"[<{]", set.Of("<{"), "[<{]"}, {`[\]\-\^\\]`, set.Of(`]-^\`), `[\-\\-\^]`},
		{`[^\x01-\xff]`, set.Of("\x00"), `[\x00]`}, {`[^a]`, set.Not(set.Of("a")), "[\\x00-`b-\\xff]"}, {`[\n\t\r]`, set.Of("\t\n\r"), `[\t\n\r]`}, {`[\x41]`, set.Of("A"), "[A]"}, {`[^\^]`, set.Not(set.Of("^")), `[\x00-\]_-\xff]`},
	} {
		l = append(l, sample{c.text, lex.Word{Kind: classKind, Set: c.set}, c.shown})
	}
	return l
}

// nones are texts by which no word begins, or one that may not be, whatever stands behind that doesn't close it.
func nones() []string {
	l := []string{
		"-", "->", "--", "1", "0", "9", "1a", "1_", "01", "'", "'a'", `\`, `\n`, "]", "}", ",", "^", "|", "~", "@", ";", "=", "$", "%", "`", "\v", "\f", "\u00e9", "\u00a0", "\u2028", "\ufeff", "\uff41",
		"{", "{}", "{,}", "{,3}", "{1", "{1,", "{1,2", "{{1}", "{1{", "{ 1}", "{1 }", "{1, 2}", "{1 ,2}", "{1,2 }", "{\n1}", "{1,\t2}", "{#\n1}", "{01}", "{00}", "{00,}", "{1,02}", "{0,00}", "{01,2}",
		"{100}", "{100,}", "{1,100}", "{100,100}", "{99,100}", "{999}", "{2,1}", "{1,0}", "{99,0}", "{99,98}", "{10,9}", "{1,2,3}", "{1,,}", "{1,,2}", "{-1}", "{1,-1}", "{+1}", "{a}", "{1,a}", "{a,1}", "{1a}", "{1;2}", "{1.5}", "{1-2}",
		`"\q"`, `"\a"`, `"\x"`, `"\x4"`, `"\xg0"`, `"\x0g"`, `"\X41"`, `"\]"`, `"\^"`, `"\-"`, "\"\n\"", "\"a\tb\"", "\"\r\"", "\"\x00\"", "\"\x1f\"", "\"\x7f\"", "\"\x80\"", "\"\xff\"", "\"\u00e9\"",
		"[b-a]", "[xb-a]", "[^b-a]", "[a-]", "[-a]", "[-]", "[a^]", "[^^]", "[a-^]", "[a--]", "[a-b-c]", `[\q]`, `[\"]`, `[\[]`, `[\x]`, `[\x4]`, `[\xg0]`, "[\n]", "[a\tb]", "[\x7f]", "[\x80]", "[\u00e9]",
	}
	for _, many := range []int{maxName + 1, maxName + 2, 1000} {
		l = append(l, strings.Repeat("n", many), "_"+strings.Repeat("9", many-1))
	}
	for _, many := range []int{maxLiteral + 1, maxLiteral + 2, 1000} {
		l = append(l, `"`+strings.Repeat("q", many)+`"`, `"`+strings.Repeat(`\n`, many)+`"`, `"`+strings.Repeat(`\x41`, many)+`"`)
	}
	for _, many := range []int{3, 19, 20, 40, 300} {
		digits := strings.Repeat("9", many)
		l = append(l, "{"+digits+"}", "{"+digits+",}", "{1,"+digits+"}", "{"+digits+","+digits+"}", "{"+strings.Repeat("0", many)+"}", "{"+strings.Repeat("0", many)+"1}")
	}
	// 2^64 and 2^64 + 5, which wrap round to small ones.
	return append(l, "{18446744073709551616}", "{18446744073709551621}", "{1,18446744073709551621}", "{18446744073709551617,3}")
}

// open are texts in which a word is begun and not ended.
var open = []string{`"`, `"a`, `"a\`, `"a\"`, `"a\x`, `"a\x4`, `"#`, "[", "[^", "[a", "[a-", "[a-b", `[\`, `[\]`, `[\x`, `[\x4`, "[#", "{", "{1", "{1,", "{1,2"}

// partings are what parts words; behind those that are not ended by an LF a word can't stand.
var (
	partings = []string{" ", "\t", "\r", "\n", "  ", "\r\n", "#\n", "# a\n", "#a <- b\n", "#\"\n", "#[\n", "##\n", "# #\n\n", " \t\r\n", "#\r\n", "#\x00\xff\u00e9\n", "\n#{\n#}\n ", "#'\"'\n\t# (\n"}
	lasts    = []string{"#", "# a", "#\"", "#a#b", "#[", "#\r", "\n#", " # \t", "#\x00\xff", "#{", "#(a\n #)"}
)

// numbers is a row of numbers that is the same each time.
type numbers uint32

func (r *numbers) next(below int) int {
	*r = *r*1664525 + 1013904223
	return int(*r>>8) % below
}

// some tells so many of a list, in whatever row.
func some(r *numbers, l []sample, many int) []sample {
	var out []sample
	for range many {
		out = append(out, l[r.next(len(l))])
	}
	return out
}

// brief tells a thing's text, or how it begins.
func brief(x any) string { return fmt.Sprintf("%.400s", fmt.Sprintf("%q", fmt.Sprint(x))) }

// texts tells all texts of so many bytes at most, of the bytes of an alphabet.
func texts(alphabet string, most int, each func(string)) {
	var tell func(ahead string, left int)
	tell = func(ahead string, left int) {
		each(ahead)
		if left == 0 {
			return
		}
		for i := range len(alphabet) {
			tell(ahead+alphabet[i:i+1], left-1)
		}
	}
	tell("", most)
}

// strewn is a text of words, and of what parts them, and where it is told to be wrong of what is neither.
func strewn(r *numbers, wrong bool) string {
	l, not := samples(), nones()
	var out strings.Builder
	for range r.next(12) {
		switch n := r.next(12); {
		case n < 7:
			out.WriteString(l[r.next(len(l))].text)
		case n < 11:
			out.WriteString(partings[r.next(len(partings))])
		case wrong && r.next(2) == 0:
			out.WriteString(not[r.next(len(not))])
		case wrong:
			out.WriteString(open[r.next(len(open))])
		}
	}
	if r.next(4) == 0 {
		out.WriteString(lasts[r.next(len(lasts))])
	}
	return out.String()
}
