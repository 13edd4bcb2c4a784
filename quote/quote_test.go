package quote_test

import (
	"fmt"
	"strings"
	"testing"
	"unsafe"

	"bonsai/api"
	"bonsai/quote"
)

// sameLiteral holds what Unliteral tells against what it is to tell.
func sameLiteral(t *testing.T, text, s string, n int, e api.Errno) {
	t.Helper()
	if gotS, gotN, gotE := quote.Unliteral(text); gotS != s || gotN != n || gotE != e {
		t.Errorf("Unliteral(%.80q) = %.80q, %d, %d, not %.80q, %d, %d", text, gotS, gotN, gotE, s, n, e)
	}
}

// sameClass holds what Unclass tells against what it is to tell.
func sameClass(t *testing.T, text string, s api.Bytes, n int, e api.Errno) {
	t.Helper()
	if gotS, gotN, gotE := quote.Unclass(text); gotS != s || gotN != n || gotE != e {
		t.Errorf("Unclass(%.80q) = %x, %d, %d, not %x, %d, %d", text, gotS, gotN, gotE, s, n, e)
	}
}

// P3.1: Literal, each byte by its own sign.
func TestLiteral(t *testing.T) {
	for b := range 256 {
		s := string([]byte{byte(b)})
		sign := own(byte(b), apartInLiteral)
		for _, c := range [][2]string{{s, sign}, {"a" + s, "a" + sign}, {s + "a", sign + "a"}, {s + "4" + s, sign + "4" + sign}} {
			if got, want := quote.Literal(c[0]), `"`+c[1]+`"`; got != want {
				t.Errorf("Literal(%q) = %s, not %s", c[0], got, want)
			}
		}
	}
	for _, s := range contents() {
		if got, want := quote.Literal(s), literal(s); got != want {
			t.Errorf("Literal(%q) = %s, not %s", s, got, want)
		}
	}
}

// P3.1: own signs in a literal, written out.
func TestLiteralWrittenOut(t *testing.T) {
	for s, want := range map[string]string{
		"": `""`, "a": `"a"`, "a\"\n\x00": `"a\"\n\x00"`, "\n\r\t": `"\n\r\t"`, `\`: `"\\"`, `\n`: `"\\n"`, "]-^[.": `"]-^[."`, " ~": `" ~"`,
		"\x1f\x7f\x80\xff": `"\x1f\x7f\x80\xff"`, "\x0a\x0b\x0d\x0e\x09\x08": `"\n\x0b\r\x0e\t\x08"`, "'": `"'"`, "\u00e9": `"\xc3\xa9"`, "\xab\xcd\xef": `"\xab\xcd\xef"`,
	} {
		if got := quote.Literal(s); got != want {
			t.Errorf("Literal(%q) = %s, not %s", s, got, want)
		}
		sameLiteral(t, want, s, len(want), api.OK)
	}
}

// P3.1: Unliteral, each byte by each of its signs, alone and among others.
func TestUnliteral(t *testing.T) {
	for b := range 256 {
		s := string([]byte{byte(b)})
		for _, sign := range signsOf(byte(b), apartInLiteral) {
			sameLiteral(t, `"`+sign+`"`, s, len(sign)+2, api.OK)
			sameLiteral(t, `"a`+sign+`b"`, "a"+s+"b", len(sign)+4, api.OK)
			sameLiteral(t, `"`+sign+sign+`4" x`, s+s+"4", 2*len(sign)+3, api.OK)
		}
	}
	r := row(3)
	for _, s := range contents() {
		text := spelt(s, &r)
		sameLiteral(t, text, s, len(text), api.OK)
	}
}

// P3.1: what is read behind a backslash, and what is not: of whatever byte.
func TestBehindABackslashInALiteral(t *testing.T) {
	read := map[byte]string{'n': "\n", 'r': "\r", 't': "\t", '"': `"`, '\\': `\`}
	for b := range 256 {
		text := `"a\` + string([]byte{byte(b)}) + `"`
		if s, is := read[byte(b)]; is {
			sameLiteral(t, text, "a"+s, 5, api.OK)
		} else if b == 'x' {
			sameLiteral(t, text, "", 4, api.ErrForm)
		} else {
			sameLiteral(t, text, "", 3, api.ErrForm)
		}
	}
	for a := range 256 {
		for b := range 256 {
			text := `"\x` + string([]byte{byte(a), byte(b)}) + `"`
			s, n, e := unliteral(text)
			sameLiteral(t, text, s, n, e)
		}
	}
}

// P3.2: Class, held against the words.
func TestClass(t *testing.T) {
	for _, s := range sets() {
		if got, want := quote.Class(s), class(s); got != want {
			t.Errorf("Class(%x) = %s, not %s", s, got, want)
		}
	}
}

// P3.2: classes written out: of none, one, two, three that stand next to each other, runs at both ends, all, all but one.
func TestClassWrittenOut(t *testing.T) {
	for _, c := range []struct {
		s    api.Bytes
		want string
	}{
		{api.Bytes{}, "[]"}, {setOf('a'), "[a]"}, {setOf('a', 'b'), "[ab]"}, {run('a', 'c'), "[a-c]"}, {run('a', 'd'), "[a-d]"},
		{setOf('a', 'c'), "[ac]"}, {both(run('a', 'd'), setOf('-')), `[\-a-d]`}, {both(run('a', 'c'), run('e', 'f')), "[a-cef]"},
		{setOf(0), `[\x00]`}, {setOf(255), `[\xff]`}, {setOf(0, 255), `[\x00\xff]`}, {run(0, 1), `[\x00\x01]`}, {run(0, 2), `[\x00-\x02]`},
		{run(254, 255), `[\xfe\xff]`}, {run(253, 255), `[\xfd-\xff]`}, {run(0, 254), `[\x00-\xfe]`}, {run(1, 255), `[\x01-\xff]`},
		{butFor(setOf('a')), "[\\x00-`b-\\xff]"}, {butFor(setOf(128)), `[\x00-\x7f\x81-\xff]`}, {butFor(setOf(254)), `[\x00-\xfd\xff]`}, {butFor(setOf(1)), `[\x00\x02-\xff]`},
		{run('\\', '^'), `[\\-\^]`}, {run(']', '^'), `[\]\^]`}, {run(',', '.'), "[,-.]"}, {run('-', '.'), `[\-.]`}, {run('-', '/'), `[\--/]`}, {run('+', '-'), `[+-\-]`},
		{run('[', ']'), `[[-\]]`}, {setOf('"'), `["]`}, {setOf('['), "[[]"}, {setOf('.'), "[.]"}, {run(' ', '~'), "[ -~]"}, {run(9, 10), `[\t\n]`}, {run(9, 13), `[\t-\r]`},
		{run(8, 11), `[\x08-\x0b]`}, {run(126, 127), `[~\x7f]`}, {run(31, 32), `[\x1f ]`}, {butFor(api.Bytes{}), "."},
	} {
		if got := quote.Class(c.s); got != c.want {
			t.Errorf("Class(%x) = %s, not %s", c.s, got, c.want)
		}
		if c.want != "." {
			sameClass(t, c.want, c.s, len(c.want), api.OK)
		}
	}
}

// P3.2: Unclass, each byte by each of its signs: alone, among others, and at both ends of a range.
func TestUnclass(t *testing.T) {
	for b := range 256 {
		s := setOf(byte(b))
		for _, sign := range signsOf(byte(b), apartInClass) {
			n := len(sign)
			sameClass(t, "["+sign+"]", s, n+2, api.OK)
			sameClass(t, "[^"+sign+"]", butFor(s), n+3, api.OK)
			sameClass(t, "[0"+sign+"9]", both(s, setOf('0', '9')), n+4, api.OK)
			sameClass(t, "["+sign+sign+"] x", s, 2*n+2, api.OK)
			sameClass(t, "["+sign+"-"+sign+"]", s, 2*n+3, api.OK)
			sameClass(t, `[\x00-`+sign+"]", run(0, b), n+7, api.OK)
			sameClass(t, "["+sign+`-\xff]`, run(b, 255), n+7, api.OK)
			sameClass(t, "[0-9"+sign+`-\XFF]`, api.Bytes{}, n+6, api.ErrForm)
		}
	}
	r := row(4)
	for range 3000 {
		text := speltClass(&r)
		s, n, e := unclass(text)
		if n != len(text) || e != api.OK {
			t.Fatalf("the sample %q is no class", text)
		}
		sameClass(t, text, s, n, e)
	}
}

// P3.2: each range of two bytes, rising, of one, falling.
func TestRanges(t *testing.T) {
	for a := range 256 {
		for b := range 256 {
			first, last := own(byte(a), apartInClass), own(byte(b), apartInClass)
			text := "[" + first + "-" + last + "]"
			if a <= b {
				sameClass(t, text, run(a, b), len(text), api.OK)
			} else {
				sameClass(t, text, api.Bytes{}, 1, api.ErrForm)
				sameClass(t, "[^q"+text[1:], api.Bytes{}, 3, api.ErrForm)
			}
		}
	}
}

// P3.2: what is read behind a backslash, and what is not: of whatever byte.
func TestBehindABackslashInAClass(t *testing.T) {
	read := map[byte]byte{'n': '\n', 'r': '\r', 't': '\t', ']': ']', '-': '-', '^': '^', '\\': '\\'}
	for b := range 256 {
		text := `[a\` + string([]byte{byte(b)}) + `]`
		if c, is := read[byte(b)]; is {
			sameClass(t, text, setOf('a', c), 5, api.OK)
		} else if b == 'x' {
			sameClass(t, text, api.Bytes{}, 4, api.ErrForm)
		} else {
			sameClass(t, text, api.Bytes{}, 3, api.ErrForm)
		}
	}
	for a := range 256 {
		for b := range 256 {
			text := `[\x` + string([]byte{byte(a), byte(b)}) + `]`
			s, n, e := unclass(text)
			sameClass(t, text, s, n, e)
		}
	}
}

// P3.2: signs, ranges, and what stands where it may not, written out.
func TestUnclassWrittenOut(t *testing.T) {
	all := butFor(api.Bytes{})
	for _, c := range []struct {
		text string
		s    api.Bytes
		n    int
	}{
		{"[]", api.Bytes{}, 2}, {"[^]", all, 3}, {"[]]", api.Bytes{}, 2}, {"[^]]", all, 3}, {"[[]", setOf('['), 3}, {`[\^]`, setOf('^'), 4}, {`[^\^]`, butFor(setOf('^')), 5},
		{"[a-a]", setOf('a'), 5}, {"[ba]", run('a', 'b'), 4}, {"[c-fa-d]", run('a', 'f'), 8}, {"[a-zc-d]", run('a', 'z'), 8}, {`["'.*]`, setOf('"', '\'', '.', '*'), 6},
		{`[\x00-\xFF]`, all, 11}, {`[^\x00-\xff]`, api.Bytes{}, 12}, {`[\--\-]`, setOf('-'), 7}, {`[+-\-]`, run('+', '-'), 6}, {`[\]-\^]`, run(']', '^'), 7}, {`[\x61-\x63]`, run('a', 'c'), 11},
		{`[\\-\]]`, run('\\', ']'), 7}, {"[ -~]", run(32, 126), 5}, {`[\t-\r]`, run(9, 13), 7}, {`[a\-z]`, setOf('a', '-', 'z'), 6}, {"[a-bc-d]", run('a', 'd'), 8},
	} {
		sameClass(t, c.text, c.s, c.n, api.OK)
		sameClass(t, c.text+"rest]", c.s, c.n, api.OK)
	}
}

// The errors of Unliteral, each with its place, written out.
func TestUnliteralErrors(t *testing.T) {
	for _, c := range []struct {
		text string
		at   int
		e    api.Errno
	}{
		{"", 0, api.ErrShort}, {"a", 0, api.ErrForm}, {`a"b"`, 0, api.ErrForm}, {` "b"`, 0, api.ErrForm}, {"[a]", 0, api.ErrForm}, {`\"`, 0, api.ErrForm}, {"'a'", 0, api.ErrForm}, {"\x00", 0, api.ErrForm},
		{`"`, 1, api.ErrShort}, {`"abc`, 4, api.ErrShort}, {`"a\`, 3, api.ErrShort}, {`"a\"`, 4, api.ErrShort}, {`"a\x`, 4, api.ErrShort}, {`"a\x4`, 5, api.ErrShort}, {`"a\x41`, 6, api.ErrShort}, {`"\\\`, 4, api.ErrShort},
		{`"\a"`, 2, api.ErrForm}, {`"\N"`, 2, api.ErrForm}, {`"\X41"`, 2, api.ErrForm}, {`"\0"`, 2, api.ErrForm}, {`"\]"`, 2, api.ErrForm}, {`"\-"`, 2, api.ErrForm}, {`"\^"`, 2, api.ErrForm}, {`"\ "`, 2, api.ErrForm},
		{`"\x"`, 3, api.ErrForm}, {`"\x4"`, 4, api.ErrForm}, {`"\xg1"`, 3, api.ErrForm}, {`"\x1g"`, 4, api.ErrForm}, {`"\xG1"`, 3, api.ErrForm}, {`"\x1G"`, 4, api.ErrForm}, {`"\x-1"`, 3, api.ErrForm}, {`"\x+1"`, 3, api.ErrForm}, {`"\x 1"`, 3, api.ErrForm}, {`"\x1_"`, 4, api.ErrForm},
		{"\"a\n\"", 2, api.ErrForm}, {"\"ab\t\"", 3, api.ErrForm}, {"\"\x1f\"", 1, api.ErrForm}, {"\"\x7f\"", 1, api.ErrForm}, {"\"\x80\"", 1, api.ErrForm}, {"\"\xff\"", 1, api.ErrForm}, {"\"\x00\"", 1, api.ErrForm}, {"\"a\u00e9\"", 2, api.ErrForm},
		{"\"a\nb", 2, api.ErrForm}, {`"\q\w`, 2, api.ErrForm}, {"\"\\\n\"", 2, api.ErrForm},
	} {
		sameLiteral(t, c.text, "", c.at, c.e)
	}
}

// The errors of Unclass, each with its place, written out.
func TestUnclassErrors(t *testing.T) {
	for _, c := range []struct {
		text string
		at   int
		e    api.Errno
	}{
		{"", 0, api.ErrShort}, {".", 0, api.ErrForm}, {"a", 0, api.ErrForm}, {" [a]", 0, api.ErrForm}, {`"a"`, 0, api.ErrForm}, {"]", 0, api.ErrForm}, {"^", 0, api.ErrForm}, {"\xff", 0, api.ErrForm},
		{"[", 1, api.ErrShort}, {"[^", 2, api.ErrShort}, {"[a", 2, api.ErrShort}, {"[^a", 3, api.ErrShort}, {"[a-", 3, api.ErrShort}, {"[a-b", 4, api.ErrShort}, {`[\`, 2, api.ErrShort}, {`[\]`, 3, api.ErrShort}, {`[\x`, 3, api.ErrShort}, {`[\x4`, 4, api.ErrShort}, {`[\x41`, 5, api.ErrShort}, {`[a-\`, 4, api.ErrShort}, {`[b-\x4`, 6, api.ErrShort},
		{"[a^]", 2, api.ErrForm}, {"[^^]", 2, api.ErrForm}, {"[^a^]", 3, api.ErrForm}, {"[-]", 1, api.ErrForm}, {"[-a]", 1, api.ErrForm}, {"[^-a]", 2, api.ErrForm}, {"[a-]", 3, api.ErrForm}, {"[^a-]", 4, api.ErrForm}, {"[a--]", 3, api.ErrForm}, {"[a-^]", 3, api.ErrForm}, {"[+--]", 3, api.ErrForm}, {"[a-b-c]", 4, api.ErrForm}, {"[a-b-]", 4, api.ErrForm}, {"[--a]", 1, api.ErrForm},
		{"[b-a]", 1, api.ErrForm}, {"[^b-a]", 2, api.ErrForm}, {"[xyb-a]", 3, api.ErrForm}, {"[b-a", 1, api.ErrForm}, {"[b-a^", 1, api.ErrForm}, {"[b-aq-\\q]", 1, api.ErrForm}, {`[\x62-\x61]`, 1, api.ErrForm}, {`[a-b\x62-a]`, 4, api.ErrForm}, {`[\--+]`, 1, api.ErrForm}, {"[b-a]]", 1, api.ErrForm},
		{`[b-\q]`, 4, api.ErrForm}, {`[b-\x6g]`, 6, api.ErrForm}, {`[b-\xg]`, 5, api.ErrForm}, {`[b-\x0`, 6, api.ErrShort}, {"[b-\n]", 3, api.ErrForm},
		{`[\a]`, 2, api.ErrForm}, {`[\"]`, 2, api.ErrForm}, {`[\[]`, 2, api.ErrForm}, {`[\.]`, 2, api.ErrForm}, {`[\N]`, 2, api.ErrForm}, {`[\X41]`, 2, api.ErrForm}, {`[\0]`, 2, api.ErrForm},
		{`[\x]`, 3, api.ErrForm}, {`[\x4]`, 4, api.ErrForm}, {`[\xg1]`, 3, api.ErrForm}, {`[\x1g]`, 4, api.ErrForm}, {`[\x-1]`, 3, api.ErrForm}, {`[\x1-]`, 4, api.ErrForm},
		{"[a\n]", 2, api.ErrForm}, {"[\t]", 1, api.ErrForm}, {"[\x1f]", 1, api.ErrForm}, {"[\x7f]", 1, api.ErrForm}, {"[\x80]", 1, api.ErrForm}, {"[\xff]", 1, api.ErrForm}, {"[\x00", 1, api.ErrForm}, {"[\u00e9]", 1, api.ErrForm},
	} {
		sameClass(t, c.text, api.Bytes{}, c.at, c.e)
	}
}

// The errors: a byte that may not stand there, of each byte, at each place where one can.
func TestEachByteAtEachPlace(t *testing.T) {
	for _, good := range []string{`""`, `"a"`, `"ab" c`, `"\n\""`, `"\x4fz"`, `"a\\b"`} {
		for at := range good {
			for b := range 256 {
				text := good[:at] + string([]byte{byte(b)}) + good[at+1:]
				s, n, e := unliteral(text)
				sameLiteral(t, text, s, n, e)
			}
		}
	}
	for _, good := range []string{"[]", "[^]", "[a]", "[ab] c", "[a-c]", "[^a-ce-g]", `[\n\]]`, `[\x4f-\x7A]`, `[\--\^]`} {
		for at := range good {
			for b := range 256 {
				text := good[:at] + string([]byte{byte(b)}) + good[at+1:]
				s, n, e := unclass(text)
				sameClass(t, text, s, n, e)
			}
		}
	}
}

// The errors: a text that ends at each place ahead of the end.
func TestEndsAtEachPlace(t *testing.T) {
	r := row(5)
	for _, s := range contents() {
		text := spelt(s, &r)
		for _, n := range []int{0, 1, 2, 3, 4, 5, 6, len(text) / 2, len(text) - 4, len(text) - 3, len(text) - 2, len(text) - 1} {
			if n >= 0 && n < len(text) {
				sameLiteral(t, text[:n], "", n, api.ErrShort)
			}
		}
	}
	for n := range 300 {
		text := speltClass(&r)
		if n%2 == 0 {
			text = "[^" + text[1:]
		}
		for n := range text {
			sameClass(t, text[:n], api.Bytes{}, n, api.ErrShort)
		}
	}
}

// The errors: of texts of all sorts, of the bytes that matter, held against the words.
func TestAllShortTexts(t *testing.T) {
	var texts func(alphabet, ahead string, most int, each func(string))
	texts = func(alphabet, ahead string, most int, each func(string)) {
		each(ahead)
		if most == 0 {
			return
		}
		for i := range len(alphabet) {
			texts(alphabet, ahead+alphabet[i:i+1], most-1, each)
		}
	}
	texts("\"\\xn4a]\xff", "", 6, func(text string) {
		s, n, e := unliteral(text)
		sameLiteral(t, text, s, n, e)
	})
	texts("]^-\\x4an", "[", 6, func(text string) {
		s, n, e := unclass(text)
		sameClass(t, text, s, n, e)
	})
	texts("]^-b[c", "[", 6, func(text string) {
		s, n, e := unclass(text)
		sameClass(t, text, s, n, e)
	})
	texts(".[]^-\"", "", 4, func(text string) {
		s, n, e := unclass(text)
		sameClass(t, text, s, n, e)
	})
}

// The errors: literals of MaxLiteral bytes, and of one more; a fault behind is told ahead of what is too large.
func TestTooLarge(t *testing.T) {
	for _, s := range []string{"a", "\n", "\x00", `"`, `\`, "\xff"} {
		for _, sign := range signsOf(s[0], apartInLiteral) {
			most := `"` + strings.Repeat(sign, maxLiteral)
			sameLiteral(t, most+`"`, strings.Repeat(s, maxLiteral), len(most)+1, api.OK)
			sameLiteral(t, most+`"`+strings.Repeat("a", 10), strings.Repeat(s, maxLiteral), len(most)+1, api.OK)
			sameLiteral(t, most, "", len(most), api.ErrShort)
			for _, more := range []int{1, 2, 45, 1000} {
				long := most + strings.Repeat(sign, more)
				sameLiteral(t, long+`"`, "", 0, api.ErrTooLarge)
				sameLiteral(t, long+`" "`, "", 0, api.ErrTooLarge)
				sameLiteral(t, long, "", len(long), api.ErrShort)
				sameLiteral(t, long+`\`, "", len(long)+1, api.ErrShort)
				sameLiteral(t, long+"\n\"", "", len(long), api.ErrForm)
				sameLiteral(t, long+`\q"`, "", len(long)+1, api.ErrForm)
				sameLiteral(t, long+`\x4"`, "", len(long)+3, api.ErrForm)
			}
		}
	}
	// More signs than MaxLiteral are no fault of a class.
	text := "[" + strings.Repeat("ab", 5000) + "]"
	sameClass(t, text, run('a', 'b'), len(text), api.OK)
}

// P3.1: a text of more bytes is written as well; what is written is too large to be read.
func TestLongLiteral(t *testing.T) {
	for _, n := range []int{maxLiteral + 1, 1000, 1 << 16} {
		s := strings.Repeat("\n", n)
		text := quote.Literal(s)
		if text != `"`+strings.Repeat(`\n`, n)+`"` {
			t.Errorf("Literal of %d bytes: %d", n, len(text))
		}
		sameLiteral(t, text, "", 0, api.ErrTooLarge)
	}
}

// P3.3: there and back, whatever stands behind.
func TestThereAndBack(t *testing.T) {
	for _, s := range contents() {
		text := quote.Literal(s)
		for _, behind := range behinds {
			sameLiteral(t, text+behind, s, len(text), api.OK)
		}
	}
	all := butFor(api.Bytes{})
	for _, s := range sets() {
		text := quote.Class(s)
		for _, behind := range behinds {
			if s == all {
				sameClass(t, text+behind, api.Bytes{}, 0, api.ErrForm)
			} else {
				sameClass(t, text+behind, s, len(text), api.OK)
			}
		}
	}
}

// bare tells whether a byte stands in a text with no backslash ahead that counts.
func bare(text string, b byte) bool {
	for i := 0; i < len(text); i++ {
		if text[i] == '\\' {
			i++
		} else if text[i] == b {
			return true
		}
	}
	return false
}

func printable(text string) bool {
	for i := range len(text) {
		if text[i] < 32 || text[i] > 126 {
			return false
		}
	}
	return true
}

// P3.4: what is written is printable, and ends at its end alone.
func TestPrintable(t *testing.T) {
	for _, s := range contents() {
		text := quote.Literal(s)
		if n := len(text); n < 2 || text[0] != '"' || text[n-1] != '"' || !printable(text) || bare(text[1:n-1], '"') {
			t.Errorf("Literal(%q) = %q", s, text)
		}
	}
	for _, s := range sets() {
		text := quote.Class(s)
		if s == butFor(api.Bytes{}) && text == "." {
			continue
		}
		if n := len(text); n < 2 || text[0] != '[' || text[n-1] != ']' || !printable(text) || bare(text[1:n-1], ']') || bare(text, '^') {
			t.Errorf("Class(%x) = %q", s, text)
		}
	}
}

// P3.5: what is read is not shorter than what is written of it.
func TestShortest(t *testing.T) {
	r := row(6)
	for _, s := range contents() {
		for range 4 {
			text := spelt(s, &r)
			got, n, e := quote.Unliteral(text)
			if written := quote.Literal(got); e != api.OK || got != s || len(written) > n {
				t.Errorf("%q, of %d bytes, is written as %q", text, n, written)
			}
		}
	}
	short := 0
	for range 20000 {
		text := speltClass(&r)
		got, n, e := quote.Unclass(text)
		written := quote.Class(got)
		if e != api.OK || len(written) > n {
			t.Errorf("%q, of %d bytes, is written as %q", text, n, written)
		}
		if len(written) == n {
			short++
		}
	}
	if short == 0 {
		t.Error("no sample is as short as what is written of it")
	}
	for a := range 256 {
		for n := 0; n < 5 && a+n < 256; n++ {
			single := ""
			for b := a; b <= a+n; b++ {
				single += own(byte(b), apartInClass)
			}
			if written := quote.Class(run(a, a+n)); len(written) > len(single)+2 {
				t.Errorf("%q is shorter than %q", single, written)
			}
		}
	}
}

// P3.6: with a ^, or without it, all but these.
func TestAllBut(t *testing.T) {
	r := row(7)
	texts := []string{"[]", "[a]", `[\^]`, `[\x00-\xff]`, `[\]]`}
	for _, s := range sets() {
		if text := quote.Class(s); text != "." {
			texts = append(texts, text)
		}
	}
	for range 2000 {
		texts = append(texts, speltClass(&r))
	}
	for _, text := range texts {
		s, n, e := quote.Unclass(text)
		but, m, e2 := quote.Unclass("[^" + text[1:])
		if e != api.OK || e2 != api.OK || but != butFor(s) || n != len(text) || m != n+1 {
			t.Errorf("%q is %x, %d, %d; with a ^ %x, %d, %d", text, s, n, e, but, m, e2)
		}
	}
}

// P3.7: literals that stand one behind the other are read one by one.
func TestARowOfThem(t *testing.T) {
	r := row(8)
	l := contents()
	for range 500 {
		var want []string
		text := ""
		for range r.next(8) {
			s := l[r.next(len(l))]
			want = append(want, s)
			text += spelt(s, &r)
		}
		for i, s := range want {
			got, n, e := quote.Unliteral(text)
			if got != s || e != api.OK {
				t.Fatalf("literal %d of a row: %q, %d, not %q", i, got, e, s)
			}
			text = text[n:]
		}
		if text != "" {
			t.Errorf("%q is left", text)
		}
		sameLiteral(t, text, "", 0, api.ErrShort)
	}
	sameLiteral(t, `"""a"`, "", 2, api.OK)
	sameLiteral(t, `"a"""`, "a", 3, api.OK)
}

// The chapter's examples.
func TestExamples(t *testing.T) {
	if got := quote.Literal("a\"\n\x00"); got != `"a\"\n\x00"` {
		t.Errorf("Literal = %s", got)
	}
	sameLiteral(t, "\"\\x4A\"x", "J", 6, api.OK)
	for want, s := range map[string]api.Bytes{`[\-a-d]`: both(run('a', 'd'), setOf('-')), "[ab]": setOf('a', 'b'), "[]": {}, ".": butFor(api.Bytes{})} {
		if got := quote.Class(s); got != want {
			t.Errorf("Class = %s, not %s", got, want)
		}
	}
	sameClass(t, "[^a]", butFor(setOf('a')), 4, api.OK)
	sameClass(t, "[b-a]", api.Bytes{}, 1, api.ErrForm)
	sameClass(t, "[a", api.Bytes{}, 2, api.ErrShort)
	sameClass(t, "[a^]", api.Bytes{}, 2, api.ErrForm)
}

// R1: each call ends, whatever it is handed, and the same is told each time.
func TestWhateverTexts(t *testing.T) {
	r := row(9)
	same := func(text string) {
		s, n, e := unliteral(text)
		sameLiteral(t, text, s, n, e)
		sameLiteral(t, text, s, n, e)
		c, n, e := unclass(text)
		sameClass(t, text, c, n, e)
		sameClass(t, text, c, n, e)
		if a, b := quote.Literal(text), quote.Literal(text); a != b || len(text) < 1000 && a != literal(text) {
			t.Errorf("Literal(%.80q)", text)
		}
	}
	for n := range 3000 {
		l := make([]byte, r.next(12))
		for i := range l {
			l[i] = byte(r.next(256))
			if n%2 == 0 {
				l[i] = edges[r.next(len(edges))]
			}
		}
		same(string(l))
		same(`"` + string(l))
		same("[" + string(l))
	}
	for _, piece := range []string{`"`, `\`, `\x`, "a", "a-b", "-", "[", "^", "]", "\x00", "\xff", `\"`} {
		long := strings.Repeat(piece, 1<<18)
		same(long)
		same(`"` + long)
		same("[" + long)
		same("[^" + long)
	}
}

// R1: what is handed in stays as it was; what is told shares no memory with it.
func TestHandedInStays(t *testing.T) {
	for _, text := range []string{`"abc" x`, `""`, "[a-c]", `"\x4"`, `"` + strings.Repeat("a", 300) + `"`} {
		in := []byte(text)
		held := unsafe.String(&in[0], len(in))
		got, _, _ := quote.Unliteral(held)
		written := quote.Literal(held)
		quote.Unclass(held)
		if string(in) != text {
			t.Errorf("%q became %q", text, in)
		}
		want, wantWritten := fmt.Sprint(got), fmt.Sprint(written)
		for i := range in {
			in[i] = '?'
		}
		if got != want || written != wantWritten {
			t.Errorf("what is told of %q is seen to change with it", text)
		}
	}
	for _, s := range sets() {
		held := s
		a, b := quote.Class(held), quote.Class(held)
		if held != s || a != b {
			t.Errorf("Class(%x), asked twice", s)
		}
	}
}
