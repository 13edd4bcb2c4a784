package quote_test

import (
	"fmt"
	"strings"

	"bonsai/api"
)

// The words as the document says them, in another way than the program does: all signs written out in a table, and a text read by looking up pieces of it there.

const maxLiteral = 255

// What stands apart, besides the backslash: in a literal, in a class.
const (
	apartInLiteral = `"`
	apartInClass   = `]-^`
)

// own tells a byte's own sign.
func own(b byte, apart string) string {
	switch {
	case b == '\n':
		return `\n`
	case b == '\r':
		return `\r`
	case b == '\t':
		return `\t`
	case b == '\\' || strings.IndexByte(apart, b) >= 0:
		return `\` + string(rune(b))
	case b < 32 || b > 126:
		return fmt.Sprintf(`\x%02x`, b)
	}
	return string(rune(b))
}

// signsOf tells all signs of a byte, its own one first.
func signsOf(b byte, apart string) []string {
	l := []string{own(b, apart)}
	high, low := int(b)/16, int(b)%16
	for _, s := range []string{
		fmt.Sprintf(`\x%x%x`, high, low), fmt.Sprintf(`\x%X%x`, high, low), fmt.Sprintf(`\x%x%X`, high, low), fmt.Sprintf(`\x%X%X`, high, low),
	} {
		known := false
		for _, k := range l {
			known = known || k == s
		}
		if !known {
			l = append(l, s)
		}
	}
	return l
}

// table says of each sign which byte it is of, and of each beginning of one that it is one.
type table struct {
	signs  map[string]byte
	begins map[string]bool
	ranges bool
	last   byte
}

func tableOf(apart string, ranges bool, last byte) table {
	x := table{map[string]byte{}, map[string]bool{"": true}, ranges, last}
	for b := range 256 {
		for _, s := range signsOf(byte(b), apart) {
			x.signs[s] = byte(b)
			for n := range len(s) {
				x.begins[s[:n]] = true
			}
		}
	}
	return x
}

var (
	inLiteral = tableOf(apartInLiteral, false, '"')
	inClass   = tableOf(apartInClass, true, ']')
)

// next tells the length of the sign at a place, or 0; and how many bytes of one stand there at least.
func (x table) next(t string, at int) (length, good int) {
	for n := 1; n <= 4 && at+n <= len(t); n++ {
		if _, is := x.signs[t[at:at+n]]; is {
			return n, n
		}
		if !x.begins[t[at:at+n]] {
			return 0, n - 1
		}
	}
	return 0, min(4, len(t)-at)
}

// errorAt tells the error of a text that goes wrong at a place.
func errorAt(t string, at int) (int, api.Errno) {
	if at == len(t) {
		return at, api.ErrShort
	}
	return at, api.ErrForm
}

// read tells the bytes, in their row, of what stands from a place on up to its end, and the place behind the end.
func (x table) read(t string, at int) (l []byte, n int, e api.Errno) {
	for {
		if at < len(t) && t[at] == x.last {
			return l, at + 1, api.OK
		}
		one, good := x.next(t, at)
		if one == 0 {
			n, e = errorAt(t, at+good)
			return nil, n, e
		}
		first := x.signs[t[at:at+one]]
		l = append(l, first)
		if !x.ranges || at+one == len(t) || t[at+one] != '-' {
			at += one
			continue
		}
		behind := at + one + 1
		two, good := x.next(t, behind)
		if two == 0 {
			n, e = errorAt(t, behind+good)
			return nil, n, e
		}
		last := x.signs[t[behind:behind+two]]
		if last < first {
			return nil, at, api.ErrForm
		}
		for b := int(first); b <= int(last); b++ {
			l = append(l, byte(b))
		}
		at = behind + two
	}
}

// unliteral is what the document says of Unliteral.
func unliteral(t string) (string, int, api.Errno) {
	if t == "" || t[0] != '"' {
		n, e := errorAt(t, 0)
		return "", n, e
	}
	l, n, e := inLiteral.read(t, 1)
	if e == api.OK && len(l) > maxLiteral {
		return "", 0, api.ErrTooLarge
	}
	return string(l), n, e
}

// unclass is what the document says of Unclass.
func unclass(t string) (api.Bytes, int, api.Errno) {
	if t == "" || t[0] != '[' {
		n, e := errorAt(t, 0)
		return api.Bytes{}, n, e
	}
	from, but := 1, false
	if len(t) > 1 && t[1] == '^' {
		from, but = 2, true
	}
	l, n, e := inClass.read(t, from)
	if e != api.OK {
		return api.Bytes{}, n, e
	}
	var in [256]bool
	for _, b := range l {
		in[b] = true
	}
	var s api.Bytes
	for b := range in {
		if in[b] != but {
			s[b/64] |= 1 << (b % 64)
		}
	}
	return s, n, api.OK
}

// literal is what the document says of Literal.
func literal(s string) string {
	out := `"`
	for i := range len(s) {
		out += own(s[i], apartInLiteral)
	}
	return out + `"`
}

// class is what the document says of Class.
func class(s api.Bytes) string {
	var in [258]bool // byte b at b+1, with none at both ends
	many := 0
	for b := range 256 {
		in[b+1] = s[b/64]>>(b%64)&1 == 1
		if in[b+1] {
			many++
		}
	}
	if many == 256 {
		return "."
	}
	out := "["
	for b := range 256 {
		if !in[b+1] {
			continue
		}
		begins, ends := !in[b], !in[b+2]
		switch {
		case begins || ends:
			out += own(byte(b), apartInClass)
		case !in[b-1]: // the second one of three or more
			out += "-"
		}
	}
	return out + "]"
}

// setOf is the set of some bytes.
func setOf(l ...byte) api.Bytes {
	var s api.Bytes
	for _, b := range l {
		s[b/64] |= 1 << (b % 64)
	}
	return s
}

// run is the set of the bytes from one to another one.
func run(a, b int) api.Bytes {
	var s api.Bytes
	for n := a; n <= b; n++ {
		s[n/64] |= 1 << (n % 64)
	}
	return s
}

func both(a, b api.Bytes) api.Bytes {
	for i := range a {
		a[i] |= b[i]
	}
	return a
}

func butFor(s api.Bytes) api.Bytes {
	for i := range s {
		s[i] = ^s[i]
	}
	return s
}

// row is numbers that are the same each time they are asked for.
type row uint32

func (r *row) next(below int) int {
	*r = *r*1664525 + 1013904223
	return int(*r>>8) % below
}

// edges stand at the ends of bytes that are alike in some way, and apart from others.
var edges = []byte{0, 1, 8, 9, 10, 11, 12, 13, 14, 31, 32, 33, '"', '-', '.', '0', 'A', 'Z', '[', '\\', ']', '^', '_', 'a', 'n', 'r', 't', 'x', 125, 126, 127, 128, 191, 192, 254, 255}

// sets are sets of all sorts.
func sets() []api.Bytes {
	l := []api.Bytes{{}, butFor(api.Bytes{})}
	for a := range 256 {
		l = append(l, run(a, a), butFor(run(a, a)), run(a, 255), run(0, a))
		for n := 1; n <= 4 && a+n <= 255; n++ {
			l = append(l, run(a, a+n), butFor(run(a, a+n)))
		}
	}
	for _, a := range edges {
		for _, b := range edges {
			l = append(l, setOf(a, b), run(int(a), int(b)), butFor(setOf(a, b)))
		}
	}
	for _, ends := range []api.Bytes{setOf(0, 255), setOf(0, 1, 254, 255), setOf(0, 1, 2, 253, 254, 255), setOf(0, 2, 253, 255)} {
		l = append(l, ends, butFor(ends), both(ends, run('a', 'z')))
	}
	r := row(1)
	for n := range 300 {
		var s api.Bytes
		for range 1 + n%40 {
			at := r.next(256)
			s = both(s, run(at, min(255, at+r.next(5))))
		}
		l = append(l, s, butFor(s))
	}
	return l
}

// contents are texts of all sorts, each of MaxLiteral bytes at most.
func contents() []string {
	l := []string{"", "a", "abc", `"`, `""`, `\`, `\\`, `\"`, `"\`, `\x41`, `\n`, "\n\r\t", "]-^[", " ", "~\x7f", "\u00e9\u2603", strings.Repeat("a", maxLiteral), strings.Repeat("\x00", maxLiteral), strings.Repeat(`"`, maxLiteral), strings.Repeat(`\`, maxLiteral-1)}
	for a := range 256 {
		b := string([]byte{byte(a)})
		l = append(l, b, "a"+b, b+"a", b+b, "a"+b+"4", b+"41", `\`+b, b+`\`, strings.Repeat("q", maxLiteral-1)+b, b+strings.Repeat("q", maxLiteral-1))
	}
	for _, a := range edges {
		for _, b := range edges {
			l = append(l, string([]byte{a, b}))
		}
	}
	r := row(2)
	for n := range 300 {
		s := make([]byte, r.next(1+n%maxLiteral))
		for i := range s {
			s[i] = byte(r.next(256))
		}
		l = append(l, string(s))
	}
	return l
}

// spelt spells a literal's text, with whatever sign of each byte.
func spelt(s string, r *row) string {
	out := `"`
	for i := range len(s) {
		l := signsOf(s[i], apartInLiteral)
		out += l[r.next(len(l))]
	}
	return out + `"`
}

// speltClass is the text of some class, without a ^: whatever signs and ranges, that may also lie over one another.
func speltClass(r *row) string {
	pick := func(b int) string {
		l := signsOf(byte(b), apartInClass)
		return l[r.next(len(l))]
	}
	out := "["
	for range r.next(7) {
		a := r.next(256)
		if r.next(3) == 0 {
			a = int(edges[r.next(len(edges))])
		}
		out += pick(a)
		if r.next(2) == 0 {
			out += "-" + pick(min(255, a+r.next(1+r.next(200))))
		}
	}
	return out + "]"
}

// behinds are what may stand behind a literal, or a class.
var behinds = []string{"", " ", "x", `"`, `""`, `"a`, `\`, `\"`, `\x`, "]", "[", "[a]", "^", "-", "-z]", ".", "<-", "\n", "\x00", "\xff", strings.Repeat("n", 300)}
