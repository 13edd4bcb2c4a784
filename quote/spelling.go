package quote

import (
	"iter"
	"strings"

	"bonsai/api"
	"bonsai/set"
)

const hexDigits = "0123456789abcdef"

// spelling says which signs stand in a literal, or in a class.
type spelling struct {
	plain  api.Bytes     // the bytes that are signs themselves
	behind map[byte]byte // what may stand behind a backslash, and for which byte
	ahead  map[byte]byte // the other way about
	ranges bool          // whether two signs with a - between are a range
	last   byte          // what stands at the end
}

// part is a sign, or a range of two; a sign is a range of one. Where none stands, its end is the place at which it goes wrong.
type part struct {
	low, high byte
	end       int
}

func literals() spelling { return spell(`"`, false, '"') }

func classes() spelling { return spell("]-^", true, ']') }

// spell makes a spelling, in which some bytes, and the backslash, are no signs themselves.
func spell(without string, ranges bool, last byte) spelling {
	without += `\`
	s := spelling{
		plain:  set.Minus(set.Range(' ', '~'), set.Of(without)),
		behind: map[byte]byte{'n': '\n', 'r': '\r', 't': '\t'},
		ahead:  map[byte]byte{},
		ranges: ranges,
		last:   last,
	}
	for i := range len(without) {
		s.behind[without[i]] = without[i]
	}
	for c, b := range s.behind {
		s.ahead[b] = c
	}
	return s
}

// sign tells a byte's own sign.
func (s spelling) sign(b byte) string {
	if set.Has(s.plain, b) {
		return string([]byte{b})
	}
	if c, is := s.ahead[b]; is {
		return string([]byte{'\\', c})
	}
	return string([]byte{'\\', 'x', hexDigits[b/16], hexDigits[b%16]})
}

// parts tells the parts that stand from a place on, as long as they may be.
func (s spelling) parts(t string, at int) iter.Seq[part] {
	return func(yield func(part) bool) {
		p, is := s.part(t, at)
		for is && yield(p) {
			p, is = s.part(t, p.end)
		}
	}
}

// ended tells the place behind the end, if it stands where no part does; else the place of the fault.
func (s spelling) ended(t string, at int) (int, api.Errno) {
	if at < len(t) && t[at] == s.last {
		return at + 1, api.OK
	}
	p, _ := s.part(t, at)
	return p.end, fault(t, p.end)
}

// part reads what stands at a place.
func (s spelling) part(t string, at int) (part, bool) {
	low, end, is := s.read(t, at)
	if !is || !s.ranges || end == len(t) || t[end] != '-' {
		return part{low, low, end}, is
	}
	high, end, is := s.read(t, end+1)
	if is && high < low {
		return part{end: at}, false
	}
	return part{low, high, end}, is
}

// read reads a sign: its byte, and where it ends; or where it goes wrong, if there is none.
func (s spelling) read(t string, at int) (b byte, end int, is bool) {
	if at == len(t) {
		return 0, at, false
	}
	if t[at] != '\\' {
		if !set.Has(s.plain, t[at]) {
			return 0, at, false
		}
		return t[at], at + 1, true
	}
	at++
	if at == len(t) {
		return 0, at, false
	}
	if c, known := s.behind[t[at]]; known {
		return c, at + 1, true
	}
	if t[at] != 'x' {
		return 0, at, false
	}
	return hex(t, at+1)
}

// hex reads two hexadecimal digits.
func hex(t string, at int) (b byte, end int, is bool) {
	for range 2 {
		if at == len(t) {
			return 0, at, false
		}
		d := digit(t[at])
		if d < 0 {
			return 0, at, false
		}
		b, at = b*16+byte(d), at+1
	}
	return b, at, true
}

// digit tells a hexadecimal digit's number, -1 of what is none.
func digit(b byte) int {
	if 'A' <= b && b <= 'F' {
		b += 'a' - 'A'
	}
	return strings.IndexByte(hexDigits, b)
}
