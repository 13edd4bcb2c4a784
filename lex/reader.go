package lex

import (
	"iter"
	"strings"

	"bonsai/api"
	"bonsai/name"
	"bonsai/quote"
)

// reader reads the word that a text begins by, if it does by one: the word stands from 0 on. Whether it may be is not its question, but May's.
type reader func(text string) (Word, bool)

// each tells a text's words one by one, in their row; last of all an error, and its place, if what stands there is none.
func each(text string) iter.Seq2[Word, api.Errno] {
	return func(yield func(Word, api.Errno) bool) {
		by := readers()
		for at := parting(text); at < len(text); {
			w, is := read(by, text[at:])
			if !is {
				yield(Word{At: at}, api.ErrForm)
				return
			}
			w.At, w.To = at, at+w.To
			if !yield(w, api.OK) {
				return
			}
			at = w.To + parting(text[w.To:])
		}
	}
}

// read reads the word that a text, which is not empty, begins by, if it may be.
func read(by map[byte]reader, text string) (Word, bool) {
	reads, known := by[text[0]]
	if !known {
		return Word{}, false
	}
	w, is := reads(text)
	return w, is && May(w)
}

// parting tells how many bytes a text begins by that part words.
func parting(text string) int {
	at := 0
	for at < len(text) {
		switch text[at] {
		case ' ', '\t', '\r', '\n':
			at++
		case '#':
			line, _, _ := strings.Cut(text[at:], "\n")
			at += len(line)
		default:
			return at
		}
	}
	return at
}

// readers tells by a word's first byte who reads it.
func readers() map[byte]reader {
	by := map[byte]reader{'.': dot, '{': count, '"': literal, '[': class}
	for b := range 256 {
		if name.Letter(byte(b)) {
			by[byte(b)] = named
		}
	}
	for kind := Slash; kind <= Colon; kind++ {
		by[signs[kind][0]] = sign(kind)
	}
	// Two words begin by it: the longer one counts.
	by['<'] = less
	return by
}

// sign makes the reader of a word that is always written alike.
func sign(kind uint8) reader {
	return func(string) (Word, bool) {
		return Word{Kind: kind, To: len(signs[kind])}, true
	}
}

func less(text string) (Word, bool) {
	if strings.HasPrefix(text, signs[Arrow]) {
		return sign(Arrow)(text)
	}
	return sign(Less)(text)
}

func named(text string) (Word, bool) {
	s := name.Take(text)
	return Word{Kind: Name, To: len(s), Text: s}, true
}

// dot reads the class that is written [^] as well.
func dot(string) (Word, bool) {
	w, is := class("[^]")
	w.To = len(".")
	return w, is
}

func class(text string) (Word, bool) {
	s, n, e := quote.Unclass(text)
	return Word{Kind: Class, To: n, Set: s}, e == api.OK
}

func literal(text string) (Word, bool) {
	s, n, e := quote.Unliteral(text)
	return Word{Kind: Literal, To: n, Text: s}, e == api.OK
}

func count(text string) (Word, bool) {
	within, _, closed := strings.Cut(text[len("{"):], "}")
	first, second, two := strings.Cut(within, ",")
	low, e := name.Num(first, api.MaxRep)
	high := low
	if two && second == "" {
		high = endless
	}
	if e == api.OK && second != "" {
		high, e = name.Num(second, api.MaxRep)
	}
	return Word{Kind: Count, To: len("{}") + len(within), Low: low, High: high}, closed && e == api.OK
}
