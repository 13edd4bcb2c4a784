package parse

import (
	"bonsai/api"
	"bonsai/lex"
)

// A reader's words end by one of these kinds, that no word of a text has: so there is always one to look at, and it may stand nowhere.
const (
	end  uint8 = lex.Class + 1 + iota // the text's end
	none                              // a word that may not be
)

// reader reads a row of words. What a word may not stand behind is told by false: then next is that word.
type reader struct {
	words []lex.Word
	next  int // the word that is to be read next
	rules []rule
	calls []lex.Word // the names by which rules are called
	nodes []api.Node // of the body that is being read, each behind its kids
	open  []choice   // what is still open of that body, the innermost one last
}

// rule is a rule as it was read: its body is right, but need not be normal.
type rule struct {
	name lex.Word
	body api.Tree
}

// newReader tells the reader of a text's words.
func newReader(text string) (r *reader, at int, e api.Errno) {
	words, at, e := lex.Words(text)
	last := lex.Word{Kind: end, At: len(text)}
	switch e {
	case api.OK:
	case api.ErrForm:
		// The first word counts that is wrong: it may stand ahead of the one that may not be.
		words, _, _ = lex.Words(text[:at])
		last = lex.Word{Kind: none, At: at}
	default:
		return nil, at, e
	}
	return &reader{words: append(words, last)}, 0, api.OK
}

// kind is that of the next word.
func (r *reader) kind() uint8 { return r.words[r.next].Kind }

// place is where the next word stands.
func (r *reader) place() int { return r.words[r.next].At }

// take goes on behind the next word, if it is of that kind.
func (r *reader) take(kind uint8) bool {
	is := r.kind() == kind
	if is {
		r.next++
	}
	return is
}

// read reads rules, up to the text's end.
func (r *reader) read() bool {
	for {
		name := r.words[r.next]
		if !r.take(lex.Name) || !r.take(lex.Arrow) {
			return false
		}
		body, is := r.body()
		if !is {
			return false
		}
		r.rules = append(r.rules, rule{name, body})
		if r.kind() == end {
			return true
		}
	}
}
