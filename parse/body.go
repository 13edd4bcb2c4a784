package parse

import (
	"slices"

	"bonsai/api"
	"bonsai/lex"
)

const endless = -1

// choice is one that is still open. Its parts and ways are told by their nodes' numbers.
type choice struct {
	closer uint8   // the kind of the word that closes it; of a whole body 0, which no word has
	name   string  // of a Cap
	ways   []int   // what the seqs have come to that are ended
	parts  []int   // those of the seq that is not
	signs  []uint8 // the kinds of the And and Not that wait for the next part, the outermost one first
}

// body reads a choice that stands within no other one, as far as it goes. What stands there is put together as it is written: so that all of it can be made normal at once.
func (r *reader) body() (t api.Tree, is bool) {
	var part int
	r.nodes, r.open = nil, []choice{{}}
prefix:
	switch r.kind() {
	case lex.And, lex.Not:
		r.sign()
		goto prefix
	case lex.Open, lex.Less:
		if !r.opens() {
			return api.Tree{}, false
		}
		goto prefix
	}
	if part, is = r.leaf(); is {
		goto suffix
	}
	if !r.endSeq() {
		return api.Tree{}, false
	}
	if r.take(lex.Slash) {
		goto prefix
	}
	if part, is = r.closed(); is {
		goto suffix
	}
	return r.whole()
suffix:
	if put, is := r.suffix(); is {
		part = put(part)
		goto suffix
	}
	r.putPart(part)
	goto prefix
}

// top is the innermost choice that is still open.
func (r *reader) top() *choice { return &r.open[len(r.open)-1] }

// sign reads an & or a !.
func (r *reader) sign() {
	kind := api.And
	if r.kind() == lex.Not {
		kind = api.Not
	}
	r.next++
	r.top().signs = append(r.top().signs, kind)
}

// opens reads a parenthesis, or what a Cap begins by.
func (r *reader) opens() bool {
	if r.take(lex.Open) {
		r.open = append(r.open, choice{closer: lex.Close})
		return true
	}
	r.next++
	name := r.words[r.next].Text
	if !r.take(lex.Name) || !r.take(lex.Colon) {
		return false
	}
	r.open = append(r.open, choice{closer: lex.Greater, name: name})
	return true
}

// leaf reads a primary of one word, if the next one is that.
func (r *reader) leaf() (node int, is bool) {
	w := r.words[r.next]
	var n api.Node
	switch w.Kind {
	case lex.Name:
		// It begins the next rule, then. (Behind a name there is always a word.)
		if r.words[r.next+1].Kind == lex.Arrow {
			return 0, false
		}
		r.calls = append(r.calls, w)
		n = api.Node{Kind: api.Rule, Text: w.Text}
	case lex.Literal:
		// One of nothing is the zero node: Empty.
		if w.Text != "" {
			n = api.Node{Kind: api.Text, Text: w.Text}
		}
	case lex.Class:
		n = api.Node{Kind: api.Set, Set: w.Set}
	default:
		return 0, false
	}
	r.next++
	return r.add(n), true
}

// suffix tells what puts the next word to what stands ahead of it, if it is one of a suffix.
func (r *reader) suffix() (put func(kid int) int, is bool) {
	least, most, is := times(r.words[r.next])
	if !is {
		return nil, false
	}
	return func(kid int) int {
		r.next++
		return r.add(api.Node{Kind: api.Rep, Min: least, Max: most}, kid)
	}, true
}

// times tells how often a word of a suffix says.
func times(w lex.Word) (least, most int, is bool) {
	switch w.Kind {
	case lex.Question:
		return 0, 1, true
	case lex.Star:
		return 0, endless, true
	case lex.Plus:
		return 1, endless, true
	case lex.Count:
		return w.Low, w.High, true
	}
	return 0, 0, false
}

// putPart puts a part to the seq that is open, within the signs that wait for it.
func (r *reader) putPart(part int) {
	top := r.top()
	for _, kind := range slices.Backward(top.signs) {
		part = r.add(api.Node{Kind: kind}, part)
	}
	top.signs = nil
	top.parts = append(top.parts, part)
}

// endSeq ends the seq that is open, if no sign waits for what is to stand behind it.
func (r *reader) endSeq() bool {
	top := r.top()
	if len(top.signs) > 0 {
		return false
	}
	top.ways = append(top.ways, r.join(api.Seq, top.parts))
	top.parts = nil
	return true
}

// closed closes the innermost choice, whose seqs are ended, if the next word does so, and tells its node.
func (r *reader) closed() (node int, is bool) {
	top := r.top()
	if !r.take(top.closer) {
		return 0, false
	}
	r.open = r.open[:len(r.open)-1]
	node = r.join(api.Choice, top.ways)
	if top.closer == lex.Greater {
		node = r.add(api.Node{Kind: api.Cap, Text: top.name}, node)
	}
	return node, true
}

// whole tells the body that was read, if nothing is open within it.
func (r *reader) whole() (t api.Tree, is bool) {
	if len(r.open) > 1 {
		return api.Tree{}, false
	}
	root := r.join(api.Choice, r.top().ways)
	return api.Tree{Nodes: r.nodes, Root: root}, true
}

// join tells the node that a Seq, or a Choice, of these is.
func (r *reader) join(kind uint8, of []int) int {
	switch len(of) {
	case 0:
		return r.add(api.Node{})
	case 1:
		return of[0]
	}
	return r.add(api.Node{Kind: kind}, of...)
}

// add puts a node behind the others, and tells its number.
func (r *reader) add(n api.Node, kids ...int) int {
	n.Kids = kids
	r.nodes = append(r.nodes, n)
	return len(r.nodes) - 1
}
