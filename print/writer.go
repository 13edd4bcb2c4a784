package print

import (
	"strings"

	"bonsai/api"
)

// writer writes nodes of an arena that is right.
type writer struct {
	out   strings.Builder
	nodes []api.Node
	open  []begun // the innermost one last
}

// begun is a node that is begun, and not ended.
type begun struct {
	node, kids int  // how many kids of it are begun
	bracketed  bool // a parenthesis is open about it
}

// write writes a node, and all that stands within it.
func (w *writer) write(root int) {
	w.begin(root, false)
again:
	top := &w.open[len(w.open)-1]
	n := w.nodes[top.node]
	if top.kids < len(n.Kids) {
		kid := n.Kids[top.kids]
		if top.kids > 0 {
			w.out.WriteString(signs[n.Kind].between)
		}
		top.kids++
		w.begin(kid, tooLoose(w.nodes[kid].Kind, n.Kind))
		goto again
	}
	w.end()
	if len(w.open) > 0 {
		goto again
	}
}

// begin writes what stands ahead of a node's kids.
func (w *writer) begin(node int, bracketed bool) {
	if bracketed {
		w.out.WriteByte('(')
	}
	w.out.WriteString(ahead(w.nodes[node]))
	w.open = append(w.open, begun{node: node, bracketed: bracketed})
}

// end writes what stands behind the kids of the innermost node that is begun.
func (w *writer) end() {
	last := len(w.open) - 1
	top := w.open[last]
	w.open = w.open[:last]
	w.out.WriteString(behind(w.nodes[top.node]))
	if top.bracketed {
		w.out.WriteByte(')')
	}
}
