package expr

import (
	"iter"

	"bonsai/api"
)

// row is nodes, one behind the other; which one is behind which, the maker knows.
type row struct{ first, last, many int }

// maker makes the nodes of a clean arena normal, each behind its kids. Rows are joined, not copied: so Seqs within Seqs are opened soon, however deep they stand.
type maker struct {
	nodes []api.Node
	is    []int // by a node: the one that it has come to
	rows  []row // by a node that has come to itself: its kids
	next  []int // by a node: the one behind it in its row
}

func newMaker(nodes []api.Node) *maker {
	n := len(nodes)
	return &maker{nodes: nodes, is: make([]int, n), rows: make([]row, n), next: make([]int, n)}
}

// comings say by the kind what a node comes to, of the row that its kids come to.
func comings() [api.Cap + 1]func(*maker, int, row) int {
	return [...]func(*maker, int, row) int{
		api.Empty:  (*maker).leaf,
		api.Set:    (*maker).leaf,
		api.Text:   (*maker).leaf,
		api.Rule:   (*maker).leaf,
		api.Seq:    (*maker).seq,
		api.Choice: (*maker).holder,
		api.Rep:    (*maker).holder,
		api.And:    (*maker).holder,
		api.Not:    (*maker).holder,
		api.Cap:    (*maker).holder,
	}
}

// come works out what each node comes to.
func (m *maker) come() {
	coming := comings()
	for i, n := range m.nodes {
		m.is[i] = coming[n.Kind](m, i, m.gathered(i))
	}
}

func (m *maker) leaf(node int, _ row) int { return node }

// holder holds all that its kids come to: a Choice of two or more never comes to less.
func (m *maker) holder(node int, kids row) int {
	m.rows[node] = kids
	return node
}

func (m *maker) seq(node int, kids row) int {
	switch kids.many {
	case 0:
		m.nodes[node] = api.Node{}
		return node
	case 1:
		return kids.first
	}
	return m.holder(node, kids)
}

// gathered tells what a node's kids come to, one behind the other.
func (m *maker) gathered(node int) row {
	var all row
	put := func(r row) {
		if r.many == 0 {
			return
		}
		if all.many == 0 {
			all = r
			return
		}
		m.next[all.last] = r.first
		all.last, all.many = r.last, all.many+r.many
	}
	for _, k := range m.nodes[node].Kids {
		part := m.is[k]
		if opened(m.nodes[part].Kind, m.nodes[node].Kind) {
			put(m.rows[part])
		} else {
			put(row{first: part, last: part, many: 1})
		}
	}
	return all
}

// opened tells whether a part's own kids (of Empty none) stand in its stead, within a node of that kind.
func opened(part, within uint8) bool {
	switch within {
	case api.Seq:
		return part == api.Seq || part == api.Empty
	case api.Choice:
		return part == api.Choice
	}
	return false
}

// kids tells the kids of a node that has come to itself.
func (m *maker) kids(node int) iter.Seq[int] {
	return func(yield func(int) bool) {
		at := m.rows[node].first
		for range m.rows[node].many {
			if !yield(at) {
				return
			}
			at = m.next[at]
		}
	}
}

// tree tells the tree of a root, in an arena of its own. What stays does so in its row: so that is clean, too.
func (m *maker) tree(root int) api.Tree {
	stays := m.within(root)
	place := make([]int, root+1)
	var out []api.Node
	for i, n := range m.nodes[:root+1] {
		if !stays[i] {
			continue
		}
		n.Kids = nil
		for k := range m.kids(i) {
			n.Kids = append(n.Kids, place[k])
		}
		place[i] = len(out)
		out = append(out, n)
	}
	return api.Tree{Nodes: out, Root: len(out) - 1}
}

// within marks a root, and all that stands within it.
func (m *maker) within(root int) []bool {
	stays := make([]bool, root+1)
	stays[root] = true
	for i := root; i >= 0; i-- {
		if !stays[i] {
			continue
		}
		for k := range m.kids(i) {
			stays[k] = true
		}
	}
	return stays
}
