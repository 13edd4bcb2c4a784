package tree

import (
	"slices"
	"strings"

	"bonsai/api"
)

// hold marks kids among the nodes ahead of theirs; no: one is none of these, or is held already.
func hold(ahead []bool, kids []int) bool {
	for _, k := range kids {
		if k < 0 || k >= len(ahead) || ahead[k] {
			return false
		}
		ahead[k] = true
	}
	return true
}

// depth tells how many nodes stand one within the other, of an arena that is right.
func depth(nodes []api.Node) int {
	depths := make([]int, len(nodes))
	for i, n := range nodes {
		for _, k := range n.Kids {
			depths[i] = max(depths[i], depths[k])
		}
		depths[i]++
	}
	return depths[len(nodes)-1]
}

// spread tells of each node of an arena that is right where it, and those within it, begin in a row, and how many they are. Own is 1, if a node stands ahead of its kids there, and 0, if behind them.
func spread(nodes []api.Node, own int) (from, many []int) {
	from, many = make([]int, len(nodes)), make([]int, len(nodes))
	for i, n := range nodes {
		many[i] = 1
		for _, k := range n.Kids {
			many[i] += many[k]
		}
	}
	// Backward: kids have lesser numbers, so where a node begins is known when they ask for it.
	for i := len(nodes) - 1; i >= 0; i-- {
		next := from[i] + own
		for _, k := range nodes[i].Kids {
			from[k] = next
			next += many[k]
		}
	}
	return from, many
}

// put puts nodes, that are numbered from a first number on, behind those of an arena.
func put(arena, nodes []api.Node, first int) []api.Node {
	by := len(arena) - first
	for _, n := range nodes {
		arena = append(arena, moved(n, func(kid int) int { return kid + by }))
	}
	return arena
}

// part tells a tree of its own, of so many nodes of a clean one.
func part(t api.Tree, from, many int) api.Tree {
	return rooted(put(nil, t.Nodes[from:from+many], from))
}

// moved tells a node for another arena, with a list of its own of where its kids are placed there.
func moved(n api.Node, place func(int) int) api.Node {
	out := bare(n)
	if len(n.Kids) == 0 {
		return out
	}
	out.Kids = make([]int, len(n.Kids))
	copy(out.Kids, n.Kids)
	for i, k := range out.Kids {
		out.Kids[i] = place(k)
	}
	return out
}

// bare tells a node without Kids, that shares no memory with it.
func bare(n api.Node) api.Node {
	n.Kids = nil
	n.Text = strings.Clone(n.Text)
	return n
}

func leaf(n api.Node) api.Tree { return rooted([]api.Node{bare(n)}) }

// rooted tells the tree of nodes whose last one is the root.
func rooted(nodes []api.Node) api.Tree {
	return api.Tree{Nodes: nodes, Root: len(nodes) - 1}
}

// alike tells whether two nodes are the same, their kids' numbers too.
func alike(a, b api.Node) bool {
	return a.Kind == b.Kind && a.Set == b.Set && a.Text == b.Text &&
		a.Min == b.Min && a.Max == b.Max && slices.Equal(a.Kids, b.Kids)
}
