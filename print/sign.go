package print

import (
	"bonsai/api"
	"bonsai/quote"
)

const endless = -1

// count is a Rep's numbers that have a sign of their own.
type count struct {
	least, most int
	sign        string
}

var counts = [...]count{{0, 1, "?"}, {0, endless, "*"}, {1, endless, "+"}}

// ties: how tight a text holds together. One that does so less than what stands around it asks for stands in parentheses.
const (
	ways   = iota // by / between its parts
	parts         // by blanks
	signed        // by a sign ahead or behind
	whole         // it is one word, or has an end of its own at either side
)

// sign is what is written of nodes of a kind beside their kids' texts: ahead of the first one, between each two, behind the last one; and the ties of such a text, and those that it asks its kids for.
type sign struct {
	ahead, between, behind string
	own, within            int
}

var signs = [...]sign{
	api.Empty:  {own: whole},
	api.Set:    {own: whole},
	api.Text:   {own: whole},
	api.Rule:   {own: whole},
	api.Seq:    {between: " ", own: parts, within: signed},
	api.Choice: {between: " / ", own: ways, within: parts},
	api.Rep:    {own: signed, within: whole},
	api.And:    {ahead: "&", own: signed, within: signed},
	api.Not:    {ahead: "!", own: signed, within: signed},
	api.Cap:    {ahead: "<", behind: ">", own: whole, within: ways},
}

// tooLoose tells whether a kid of that kind stands in parentheses.
func tooLoose(kid, within uint8) bool { return signs[kid].own < signs[within].within }

// ahead tells what is written ahead of a node's kids; of a leaf that is all.
func ahead(n api.Node) string {
	s := signs[n.Kind].ahead
	switch n.Kind {
	case api.Empty, api.Text:
		// Empty has no Text: a literal of nothing.
		return quote.Literal(n.Text)
	case api.Set:
		return quote.Class(n.Set)
	case api.Rule:
		return n.Text
	case api.Cap:
		return s + n.Text + ": "
	}
	return s
}

// behind tells what is written behind a node's kids.
func behind(n api.Node) string {
	if n.Kind == api.Rep {
		return Count(n.Min, n.Max)
	}
	return signs[n.Kind].behind
}
