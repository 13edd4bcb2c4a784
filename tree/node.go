package tree

import (
	"bonsai/api"
	"bonsai/name"
)

const endless = -1

// bounds are how many there are at least, and at most.
type bounds struct{ least, most int }

// kidsOf says by the kind how many kids a node has.
var kidsOf = [...]bounds{
	api.Empty:  {0, 0},
	api.Set:    {0, 0},
	api.Text:   {0, 0},
	api.Rule:   {0, 0},
	api.Seq:    {2, endless},
	api.Choice: {2, endless},
	api.Rep:    {1, 1},
	api.And:    {1, 1},
	api.Not:    {1, 1},
	api.Cap:    {1, 1},
}

// Fits is P4.1.
func Fits(n api.Node, kids int) bool {
	if int(n.Kind) >= len(kidsOf) || !within(kidsOf[n.Kind], kids) {
		return false
	}
	// What the kind names is looked at, and put out: then all that is left must be zero.
	is := true
	switch n.Kind {
	case api.Set:
		n.Set = api.Bytes{}
	case api.Text:
		is = 1 <= len(n.Text) && len(n.Text) <= api.MaxLiteral
		n.Text = ""
	case api.Rule, api.Cap:
		is = name.May(n.Text)
		n.Text = ""
	case api.Rep:
		is = repeats(n.Min, n.Max)
		n.Min, n.Max = 0, 0
	}
	return is && n.Set == api.Bytes{} && n.Text == "" && n.Min == 0 && n.Max == 0
}

func within(b bounds, n int) bool {
	return b.least <= n && (b.most == endless || n <= b.most)
}

// repeats tells whether these are a repetition's numbers.
func repeats(least, most int) bool {
	if least < 0 || least > api.MaxRep {
		return false
	}
	return most == endless || least <= most && most <= api.MaxRep
}
