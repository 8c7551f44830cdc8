package tree

import (
	"strings"

	"parchment/api"
	"parchment/chars"
)

// What a Name is: one of these.
const (
	noName = 1 << iota
	plainName
	nameXML
	wrongName

	anyName = plainName | nameXML
)

// What a Value is: the first, the last, or the second with those of the others that it has.
const (
	noValue = 1 << iota
	someText
	breaksComments
	breaksInstructions
	wrongValue

	anyText = someText | breaksComments | breaksInstructions
)

// Where a node stands: one of these.
const (
	atTop = 1 << iota
	inRoot
	inElement
	elsewhere
)

// look is what a node is, each field bits of those above; in the table, all that the nodes of a kind may be.
type look struct {
	name, value, place uint8
}

// looks stand by kinds. Every node has bits in each field, so that one whose kind has no row fits nowhere.
var looks = [...]look{
	api.Root:        {noName, noValue, atTop},
	api.Element:     {anyName, noValue, atTop | inRoot | inElement},
	api.Attribute:   {anyName, noValue | anyText, inElement},
	api.Text:        {noName, anyText, atTop | inElement},
	api.Comment:     {noName, noValue | someText | breaksInstructions, atTop | inRoot | inElement},
	api.Instruction: {plainName, noValue | someText | breaksComments, atTop | inRoot | inElement},
}

// judge tells whether a row is right, if it must have what roots tells.
func judge(t []api.Node, roots func([]api.Node) bool) api.Errno {
	if len(t) > api.MaxNodes {
		return api.ErrLong
	}
	deepest, ok := measure(t)
	switch {
	case !ok || !roots(t):
		return api.ErrShape
	case deepest > api.MaxDepth:
		return api.ErrDeep
	}
	return api.OK
}

// hasOneRoot tells whether a row whose nodes fit has a Root that is its only top, and one element among its children.
func hasOneRoot(t []api.Node) bool {
	if len(t) == 0 || t[0].Kind != api.Root {
		return false
	}
	tops, elements := 0, 0
	for _, n := range t {
		switch {
		case n.Parent < 0:
			tops++
		case n.Parent == 0 && n.Kind == api.Element:
			elements++
		}
	}
	return tops == 1 && elements == 1
}

// hasNoRoot tells whether a row whose nodes fit has no Root: it could only be the first.
func hasNoRoot(t []api.Node) bool {
	return len(t) == 0 || t[0].Kind != api.Root
}

// measure tells how many elements deep a row is, and whether it is in order and its nodes fit, however deep they are.
func measure(t []api.Node) (deepest int, ok bool) {
	depth := 0
	owner := map[string]int{} // by an attribute's name: the element that was the last to have one
	for i, n := range t {
		left, open := rise(t, i)
		if !open || !fits(t, i) {
			return 0, false
		}
		depth -= left
		switch n.Kind {
		case api.Element:
			depth++
			deepest = max(deepest, depth)
		case api.Attribute:
			if at, taken := owner[n.Name]; taken && at == n.Parent {
				return 0, false
			}
			owner[n.Name] = n.Parent
		}
	}
	return deepest, true
}

// inOrder tells whether a row is in order.
func inOrder(t []api.Node) bool {
	for i := range t {
		if _, open := rise(t, i); !open {
			return false
		}
	}
	return true
}

// rise goes from the node right ahead of a place up to the Parent there, if that is open, and tells how many elements it leaves behind. What it leaves is open no more, so that a whole row takes no more steps than it has nodes. The nodes ahead must be in order.
func rise(t []api.Node, at int) (left int, open bool) {
	to := t[at].Parent
	if to < -1 {
		return 0, false
	}
	up := at - 1
	for up > to {
		if t[up].Kind == api.Element {
			left++
		}
		up = t[up].Parent
	}
	return left, up == to
}

// fits tells whether a node in order fits, but for how deep it is and for attributes of one name, which whoever goes through the whole row can tell.
func fits(t []api.Node, at int) bool {
	n := t[at]
	own := look{nameIs(n.Name), valueIs(n.Value), placeIs(t, n.Parent)}
	if own.within(mayBe(n.Kind)) != own {
		return false
	}
	switch n.Kind {
	case api.Root:
		return at == 0
	case api.Attribute:
		return at-1 == n.Parent || isBeside(t, at, api.Attribute)
	case api.Text:
		// A Text that is the last sibling ahead stands right ahead: what could be between is below a Text, or an attribute behind one, and does not fit.
		return !isBeside(t, at, api.Text)
	}
	return true
}

// isBeside tells whether the node right ahead has the same Parent, and is of a kind.
func isBeside(t []api.Node, at int, kind api.Kind) bool {
	return at > 0 && t[at-1].Parent == t[at].Parent && t[at-1].Kind == kind
}

// within is what of a look another one has, too.
func (l look) within(other look) look {
	return look{l.name & other.name, l.value & other.value, l.place & other.place}
}

func mayBe(kind api.Kind) look {
	if int(kind) >= len(looks) {
		return look{}
	}
	return looks[kind]
}

func nameIs(s string) uint8 {
	switch {
	case s == "":
		return noName
	case !chars.Name(s):
		return wrongName
	case strings.EqualFold(s, "xml"):
		return nameXML
	}
	return plainName
}

func valueIs(s string) uint8 {
	switch {
	case s == "":
		return noValue
	case len(s) > api.MaxText || !chars.Texts(s):
		return wrongValue
	}
	is := uint8(someText)
	if strings.Contains(s, "--") || strings.HasSuffix(s, "-") {
		is |= breaksComments
	}
	// A blank at its beginning would be read as what parts a Value from its name.
	if strings.Contains(s, "?>") || chars.Blank(s[:1]) {
		is |= breaksInstructions
	}
	return is
}

func placeIs(t []api.Node, parent int) uint8 {
	if parent < 0 {
		return atTop
	}
	switch t[parent].Kind {
	case api.Root:
		return inRoot
	case api.Element:
		return inElement
	}
	return elsewhere
}
