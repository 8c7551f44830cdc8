package store

import (
	"slices"

	"parchment/api"
	"parchment/tree"
)

// A record's first byte says the node's kind, how many bytes behind it are the name's number, and whether what is left is the number of a chain's first page, or the value itself.
const (
	kindBits  = 7
	nameShift = 3
	nameBits  = 15
	chained   = 128
)

// numberSize is how many bytes a number has at most.
const numberSize = 8

// record is what the store's tree says of a node under its label.
type record struct {
	kind  api.Kind
	name  int // the name's number; 0: none
	first int // the first page of the chain that has the value; 0: none
	value []byte
}

// bytes are the record as it is written.
func (r record) bytes() []byte {
	name, rest := digits(r.name), r.value
	head := byte(r.kind) | byte(len(name))<<nameShift
	if r.first > 0 {
		head |= chained
		rest = digits(r.first)
	}
	return slices.Concat([]byte{head}, name, rest)
}

// parse is the record that bytes are, if they are one.
func parse(b []byte) (record, bool) {
	rest, whole := b, true
	cut := func(n int) []byte {
		if n > len(rest) {
			n, whole = len(rest), false
		}
		piece := rest[:n:n]
		rest = rest[n:]
		return piece
	}
	head := number(cut(1))
	r := record{kind: api.Kind(head & kindBits), name: number(cut(head >> nameShift & nameBits))}
	if left := cut(len(rest)); head&chained == 0 {
		r.value = left
	} else {
		r.first = number(left)
		whole = r.first > 0
	}
	return r, whole && r.name >= 0
}

// digits are a number's bytes, the highest first, without noughts ahead.
func digits(n int) []byte {
	var out []byte
	for ; n > 0; n >>= 8 {
		out = append(out, byte(n))
	}
	slices.Reverse(out)
	return out
}

// number is the one that bytes are; below 0, if they are none.
func number(b []byte) int {
	if len(b) > numberSize {
		return -1
	}
	n := 0
	for _, digit := range b {
		n = n<<8 | int(digit)
	}
	return n
}

// isRight is whether a node's kind is one, and its name and value are such as its kind has.
func isRight(kind api.Kind, name, value string) bool {
	if len(value) > api.MaxText {
		return false
	}
	switch kind {
	case api.Root:
		return name == "" && value == ""
	case api.Element:
		return isName(name) && value == ""
	case api.Attribute, api.Instruction:
		return isName(name)
	case api.Text, api.Comment:
		return name == ""
	}
	return false
}

// isName is whether an element may have a name: just those of chapter 5.
func isName(name string) bool {
	return tree.Fragment([]api.Node{{Kind: api.Element, Name: name, Parent: -1}}) == api.OK
}
