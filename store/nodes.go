package store

import (
	"math"
	"slices"

	"parchment/api"
	"parchment/btree"
	"parchment/chain"
	"parchment/change"
	"parchment/cursor"
	"parchment/key"
	"parchment/label"
	"parchment/names"
	"parchment/space"
)

// ourRoot is which of the space's roots is that of the store's tree.
const ourRoot = 5

// nodes is what one call works on: the tree that has the nodes' records under their labels, and the names that it came upon.
type nodes struct {
	b       *change.Book
	root    int
	names   map[int]name
	numbers map[string]int
}

// name is what a number stands for.
type name struct{ text string }

// opened is a book's store.
func opened(b *change.Book) (*nodes, api.Errno) {
	root, e := space.Root(b, ourRoot)
	if e != api.OK {
		return nil, e
	}
	if root == 0 {
		return nil, api.ErrShape
	}
	return &nodes{b, root, map[int]name{0: {}}, map[string]int{"": 0}}, api.OK
}

// renew lets a book's store have a new tree; told is its root.
func renew(b *change.Book) (int, api.Errno) {
	root, e := btree.New(b)
	if e != api.OK {
		return 0, e
	}
	return root, space.SetRoot(b, ourRoot, root)
}

// keep lets the space say where the tree's root is now.
func (s *nodes) keep() api.Errno {
	return space.SetRoot(s.b, ourRoot, s.root)
}

// keyOf is under what a label's node stands. What is too long for a key is cut: no label is as long.
func keyOf(l []byte) []byte {
	k := key.PutBytes(l)
	return k[:min(len(k), api.MaxKey)]
}

// labelOf is the label that a key says, if it says one.
func labelOf(k []byte) ([]byte, bool) {
	l, size, is := key.GetBytes(k)
	return l, is && size == len(k) && label.Right(l)
}

// find is the record of a label's node, if there is one.
func (s *nodes) find(l []byte) (record, bool, api.Errno) {
	value, is, e := btree.Get(s.b, s.root, keyOf(l))
	if !is || e != api.OK {
		return record{}, false, e
	}
	r, whole := parse(value)
	if !whole || !label.Right(l) {
		return record{}, false, api.ErrShape
	}
	return r, true, api.OK
}

// each hands on the first nodes, up to so many, whose labels are not below from, and below to. The first error ends it.
func (s *nodes) each(from, to []byte, most int, do func(l []byte, r record) api.Errno) api.Errno {
	var end []byte
	if len(to) > 0 {
		end = key.PutBytes(to)
	}
	cells, e := cursor.Range(s.b, s.root, key.PutBytes(from), end, most)
	if e != api.OK {
		return e
	}
	for _, c := range cells {
		l, is := labelOf(c.Key)
		r, whole := parse(c.Value)
		if !is || !whole {
			return api.ErrShape
		}
		if e := do(l, r); e != api.OK {
			return e
		}
	}
	return api.OK
}

// held is the node that a record tells.
func (s *nodes) held(l []byte, r record) (api.Held, api.Errno) {
	name, e := s.name(r.name)
	if e != api.OK {
		return api.Held{}, e
	}
	value := r.value
	if r.first > 0 {
		value, e = chain.Get(s.b, r.first)
		if e != api.OK {
			return api.Held{}, e
		}
	}
	h := api.Held{Label: slices.Clone(l), Kind: r.kind, Name: name, Value: string(value)}
	if !isRight(h.Kind, h.Name, h.Value) {
		return api.Held{}, api.ErrShape
	}
	return h, api.OK
}

// name is the one that has a number.
func (s *nodes) name(n int) (string, api.Errno) {
	if known, is := s.names[n]; is {
		return known.text, api.OK
	}
	text, e := names.Name(s.b, n)
	if e == api.ErrNone { // a record tells numbers alone that names have
		return "", api.ErrShape
	}
	if e != api.OK {
		return "", e
	}
	s.names[n] = name{text}
	return text, api.OK
}

// number is a name's; it gets one, if it has none.
func (s *nodes) number(name string) (int, api.Errno) {
	if n, is := s.numbers[name]; is {
		return n, api.OK
	}
	n, e := names.Number(s.b, name)
	if e != api.OK {
		return 0, e
	}
	s.numbers[name] = n
	return n, api.OK
}

// lay lets the tree have a node's record, in the place of one of its label, whose chain is the caller's care. A value stands in the record, if there is room.
func (s *nodes) lay(h api.Held) api.Errno {
	n, e := s.number(h.Name)
	if e != api.OK {
		return e
	}
	k := keyOf(h.Label)
	r := record{kind: h.Kind, name: n, value: []byte(h.Value)}
	if len(k)+len(r.bytes()) > api.MaxCell {
		r.first, e = chain.Put(s.b, r.value)
		if e != api.OK {
			return e
		}
	}
	root, e := btree.Put(s.b, s.root, k, r.bytes())
	if e != api.OK {
		return e
	}
	s.root = root
	return api.OK
}

// remove takes a label's record out of the tree, and gives the pages of its value back.
func (s *nodes) remove(l []byte, r record) api.Errno {
	// Pages that are none of a value are told of ahead of any change.
	if _, e := chain.Blocks(s.b, r.first); e != api.OK {
		return e
	}
	root, _, e := btree.Delete(s.b, s.root, keyOf(l))
	if e != api.OK {
		return e
	}
	s.root = root
	if e := chain.Drop(s.b, r.first); e != api.OK {
		return e
	}
	return s.keep()
}

// pages are all that the store holds, rising, and the first ones of its chains; 0 for a value that needs none.
func (s *nodes) pages() (all, firsts []int, e api.Errno) {
	_, all, e = btree.Check(s.b, s.root)
	if e != api.OK {
		return nil, nil, e
	}
	e = s.each(nil, nil, math.MaxInt, func(_ []byte, r record) api.Errno {
		blocks, e := chain.Blocks(s.b, r.first)
		all, firsts = append(all, blocks...), append(firsts, r.first)
		return e
	})
	if e != api.OK {
		return nil, nil, e
	}
	slices.Sort(all)
	// Of two nodes that have one chain one would be left with none.
	if len(slices.Compact(all)) < len(all) {
		return nil, nil, api.ErrShape
	}
	return all, firsts, api.OK
}

// clear gives all pages back, of which those are that the chains begin on, and takes a new tree.
func (s *nodes) clear(firsts []int) api.Errno {
	for _, first := range firsts {
		if e := chain.Drop(s.b, first); e != api.OK {
			return e
		}
	}
	if e := btree.Drop(s.b, s.root); e != api.OK {
		return e
	}
	root, e := renew(s.b)
	s.root = root
	return e
}
