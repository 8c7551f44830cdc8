package names

import (
	"bytes"
	"math"

	"parchment/api"
	"parchment/btree"
	"parchment/change"
	"parchment/cursor"
	"parchment/key"
	"parchment/space"
)

// Each name stands in two trees: in one its number stands under its bytes, in the other one it stands under its number's.
const (
	byName = iota
	byNumber
	trees
)

// firstRoot is which of the space's roots is that of the first tree.
const firstRoot = 1

// roots are both trees', as the space tells them.
func roots(b *change.Book) ([trees]int, api.Errno) {
	var out [trees]int
	for which := range trees {
		root, e := space.Root(b, firstRoot+which)
		if e != api.OK {
			return [trees]int{}, e
		}
		out[which] = root
	}
	return out, api.OK
}

// get is what stands under a key in one of the trees, if there is such a cell. The other one is looked into, too: where either is none, the book has no names, whichever of them is asked.
func get(b *change.Book, at [trees]int, which int, key []byte) ([]byte, bool, api.Errno) {
	var value []byte
	var is bool
	for i := range trees {
		found, there, e := btree.Get(b, at[i], key)
		if e != api.OK {
			return nil, false, e
		}
		if i == which {
			value, is = found, there
		}
	}
	return value, is, api.OK
}

// find is the number that stands under a name, if it has one.
func find(b *change.Book, at [trees]int, name string) (int, bool, api.Errno) {
	value, is, e := get(b, at, byName, []byte(name))
	if !is || e != api.OK {
		return 0, false, e
	}
	n, right := number(value)
	if !right {
		return 0, false, api.ErrShape
	}
	return n, true, api.OK
}

// give lets a name have the number that comes next.
func give(b *change.Book, at [trees]int, name string) (int, api.Errno) {
	n, e := unused(b, at)
	if e != api.OK {
		return 0, e
	}
	text, digits := []byte(name), key.PutInt(int64(n))
	cells := [trees]api.Cell{byName: {Key: text, Value: digits}, byNumber: {Key: digits, Value: text}}
	for which := range trees {
		root, e := btree.Put(b, at[which], cells[which].Key, cells[which].Value)
		if e != api.OK {
			return 0, e
		}
		if e := space.SetRoot(b, firstRoot+which, root); e != api.OK {
			return 0, e
		}
	}
	return n, api.OK
}

// unused is one more than the greatest number that a name has. What tells no number is none of this package's, and behind the greatest of all there is none.
func unused(b *change.Book, at [trees]int) (int, api.Errno) {
	c := cursor.New(b, at[byNumber])
	c.Seek(behindAll())
	last, is, e := c.Back()
	if e != api.OK {
		return 0, e
	}
	if !is {
		return 1, api.OK
	}
	n, right := number(last.Key)
	if !right || n == math.MaxInt {
		return 0, api.ErrShape
	}
	return n + 1, api.OK
}

// behindAll stands behind each key that a tree may have.
func behindAll() []byte {
	return bytes.Repeat([]byte{255}, api.MaxKey+1)
}

// number is the one that a name's bytes say, if they say one.
func number(b []byte) (int, bool) {
	n, size, is := key.GetInt(b)
	if !is || size != len(b) || n < 1 {
		return 0, false
	}
	return int(n), true
}
