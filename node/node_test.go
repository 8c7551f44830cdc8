package node

import (
	"bytes"
	"cmp"
	"math/rand"
	"slices"
	"testing"

	"parchment/api"
	"parchment/change"
	"parchment/device"
	"parchment/page"
	"parchment/restore"
)

// What trees' pages say, page by page; what trees make of it their own tests hold.

func cellsOf(keys ...string) []api.Cell {
	var row []api.Cell
	for at, key := range keys {
		row = append(row, api.Cell{Key: []byte(key), Value: Numbered(at)})
	}
	return row
}

func keysOf(row []api.Cell) []string {
	var keys []string
	for _, c := range row {
		keys = append(keys, string(c.Key))
	}
	return keys
}

func anyKey(r *rand.Rand) []byte {
	out := make([]byte, r.Intn(5))
	for i := range out {
		out[i] = byte(r.Intn(3)) * 127
	}
	return out
}

func anyRow(r *rand.Rand) []api.Cell {
	var row []api.Cell
	for Size(row) <= Room {
		c := api.Cell{Key: make([]byte, 1+r.Intn(api.MaxKey))}
		r.Read(c.Key)
		c.Value = make([]byte, r.Intn(api.MaxCell-len(c.Key)+1))
		row = append(row, c)
	}
	return row
}

func sameCell(a, b api.Cell) bool {
	return bytes.Equal(a.Key, b.Key) && bytes.Equal(a.Value, b.Value)
}

// A row's size is what its page has less of room; and what is written is read.
func TestSize(t *testing.T) {
	r := rand.New(rand.NewSource(9))
	for range 2000 {
		n := &Node{Kind: RootKind, Row: anyRow(r)}
		if _, is := n.Bytes(); is {
			t.Fatalf("a row of %d is on a page", Size(n.Row))
		}
		n.Row = n.Row[:len(n.Row)-1]
		for ; len(n.Row) > 0; n.Row = n.Row[1:] {
			p, is := n.Bytes()
			if is != (Size(n.Row) <= Room) || is && page.Room(p) != Room-Size(n.Row) {
				t.Fatalf("a row of %d: %v, room for %d", Size(n.Row), is, page.Room(p))
			}
			if m, _ := Parse(p); is && (m == nil || m.Kind != RootKind || m.Level != 0 || !slices.EqualFunc(m.Row, n.Row, sameCell)) {
				t.Fatalf("the row %v has become %v", n.Row, m)
			}
		}
	}
}

func TestNumbered(t *testing.T) {
	for x := range 65536 {
		if number(Numbered(x)) != x {
			t.Fatalf("the child %d has become %d", x, number(Numbered(x)))
		}
	}
}

// What a page says of kind and level is read, and a page of more cells than may be is none.
func TestKindsAndLevels(t *testing.T) {
	row := []api.Cell{{Value: Numbered(7)}, {Key: []byte("k"), Value: Numbered(8)}}
	for level := 1; level <= MaxLevel; level++ {
		for _, kind := range []byte{LimbKind, RootKind} {
			p, _ := (&Node{Kind: kind, Level: level, Row: row}).Bytes()
			if n, is := Parse(p); !is || n.Kind != kind || n.Level != level || !slices.EqualFunc(n.Row, row, sameCell) {
				t.Errorf("kind %d, level %d: %v, %v", kind, level, n, is)
			}
		}
	}
	if n, is := Parse(page.New(RootKind)); !is || n.Level != 0 || len(n.Row) > 0 {
		t.Errorf("a root without cells: %v, %v", n, is)
	}
	if _, is := Parse(page.New(LimbKind)); is {
		t.Error("a limb without cells")
	}
	for _, p := range [][]byte{nil, make([]byte, 511), bytes.Repeat([]byte{RootKind}, api.BlockSize)} {
		if _, is := Parse(p); is {
			t.Errorf("a node on %d bytes", len(p))
		}
	}
}

func TestKeysAndCells(t *testing.T) {
	for key := range 163 {
		if is := IsKey(make([]byte, key)); is != (key >= 1 && key <= 160) {
			t.Errorf("a key of %d bytes: %v", key, is)
		}
		for value := range 203 {
			c := api.Cell{Key: make([]byte, key), Value: make([]byte, value)}
			if is := IsCell(c); is != (key >= 1 && key <= 160 && key+value <= 200) {
				t.Errorf("a cell of %d and %d bytes: %v", key, value, is)
			}
		}
	}
}

// Ordered is another row, of the same cells.
func TestOrdered(t *testing.T) {
	row := cellsOf("c", "a", "bb", "b", "", "\xff", "\x00")
	out := Ordered(row)
	if got := keysOf(out); !slices.Equal(got, []string{"", "\x00", "a", "b", "bb", "c", "\xff"}) {
		t.Errorf("%q", got)
	}
	if got := keysOf(row); !slices.Equal(got, []string{"c", "a", "bb", "b", "", "\xff", "\x00"}) {
		t.Errorf("the row has become %q", got)
	}
}

// Place and Toward in rows of whatever order.
func TestPlaceAndToward(t *testing.T) {
	r := rand.New(rand.NewSource(3))
	for range 20000 {
		keys := []string{""}
		for range r.Intn(6) {
			if key := string(anyKey(r)); !slices.Contains(keys, key) {
				keys = append(keys, key)
			}
		}
		r.Shuffle(len(keys), func(i, j int) { keys[i], keys[j] = keys[j], keys[i] })
		row, key := cellsOf(keys...), string(anyKey(r))
		at, is := Place(row, []byte(key))
		if must := slices.Index(keys, key); is != (must >= 0) || at != max(must, 0) {
			t.Fatalf("Place(%q, %q) = %d, %v", keys, key, at, is)
		}
		not := slices.DeleteFunc(slices.Clone(keys), func(k string) bool { return cmp.Compare(k, key) > 0 })
		if at := Toward(row, []byte(key)); keys[at] != slices.Max(not) {
			t.Fatalf("Toward(%q, %q) = %d", keys, key, at)
		}
	}
}

func TestFits(t *testing.T) {
	for _, x := range []struct {
		level     int
		low, high string
		keys      []string
		must      bool
	}{
		{0, "", "", nil, true},
		{0, "", "", []string{"a", "b"}, true},
		{0, "", "", []string{"\xff\xff"}, true},
		{0, "", "", []string{"a", "a"}, false},
		{0, "b", "d", []string{"b", "c", "c\xff"}, true},
		{0, "b", "d", []string{"a\xff", "c"}, false},
		{0, "b", "d", []string{"c", "d"}, false},
		{0, "b", "", []string{"b", "z"}, true},
		{0, "b", "", []string{"a", "z"}, false},
		{0, "", "d", []string{"\x00", "c"}, true},
		{0, "", "d", []string{"\x00", "e"}, false},
		{1, "b", "d", []string{"", "b", "c"}, true},
		{1, "b", "d", []string{"", "a", "c"}, false},
		{1, "b", "d", []string{"", "c", "d"}, false},
		{1, "b", "d", []string{"", "c", "c"}, false},
		{3, "", "", []string{"", "a", "z"}, true},
	} {
		s := Span{Low: []byte(x.low), High: []byte(x.high)}
		if got := s.Fits(x.level, cellsOf(x.keys...)); got != x.must {
			t.Errorf("Fits from %q to %q, level %d, of %q: %v", x.low, x.high, x.level, x.keys, got)
		}
	}
}

func TestBelow(t *testing.T) {
	row := cellsOf("", "c", "e")
	for at, x := range []struct{ low, high string }{{"b", "c"}, {"c", "e"}, {"e", "f"}} {
		s := Span{Low: []byte("b"), High: []byte("f")}
		if got := s.Below(row, at); string(got.Low) != x.low || string(got.High) != x.high {
			t.Errorf("below the child %d: from %q to %q", at, got.Low, got.High)
		}
		if string(s.Low) != "b" || string(s.High) != "f" {
			t.Errorf("the span has become %q to %q", s.Low, s.High)
		}
	}
}

// Root and Child: each page is one for one of them at most, and the space's own for none.
func TestRootAndChild(t *testing.T) {
	d := device.New(9000)
	if e := change.Format(d); e != api.OK {
		t.Fatal(e)
	}
	b, _, e := restore.Open(d, 8)
	if e != api.OK || b.Begin() != api.OK {
		t.Fatal(e)
	}
	own := 3 // of 4498 pages
	above := &Node{Kind: RootKind, Level: 2}
	row := []api.Cell{{Value: Numbered(7)}, {Key: []byte("k"), Value: Numbered(8)}}
	for _, n := range []Node{
		{Kind: RootKind, Level: 1, Row: row},
		{Kind: LimbKind, Level: 0, Row: row[1:]},
		{Kind: LimbKind, Level: 1, Row: row},
		{Kind: LimbKind, Level: 2, Row: row},
		{Kind: 32, Level: 1, Row: row},
	} {
		for _, number := range []int{0, own - 1, own, own + 1, b.Pages() - 1} {
			n.Page = number
			p, _ := n.Bytes()
			if e := b.Put(number, p); e != api.OK {
				t.Fatal(e)
			}
			got, e := Root(b, number)
			if must := number >= own && n.Kind == RootKind; must != (e == api.OK) || must && got.Page != number || !must && (got != nil || e != api.ErrShape) {
				t.Errorf("Root(%d) = %v, %d of %v", number, got, e, n)
			}
			got, e = above.Child(b, api.Cell{Value: Numbered(number)})
			if must := number >= own && n.Kind == LimbKind && n.Level == 1; must != (e == api.OK) || must && got.Page != number || !must && (got != nil || e != api.ErrShape) {
				t.Errorf("Child(%d) = %v, %d of %v", number, got, e, n)
			}
		}
		if b.Commit() != api.OK || b.Begin() != api.OK {
			t.Fatal("the transaction does not end")
		}
	}
	for _, number := range []int{-1, b.Pages(), 1 << 40} {
		if n, e := Root(b, number); n != nil || e != api.ErrShape {
			t.Errorf("Root(%d) = %v, %d", number, n, e)
		}
	}
}
