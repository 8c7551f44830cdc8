package bits_test

import (
	"bytes"
	"math/rand"
	"strings"
	"testing"

	"parchment/bits"
)

// pair is a row and the text that it must be.
type pair struct {
	row  bits.Bits
	text string
}

func step(t *testing.T, r *rand.Rand, a, b pair) pair {
	t.Helper()
	switch r.Intn(4) {
	case 0:
		text := strings.Map(func(rune) rune { return rune('0' + r.Intn(2)) }, strings.Repeat("0", r.Intn(40)))
		return pair{of(t, text), text}
	case 1:
		return pair{a.row.And(b.row), a.text + b.text}
	case 2:
		from := r.Intn(len(a.text) + 1)
		to := from + r.Intn(len(a.text)-from+1)
		c, ok := a.row.Cut(from, to)
		if !ok {
			t.Fatalf("Cut(%d, %d) of %d bits is none", from, to, len(a.text))
		}
		return pair{c, a.text[from:to]}
	}
	c, ok := bits.Unpack(a.row.Pack(), a.row.Len())
	if !ok {
		t.Fatalf("%q is not unpacked again", a.text)
	}
	return pair{c, a.text}
}

// Rows that are made out of one another go along with texts.
func TestRowsGoAlongWithTexts(t *testing.T) {
	r := rand.New(rand.NewSource(2))
	rows := make([]pair, 12)
	for range 20000 {
		a, b := rows[r.Intn(len(rows))], rows[r.Intn(len(rows))]
		if len(a.text) > 300 {
			a = pair{}
		}
		c := step(t, r, a, b)
		wantRow(t, "a row", c.row, c.text)
		if !bytes.Equal(c.row.Pack(), packed(c.text)) {
			t.Fatalf("Pack of %q = %v", c.text, c.row.Pack())
		}
		if (c.row == b.row) != (c.text == b.text) || bits.Compare(c.row, b.row) != strings.Compare(c.text, b.text) || bits.Begins(c.row, b.row) != strings.HasPrefix(c.text, b.text) {
			t.Fatalf("%q stands otherwise to %q", c.text, b.text)
		}
		rows[r.Intn(len(rows))] = c
	}
}
