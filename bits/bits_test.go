package bits_test

import (
	"bytes"
	"math"
	"slices"
	"strings"
	"testing"

	"parchment/bits"
)

// most is how many bits a row may have.
const most = 1 << 20

func of(t *testing.T, text string) bits.Bits {
	t.Helper()
	b, ok := bits.Of(text)
	if !ok {
		t.Fatalf("Of(%.40q) is none", text)
	}
	return b
}

func wantRow(t *testing.T, what string, b bits.Bits, text string) {
	t.Helper()
	if b.Len() != len(text) || b.Text() != text {
		t.Errorf("%s = %d bits %.60q; want %d bits %.60q", what, b.Len(), b.Text(), len(text), text)
	}
}

func wantNone(t *testing.T, what string, b bits.Bits, ok bool) {
	t.Helper()
	if ok || b != (bits.Bits{}) {
		t.Errorf("%s = %d bits, %v; want none, false", what, b.Len(), ok)
	}
}

// allTexts is every row of at most n bits, shorter ones first.
func allTexts(n int) []string {
	texts := []string{""}
	for i := 0; len(texts[i]) < n; i++ {
		texts = append(texts, texts[i]+"0", texts[i]+"1")
	}
	return texts
}

// packed is a row's bytes as the chapter's words have them.
func packed(text string) []byte {
	var out []byte
	for ; text != ""; text = text[min(8, len(text)):] {
		b := byte(0)
		for i := 0; i < 8; i++ {
			b *= 2
			if i < len(text) && text[i] == '1' {
				b++
			}
		}
		out = append(out, b)
	}
	return out
}

// P2.1: the row of a text, its length, its bits, its text.
func TestOf(t *testing.T) {
	for _, text := range append(allTexts(10), strings.Repeat("0110100110010110", 5)) {
		b := of(t, text)
		wantRow(t, "Of", b, text)
		for i := range text {
			if want := int(text[i] - '0'); b.At(i) != want {
				t.Errorf("At(%d) of %q = %d; want %d", i, text, b.At(i), want)
			}
		}
	}
}

func TestOfTheLongest(t *testing.T) {
	text := strings.Repeat("0", most-1) + "1"
	b := of(t, text)
	if b.Len() != most || b.At(most-1) != 1 || b.At(most-2) != 0 || b.At(most) != -1 || b.Text() != text {
		t.Errorf("Of of 2^20 bits: Len %d", b.Len())
	}
	over, ok := bits.Of(text + "0")
	wantNone(t, "Of of 2^20 + 1 bits", over, ok)
}

func TestOfOtherBytes(t *testing.T) {
	for _, text := range []string{"2", "/", " ", "102", "1 ", " 1", "1\x00", "\x00", "\x01", "-1", "\xff", "0\xb1", "1\xc3\xa9", "10101010x", "\uff10", "0\u0661", "01\n"} {
		b, ok := bits.Of(text)
		wantNone(t, "Of "+text, b, ok)
	}
	for c := range 256 {
		if c == '0' || c == '1' {
			continue
		}
		b, ok := bits.Of("01" + string([]byte{byte(c)}) + "10")
		wantNone(t, "Of with another byte", b, ok)
	}
}

func TestAtNoPlace(t *testing.T) {
	for _, text := range []string{"", "1", "11111111", "111111111"} {
		b := of(t, text)
		for _, i := range []int{-1, -8, len(text), len(text) + 1, len(text) + 8, math.MaxInt, math.MinInt} {
			if b.At(i) != -1 {
				t.Errorf("At(%d) of %q = %d; want -1", i, text, b.At(i))
			}
		}
	}
}

// The zero Bits is the row without bits.
func TestZero(t *testing.T) {
	var z bits.Bits
	wantRow(t, "zero", z, "")
	if z != of(t, "") || z.At(0) != -1 || len(z.Pack()) != 0 {
		t.Error("the zero Bits is not the row of no bits")
	}
	wantRow(t, "zero And 101", z.And(of(t, "101")), "101")
	wantRow(t, "101 And zero", of(t, "101").And(z), "101")
	if c, ok := z.Cut(0, 0); !ok || c != z {
		t.Error("Cut(0, 0) of the zero Bits")
	}
	if bits.Compare(z, z) != 0 || !bits.Begins(z, z) {
		t.Error("the zero Bits is not as itself")
	}
}

// P2.2: one row behind another one.
func TestAnd(t *testing.T) {
	texts := append(allTexts(5), "11111111", "00000000", "1000000001", "01111111111111110")
	for _, x := range texts {
		for _, y := range texts {
			a, b := of(t, x), of(t, y)
			c := a.And(b)
			wantRow(t, x+" And "+y, c, x+y)
			if c != of(t, x+y) {
				t.Errorf("%s And %s is another row than Of tells", x, y)
			}
			wantRow(t, "the first", a, x)
			wantRow(t, "the second", b, y)
		}
	}
}

func TestAndTooMany(t *testing.T) {
	one, all := of(t, "1"), of(t, strings.Repeat("1", most))
	but := of(t, strings.Repeat("1", most-1))
	if c := but.And(one); c != all {
		t.Errorf("And of 2^20 bits in all: %d bits", c.Len())
	}
	if c := one.And(but); c != all {
		t.Errorf("And of 2^20 bits in all: %d bits", c.Len())
	}
	for i, c := range []bits.Bits{all.And(one), one.And(all), all.And(all)} {
		if c != (bits.Bits{}) {
			t.Errorf("%d: And of more than 2^20 bits: %d bits; want none", i, c.Len())
		}
	}
	if all.And(bits.Bits{}) != all {
		t.Error("2^20 bits And none")
	}
}

func TestCut(t *testing.T) {
	text := "1101000011111010010111000"
	b := of(t, text)
	for from := range len(text) + 1 {
		for to := from; to <= len(text); to++ {
			c, ok := b.Cut(from, to)
			if !ok || c != of(t, text[from:to]) {
				t.Errorf("Cut(%d, %d) = %q, %v; want %q", from, to, c.Text(), ok, text[from:to])
			}
		}
	}
	wantRow(t, "what was cut", b, text)
}

func TestCutNoPlaces(t *testing.T) {
	for _, text := range []string{"", "1", "10110", "11111111", "1111111111111111"} {
		b, n := of(t, text), len(text)
		for _, p := range [][2]int{{-1, 0}, {-1, -1}, {-1, n}, {0, n + 1}, {n, n + 1}, {n + 1, n + 1}, {n + 1, n}, {1, 0}, {0, -1}, {math.MinInt, math.MaxInt}, {math.MaxInt, math.MinInt}, {math.MinInt, n}, {0, math.MaxInt}} {
			c, ok := b.Cut(p[0], p[1])
			wantNone(t, "Cut of "+text, c, ok)
		}
	}
}

// P2.3: rows as bytes.
func TestPack(t *testing.T) {
	for _, text := range append(allTexts(9), strings.Repeat("10011", 7)) {
		if p := of(t, text).Pack(); !bytes.Equal(p, packed(text)) {
			t.Errorf("Pack of %q = %v; want %v", text, p, packed(text))
		}
	}
}

func TestUnpack(t *testing.T) {
	for _, text := range append(allTexts(9), strings.Repeat("10011", 7)) {
		if b, ok := bits.Unpack(packed(text), len(text)); !ok || b != of(t, text) {
			t.Errorf("Unpack(%v, %d) = %q, %v; want %q", packed(text), len(text), b.Text(), ok, text)
		}
	}
	if b, ok := bits.Unpack([]byte{}, 0); !ok || b.Len() != 0 {
		t.Error("Unpack of an empty list")
	}
	if b, ok := bits.Unpack(bytes.Repeat([]byte{255}, most/8), most); !ok || b != of(t, strings.Repeat("1", most)) {
		t.Error("Unpack of 2^20 bits")
	}
}

func TestUnpackNone(t *testing.T) {
	for _, c := range []struct {
		b []byte
		n int
	}{
		{nil, -1}, {nil, 1}, {nil, 8}, {nil, math.MinInt}, {nil, math.MaxInt}, {nil, -8}, {[]byte{0}, -1},
		{[]byte{0}, 0}, {[]byte{0}, 9}, {[]byte{128, 0}, 8}, {[]byte{160, 0}, 3}, {[]byte{128}, 16},
		{make([]byte, most/8+1), most + 1}, {make([]byte, most/8), most + 1}, {make([]byte, most/8+1), most}, {make([]byte, most/8-1), most},
		{[]byte{0}, math.MaxInt}, {[]byte{0}, math.MinInt},
	} {
		b, ok := bits.Unpack(c.b, c.n)
		wantNone(t, "Unpack", b, ok)
	}
}

// Each bit behind the n is looked at, and none ahead of it.
func TestUnpackFill(t *testing.T) {
	for n := 1; n <= 16; n++ {
		for i := range (n + 7) / 8 * 8 {
			p := make([]byte, (n+7)/8)
			p[i/8] = 128 >> (i % 8)
			b, ok := bits.Unpack(p, n)
			if i >= n {
				wantNone(t, "Unpack with a 1 behind", b, ok)
			} else if !ok || b.Len() != n || b.At(i) != 1 {
				t.Errorf("Unpack(%v, %d) = %q, %v", p, n, b.Text(), ok)
			}
		}
	}
}

// P2.4: how rows stand. Texts of 0s and 1s stand as their rows do.
func TestCompare(t *testing.T) {
	texts := append(allTexts(5), "00000000", "000000000", "100000000", "10000000", "1000000000000000", "10000000000000001", "11111111", "111111110", "111111111")
	for _, x := range texts {
		for _, y := range texts {
			a, b := of(t, x), of(t, y)
			if n := bits.Compare(a, b); n != strings.Compare(x, y) {
				t.Errorf("Compare(%q, %q) = %d", x, y, n)
			}
			if ok := bits.Begins(a, b); ok != strings.HasPrefix(x, y) {
				t.Errorf("Begins(%q, %q) = %v", x, y, ok)
			}
		}
	}
}

// Rows that came about in other ways are alike if their bits are.
func TestCompareWhatWasMade(t *testing.T) {
	want := of(t, "0110")
	cut, _ := of(t, "1101101111").Cut(2, 6)
	unpacked, _ := bits.Unpack([]byte{96}, 4)
	for i, b := range []bits.Bits{cut, unpacked, of(t, "01").And(of(t, "10")), of(t, "").And(want)} {
		if b != want || bits.Compare(b, want) != 0 || !bits.Begins(b, want) || !bits.Begins(want, b) {
			t.Errorf("%d: %q is not as 0110", i, b.Text())
		}
	}
}

// P2.5: what follows.
func TestAndIsGroupedAsOneLikes(t *testing.T) {
	texts := append(allTexts(3), "11111111", "0101010101")
	for _, x := range texts {
		for _, y := range texts {
			for _, z := range texts {
				a, b, c := of(t, x), of(t, y), of(t, z)
				if a.And(b).And(c) != a.And(b.And(c)) {
					t.Errorf("%q, %q, %q are grouped as one does not like", x, y, z)
				}
			}
		}
	}
}

func TestPackedBytesStandAsRows(t *testing.T) {
	texts := append(allTexts(6), "100000001", "10000000", "1000000010000000", "011111111", "01111111")
	for _, x := range texts {
		for _, y := range texts {
			short, long := x, y
			if len(short) > len(long) {
				short, long = y, x
			}
			if rest, ok := strings.CutPrefix(long, short); ok && !strings.HasPrefix(rest, "1") {
				continue
			}
			a, b := of(t, x), of(t, y)
			if bytes.Compare(a.Pack(), b.Pack()) != bits.Compare(a, b) {
				t.Errorf("packed, %q and %q stand otherwise", x, y)
			}
		}
	}
}

// R3: what is handed in is neither changed nor kept, what is handed out is new.
func TestUnpackKeepsNothing(t *testing.T) {
	room := []byte{160, 64, 77, 78}
	b, _ := bits.Unpack(room[:2], 11)
	b.And(of(t, "11111111"))
	if !slices.Equal(room, []byte{160, 64, 77, 78}) {
		t.Errorf("Unpack changed what it was handed: %v", room)
	}
	room[0], room[1] = 255, 255
	wantRow(t, "Unpack, its bytes changed behind it", b, "10100000010")
}

func TestPackIsNew(t *testing.T) {
	b := of(t, "1010000001")
	p, q := b.Pack(), b.Pack()
	p[0] = 255
	_ = append(p, 1, 2, 3)
	clear(q[:cap(q)])
	if !slices.Equal(p, []byte{255, 64}) {
		t.Errorf("two Packs share memory: %v", p)
	}
	wantRow(t, "the row behind its Pack was changed", b, "1010000001")
}

// The chapter's example.
func TestExample(t *testing.T) {
	b := of(t, "101")
	if b.Len() != 3 || b.At(1) != 0 || !slices.Equal(b.Pack(), []byte{160}) {
		t.Error("Of(101)")
	}
	c := b.And(of(t, "1"))
	wantRow(t, "101 And 1", c, "1011")
	if !slices.Equal(c.Pack(), []byte{176}) {
		t.Error("Pack of 1011")
	}
	cut, ok := b.Cut(1, 3)
	if wantRow(t, "Cut(1, 3)", cut, "01"); !ok {
		t.Error("Cut(1, 3) is false")
	}
	if bits.Compare(of(t, "1"), of(t, "10")) != -1 {
		t.Error("Compare(1, 10)")
	}
	none, ok := bits.Unpack([]byte{161}, 3)
	wantNone(t, "Unpack(161, 3)", none, ok)
}
