package label_test

import (
	"bytes"
	"math"
	"slices"
	"strings"
	"testing"

	"parchment/api"
	"parchment/label"
)

// P3.1: what is right, and what is not.
func TestRight(t *testing.T) {
	for _, c := range []struct {
		l     []byte
		level int
	}{
		{nil, 0}, {[]byte{}, 0},
		{[]byte{0b11000000}, 1}, {[]byte{0b10110000}, 1}, {[]byte{0b11110000}, 1}, {[]byte{0b10101011, 0}, 1},
		{[]byte{0b11011000}, 2}, {[]byte{0b11010110}, 2}, {[]byte{0b10110110}, 2},
		{[]byte{0b11011011, 0}, 3}, {[]byte{0b11110110, 0b11000000}, 3},
	} {
		if !label.Right(c.l) || label.Level(c.l) != c.level {
			t.Errorf("%08b: Right %v, Level %d; want level %d", c.l, label.Right(c.l), label.Level(c.l), c.level)
		}
	}
}

func TestNotRight(t *testing.T) {
	for _, l := range [][]byte{
		{0}, {0, 0}, {0b01000000}, {0, 0b11000000}, // no step at the beginning
		{0b10000000}, {0b10100000}, {0b11100000}, {0b11010000}, {0b10100000, 0}, // a step that ends with a 0
		{0b11111111}, {0b11111111, 0b11111111}, {0b11011011}, {0b11011001}, {0b11000001}, // a step that does not end
		{0b11000000, 0}, {0b10110000, 0}, {0b11011000, 0, 0}, // bytes that no bit needs
		{0b11001000}, {0b11000000, 0b11000000}, {0b11000010}, // a 1 behind a nought that begins no step
	} {
		wantNotRight(t, l)
	}
}

func wantNotRight(t *testing.T, l []byte) {
	t.Helper()
	p, ok := label.Parent(l)
	if label.Right(l) || label.Level(l) != 0 || ok || len(p) != 0 || len(label.After(l)) != 0 {
		t.Errorf("%08b is not right: Right %v, Level %d, Parent %v %v, After %v", l, label.Right(l), label.Level(l), p, ok, label.After(l))
	}
	if label.Above(nil, l) || label.Above(l, []byte{0b11000000}) || label.Above(l, nil) || label.Above(l, l) {
		t.Errorf("%08b is not right, and above or below", l)
	}
	if kids, e := label.Kids(l, 1); e != api.ErrArg || len(kids) != 0 {
		t.Errorf("Kids(%08b) = %v, %d; want ErrArg", l, kids, e)
	}
	for _, c := range [][3][]byte{{l, nil, nil}, {nil, l, nil}, {nil, nil, l}, {nil, l, []byte{0b11111100}}, {nil, []byte{0b10101100}, l}} {
		if m, e := label.Between(c[0], c[1], c[2]); e != api.ErrArg || len(m) != 0 {
			t.Errorf("Between(%08b) = %v, %d; want ErrArg", c, m, e)
		}
	}
}

// A label has at most 1024 bits, as they are written.
func TestRightAtTheLimit(t *testing.T) {
	long := strings.Repeat("0", 509) + "1"
	for _, c := range []struct {
		steps []string
		bits  int
	}{
		{[]string{"1", long}, 1024}, {[]string{long, "1"}, 1024}, {slices.Repeat([]string{"1"}, 341), 1023},
		{[]string{"0" + long}, 1023}, {append(slices.Repeat([]string{"1"}, 338), "01", "01"), 1024},
	} {
		if l := labelOf(c.steps...); !label.Right(l) || label.Level(l) != len(c.steps) || len(written(c.steps...)) != c.bits {
			t.Errorf("%d steps, %d bits: not right", len(c.steps), len(written(c.steps...)))
		}
	}
	for _, steps := range [][]string{{"00" + long}, {"01", long, "1"}, slices.Repeat([]string{"1"}, 342), slices.Repeat([]string{"1"}, 5000)} {
		wantNotRight(t, labelOf(steps...))
	}
	wantNotRight(t, append(labelOf("1", long), 0))
	wantNotRight(t, bytes.Repeat([]byte{0b11011011, 0b01101101, 0b10110110}, 1<<16))
	wantNotRight(t, make([]byte, 1<<18))
}

func TestCompare(t *testing.T) {
	up := [][]byte{nil, {0}, {0, 0}, {0, 255}, {1}, {127}, {128}, {128, 0}, {176}, {176, 0}, {192}, {255}, {255, 0}, {255, 255}}
	for i, a := range up {
		for j, b := range up {
			if want := sign(i - j); label.Compare(a, b) != want {
				t.Errorf("Compare(%v, %v) = %d; want %d", a, b, label.Compare(a, b), want)
			}
		}
	}
	if label.Compare(nil, []byte{}) != 0 {
		t.Error("an empty list and none are not the same")
	}
}

func TestParent(t *testing.T) {
	for _, steps := range [][]string{{"1"}, {"01"}, {"0001"}, {"1", "1"}, {"0001", "1"}, {"1", "01", "00001"}, slices.Repeat([]string{"011"}, 60)} {
		p, ok := label.Parent(labelOf(steps...))
		if want := labelOf(steps[:len(steps)-1]...); !ok || !bytes.Equal(p, want) {
			t.Errorf("Parent of %v = %08b, %v; want %08b", steps, p, ok, want)
		}
	}
	for _, root := range [][]byte{nil, {}} {
		if p, ok := label.Parent(root); ok || len(p) != 0 {
			t.Errorf("Parent of the root's = %v, %v", p, ok)
		}
	}
}

func TestAbove(t *testing.T) {
	for _, c := range []struct {
		a, b []string
		want bool
	}{
		{nil, []string{"1"}, true}, {nil, nil, false}, {[]string{"1"}, nil, false}, {[]string{"1"}, []string{"1"}, false},
		{[]string{"1"}, []string{"1", "1"}, true}, {[]string{"1"}, []string{"1", "01", "1"}, true}, {[]string{"1", "01"}, []string{"1", "01", "1"}, true},
		{[]string{"1"}, []string{"11"}, false}, {[]string{"1"}, []string{"11", "1"}, false}, {[]string{"1"}, []string{"01", "1"}, false},
		{[]string{"1", "1"}, []string{"1", "01", "1"}, false}, {[]string{"0001"}, []string{"0001", "1"}, true}, {[]string{"0001", "1"}, []string{"0001"}, false},
	} {
		if got := label.Above(labelOf(c.a...), labelOf(c.b...)); got != c.want {
			t.Errorf("Above(%v, %v) = %v", c.a, c.b, got)
		}
	}
}

// P3.2: children at once.
func TestKids(t *testing.T) {
	for _, c := range []struct{ n, k int }{{1, 1}, {2, 2}, {3, 2}, {4, 3}, {7, 3}, {8, 4}, {100, 7}, {1 << 13, 14}, {1<<14 - 1, 14}, {1 << 14, 15}} {
		for _, steps := range [][]string{nil, {"1"}, {"0001", "011"}} {
			kids, e := label.Kids(labelOf(steps...), c.n)
			if e != api.OK || len(kids) != c.n {
				t.Fatalf("Kids(%v, %d): %d, %d", steps, c.n, len(kids), e)
			}
			for i, kid := range kids {
				if want := labelOf(append(slices.Clone(steps), wantKidStep(i+1, c.k))...); !bytes.Equal(kid, want) {
					t.Fatalf("Kids(%v, %d): %d is %08b; want %08b", steps, c.n, i+1, kid, want)
				}
			}
		}
	}
}

// wantKidStep adds up the halves, quarters .. of which i of 2^k is made.
func wantKidStep(i, k int) string {
	step := ""
	for part := 1 << (k - 1); i > 0; part /= 2 {
		if i >= part {
			step, i = step+"1", i-part
		} else {
			step += "0"
		}
	}
	return step
}

func TestKidsOfNone(t *testing.T) {
	for _, l := range [][]byte{nil, {}, labelOf("1"), labelOf("1", strings.Repeat("1", 510))} {
		if kids, e := label.Kids(l, 0); e != api.OK || len(kids) != 0 {
			t.Errorf("Kids of %v and 0: %v, %d", l, kids, e)
		}
	}
}

func TestKidsWrong(t *testing.T) {
	full := labelOf("1", strings.Repeat("1", 510))
	for _, c := range []struct {
		l []byte
		n int
		e api.Errno
	}{
		{nil, -1, api.ErrArg}, {nil, math.MinInt, api.ErrArg}, {nil, 1<<14 + 1, api.ErrArg}, {nil, math.MaxInt, api.ErrArg},
		{[]byte{128}, 0, api.ErrArg}, {[]byte{128}, 1, api.ErrArg}, {[]byte{176, 0}, 1, api.ErrArg},
		{full, 1, api.ErrLabel}, {full, 1 << 14, api.ErrLabel}, {full, -1, api.ErrArg}, {full, 1<<14 + 1, api.ErrArg},
	} {
		if kids, e := label.Kids(c.l, c.n); e != c.e || len(kids) != 0 {
			t.Errorf("Kids(%v, %d) = %d, %d; want %d", c.l, c.n, len(kids), e, c.e)
		}
	}
}

// The longest of the steps counts: with k bits there are 2 * k + 1 more.
func TestKidsAtTheLimit(t *testing.T) {
	for _, c := range []struct{ n, k int }{{1, 1}, {2, 2}, {3, 2}, {4, 3}, {1<<14 - 1, 14}, {1 << 14, 15}} {
		// 1024 bits, less a written step of k bits, are an odd number: one step's.
		room := strings.Repeat("1", (1024-(2*c.k+1)-1)/2)
		kids, e := label.Kids(labelOf(room), c.n)
		if e != api.OK || len(kids) != c.n || len(written(room, kidOne(c.k))) != 1024 {
			t.Errorf("Kids(.., %d) with room for just %d bits: %d, %d", c.n, c.k, len(kids), e)
		}
		if kids, e := label.Kids(labelOf(room+"1"), c.n); e != api.ErrLabel || len(kids) != 0 {
			t.Errorf("Kids(.., %d) without room: %d, %d", c.n, len(kids), e)
		}
	}
}

func kidOne(k int) string {
	return strings.Repeat("0", k-1) + "1"
}

// P3.3: one child more.
func TestBetween(t *testing.T) {
	for _, c := range [][3]string{
		{"", "", "1"}, {"1", "", "11"}, {"11", "", "111"}, {"01", "", "1"}, {"011", "", "1"}, {"1011", "", "11"},
		{"", "1", "01"}, {"", "01", "001"}, {"", "11", "1"}, {"", "0001", "00001"}, {"", "001011", "001"},
		{"01", "1", "011"}, {"01", "11", "1"}, {"001", "1", "01"}, {"011", "1", "0111"}, {"1", "11", "101"}, {"1", "1000001", "10000001"},
		{"0111111", "1", "01111111"}, {"0111111", "1000001", "1"}, {"101", "11", "1011"}, {"1001", "10011", "100101"},
	} {
		for _, steps := range [][]string{nil, {"1"}, {"0001", "11"}} {
			under := func(step string) []byte {
				if step == "" {
					return nil
				}
				return labelOf(append(slices.Clone(steps), step)...)
			}
			l, e := label.Between(labelOf(steps...), under(c[0]), under(c[1]))
			if e != api.OK || !bytes.Equal(l, under(c[2])) {
				t.Errorf("Between(%v, %q, %q) = %08b, %d; want the step %s", steps, c[0], c[1], l, e, c[2])
			}
		}
	}
	if l, e := label.Between([]byte{}, []byte{}, []byte{}); e != api.OK || !bytes.Equal(l, []byte{192}) {
		t.Errorf("Between of empty lists = %v, %d", l, e)
	}
}

func TestBetweenWrong(t *testing.T) {
	p, q := labelOf("1"), labelOf("01")
	first, second := labelOf("1", "01"), labelOf("1", "1")
	for i, c := range [][3][]byte{
		{p, first, first}, {p, second, first}, {nil, p, p}, {nil, p, q}, // not below
		{q, first, second}, {q, first, nil}, {q, nil, second}, {nil, first, nil}, {nil, nil, second}, {nil, q, second}, // not its children
		{p, p, nil}, {p, nil, p}, {p, p, second}, {p, q, nil}, {p, first, labelOf("11")}, {p, labelOf("11", "1"), nil},
		{p, labelOf("1", "1", "1"), nil}, {p, nil, labelOf("1", "1", "1")}, {labelOf("1", "1"), labelOf("1", "01", "1"), nil},
		{{128}, nil, nil}, {p, {128}, nil}, {p, nil, {128}}, {p, {0}, nil}, {p, nil, {0}}, {{0}, nil, nil}, // not right
	} {
		if l, e := label.Between(c[0], c[1], c[2]); e != api.ErrArg || len(l) != 0 {
			t.Errorf("%d: Between(%08b) = %v, %d; want ErrArg", i, c, l, e)
		}
	}
}

func TestBetweenAtTheLimit(t *testing.T) {
	ones, noughts := strings.Repeat("1", 510), strings.Repeat("0", 510)
	p := labelOf("1")
	for i, c := range []struct {
		a, b []byte
		want string // none: no room
	}{
		{labelOf("1", ones[1:]), nil, ones}, {labelOf("1", ones), nil, ""},
		{nil, labelOf("1", noughts[2:]+"1"), noughts[1:] + "1"}, {nil, labelOf("1", noughts[1:]+"1"), ""},
		{labelOf("1", "01"), labelOf("1", "01"+noughts[4:]+"1"), "01" + noughts[3:] + "1"}, {labelOf("1", "01"), labelOf("1", "01"+noughts[3:]+"1"), ""},
		{labelOf("1", "0"+ones[1:]), labelOf("1", "1"), ""}, {labelOf("1", "0"+ones[1:]), nil, "1"}, {labelOf("1", "0"+ones[1:]), labelOf("1", "1"+noughts[2:]+"1"), "1"},
	} {
		l, e := label.Between(p, c.a, c.b)
		switch {
		case c.want == "" && (e != api.ErrLabel || len(l) != 0):
			t.Errorf("%d: %08b, %d; want ErrLabel", i, l, e)
		case c.want != "" && (e != api.OK || !bytes.Equal(l, labelOf("1", c.want))):
			t.Errorf("%d: %08b, %d; want the step %s", i, l, e, c.want)
		}
	}
	if l, e := label.Between(labelOf(ones), nil, nil); e != api.OK || !bytes.Equal(l, labelOf(ones, "1")) {
		t.Errorf("a first child of a parent of 1021 bits: %d", e)
	}
	for _, full := range [][]byte{labelOf(ones + "1"), labelOf(ones, "1"), labelOf(slices.Repeat([]string{"1"}, 341)...)} {
		if l, e := label.Between(full, nil, nil); e != api.ErrLabel || len(l) != 0 {
			t.Errorf("a first child without room: %08b, %d", l, e)
		}
	}
	if l, e := label.Between(labelOf("1", ones), labelOf("1", ones), nil); e != api.ErrArg || len(l) != 0 {
		t.Errorf("ErrArg comes ahead of ErrLabel: %d", e)
	}
}

// P3.4: what comes behind a label and all below it.
func TestAfter(t *testing.T) {
	for _, steps := range [][]string{{"1"}, {"01"}, {"0001"}, {"1", "1"}, {"01", "0011"}, {"0001", "1", "1", "011"}, {"1", strings.Repeat("1", 510)}} {
		text := written(steps...)
		if want := packed(text[:len(text)-1] + "1"); !bytes.Equal(label.After(labelOf(steps...)), want) {
			t.Errorf("After of %v = %08b; want %08b", steps, label.After(labelOf(steps...)), want)
		}
	}
	for _, l := range [][]byte{nil, {}, {128}, {176, 0}, {0}, {255}} {
		if len(label.After(l)) != 0 {
			t.Errorf("After of %v = %v; want none", l, label.After(l))
		}
	}
}

// R3: what is handed in is neither changed nor kept, what is handed out is new.
func TestNothingIsShared(t *testing.T) {
	room := []byte{0b11011000, 7, 8, 9}
	l := room[:1]
	kids, _ := label.Kids(l, 3)
	parent, _ := label.Parent(l)
	between, _ := label.Between(l, kids[0], nil)
	outs := append([][]byte{parent, between, label.After(l)}, kids...)
	if label.Level(l); !bytes.Equal(room, []byte{0b11011000, 7, 8, 9}) {
		t.Errorf("what was handed in has changed: %v", room)
	}
	var were [][]byte
	for _, out := range outs {
		were = append(were, slices.Clone(out))
	}
	clear(room)
	for i, out := range outs {
		for j := range out[:cap(out)] {
			out[:cap(out)][j] = byte(i)
		}
		for j := i + 1; j < len(outs); j++ {
			if !bytes.Equal(outs[j], were[j]) {
				t.Errorf("%d shares memory with %d, or with what was handed in", j, i)
			}
		}
	}
}

func TestKidsListIsNew(t *testing.T) {
	kids, _ := label.Kids(nil, 3)
	clear(kids[:cap(kids)])
	again, _ := label.Kids(nil, 3)
	if !slices.EqualFunc(again, [][]byte{{176}, {192}, {240}}, bytes.Equal) {
		t.Errorf("Kids once more: %v", again)
	}
}

// The chapter's examples.
func TestExamples(t *testing.T) {
	kids, e := label.Kids(nil, 3)
	if e != api.OK || !slices.EqualFunc(kids, [][]byte{{176}, {192}, {240}}, bytes.Equal) {
		t.Errorf("Kids(root, 3) = %v, %d", kids, e)
	}
	if l, e := label.Between(nil, []byte{192}, nil); e != api.OK || !bytes.Equal(l, []byte{240}) {
		t.Errorf("Between(root, 192, none) = %v, %d", l, e)
	}
	if l, e := label.Between(nil, []byte{176}, []byte{192}); e != api.OK || !bytes.Equal(l, []byte{188}) {
		t.Errorf("Between(root, 176, 192) = %v, %d", l, e)
	}
	if l, e := label.Between(nil, []byte{240}, nil); e != api.OK || !bytes.Equal(l, []byte{252}) {
		t.Errorf("Between(root, 240, none) = %v, %d", l, e)
	}
	if l := label.After([]byte{192}); !bytes.Equal(l, []byte{224}) {
		t.Errorf("After(192) = %v", l)
	}
	if label.Right([]byte{128}) || label.Right([]byte{160, 0}) {
		t.Error("128, and 160 0, are not right")
	}
}
