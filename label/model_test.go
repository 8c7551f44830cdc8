package label_test

import (
	"bytes"
	"cmp"
	"math/rand"
	"slices"
	"strings"
	"testing"

	"parchment/api"
	"parchment/label"
)

// written is steps as the chapter's words write them, as a text of bits.
func written(steps ...string) string {
	var out strings.Builder
	for _, step := range steps {
		for i := range len(step) {
			out.WriteString("1" + step[i:i+1])
		}
		out.WriteString("0")
	}
	return out.String()
}

func packed(text string) []byte {
	out := make([]byte, (len(text)+7)/8)
	for i := range len(text) {
		out[i/8] |= (text[i] - '0') << (7 - i%8)
	}
	return out
}

func labelOf(steps ...string) []byte {
	return packed(written(steps...))
}

func sign(n int) int {
	return cmp.Compare(n, 0)
}

// stepsOf is every step of at most n bits, shorter ones first.
func stepsOf(n int) []string {
	var out []string
	rows := []string{""}
	for range n {
		var longer []string
		for _, row := range rows {
			longer = append(longer, row+"0", row+"1")
			out = append(out, row+"1")
		}
		rows = longer
	}
	return out
}

// allSteps is every row of steps that needs at most n bits.
func allSteps(n int) [][]string {
	out := [][]string{nil}
	for i := 0; i < len(out); i++ {
		for _, step := range stepsOf(n / 2) {
			if more := append(slices.Clone(out[i]), step); len(written(more...)) <= n {
				out = append(out, more)
			}
		}
	}
	return out
}

// P3.1: of all rows of two bytes, and those with a nought behind them (which may end a step), just those are right that are some steps', and there are no two rows of steps with the same bytes.
func TestAllShortLabels(t *testing.T) {
	right := map[string][]string{}
	for _, steps := range allSteps(17) {
		right[string(labelOf(steps...))] = steps
	}
	if len(right) != len(allSteps(17)) {
		t.Error("two rows of steps have the same label")
	}
	look := func(l []byte) {
		steps, ok := right[string(l)]
		p, has := label.Parent(l)
		if label.Right(l) != ok || label.Level(l) != len(steps) || has != (len(steps) > 0) {
			t.Errorf("%08b: Right %v, Level %d, Parent %v; want %v, %d", l, label.Right(l), label.Level(l), has, ok, len(steps))
		}
		if len(steps) > 0 && !bytes.Equal(p, labelOf(steps[:len(steps)-1]...)) {
			t.Errorf("Parent of %08b = %08b", l, p)
		}
	}
	look(nil)
	for i := range 256 {
		look([]byte{byte(i)})
		for j := range 256 {
			look([]byte{byte(i), byte(j)})
			look([]byte{byte(i), byte(j), 0})
		}
	}
}

// standing tells how nodes with these steps stand in a document: one above ahead of those below it.
func standing(a, b []string) int {
	return slices.Compare(a, b)
}

func isAbove(a, b []string) bool {
	return len(a) < len(b) && slices.Equal(a, b[:len(a)])
}

// P3.5, P3.1, P3.4: labels stand as their nodes do, and After parts what is below a label from what comes behind it.
func TestAllStandAsNodes(t *testing.T) {
	all := allSteps(12)
	for _, a := range all {
		l := labelOf(a...)
		after := label.After(l)
		for _, b := range all {
			m := labelOf(b...)
			if label.Compare(l, m) != standing(a, b) {
				t.Errorf("%v and %v stand otherwise", a, b)
			}
			if label.Above(l, m) != isAbove(a, b) {
				t.Errorf("Above(%v, %v) = %v", a, b, label.Above(l, m))
			}
			if len(a) == 0 {
				continue
			}
			ahead := standing(b, a) <= 0 || isAbove(a, b)
			if ahead != (label.Compare(m, after) < 0) {
				t.Errorf("After of %v is %08b: %v stands otherwise to it", a, after, b)
			}
		}
	}
}

// P3.3, P3.5: held against all steps, the shortest ones first.
func TestBetweenIsTheShortest(t *testing.T) {
	// Texts of steps stand as the steps do; "" is below all, "2" above all.
	ends := append(stepsOf(5), "", "2")
	all := stepsOf(6)
	under := func(step string) []byte {
		if step == "" || step == "2" {
			return nil
		}
		return labelOf("01", step)
	}
	for _, low := range ends {
		for _, high := range ends {
			if low >= high || low == "2" || high == "" {
				continue
			}
			between := slices.DeleteFunc(slices.Clone(all), func(s string) bool { return s <= low || s >= high })
			want := between[0]
			if len(between) > 1 && len(between[1]) == len(want) {
				t.Errorf("between %q and %q there are two of the shortest", low, high)
			}
			l, e := label.Between(labelOf("01"), under(low), under(high))
			if e != api.OK || !bytes.Equal(l, under(want)) {
				t.Errorf("Between(%q, %q) = %08b, %d; want %s", low, high, l, e, want)
			}
			wantNearLong(t, want, low, high)
		}
	}
}

// wantNearLong: at most two bits more than the longer of both, three more than the parent, if both are none.
func wantNearLong(t *testing.T, step, low, high string) {
	t.Helper()
	most := 3
	for _, s := range []string{low, high} {
		if s != "" && s != "2" {
			most = max(most, len(written(s))+2)
		}
	}
	if n := len(written(step)); n > most {
		t.Errorf("the step %s between %q and %q has %d bits", step, low, high, n)
	}
}

// row is children of one parent, as they stand.
type row struct {
	parent []byte
	kids   [][]byte
}

func (r *row) grow(t *testing.T, at int) bool {
	t.Helper()
	var a, b []byte
	if at > 0 {
		a = r.kids[at-1]
	}
	if at < len(r.kids) {
		b = r.kids[at]
	}
	l, e := label.Between(r.parent, a, b)
	if e == api.ErrLabel {
		if max(len(a), len(b)) < api.MaxBits/8-1 {
			t.Fatalf("no room between %d and %d bytes", len(a), len(b))
		}
		return false
	}
	p, ok := label.Parent(l)
	if e != api.OK || !ok || !bytes.Equal(p, r.parent) || bytes.Compare(a, l) >= 0 || b != nil && bytes.Compare(l, b) >= 0 {
		t.Fatalf("Between(%v, %v, %v) = %v, %d", r.parent, a, b, l, e)
	}
	if a != nil && bytes.Compare(label.After(a), l) > 0 || b != nil && bytes.Compare(label.After(l), b) > 0 {
		t.Fatalf("%v and what is below it reach into %v", a, l)
	}
	r.kids = slices.Insert(r.kids, at, l)
	return true
}

// P3.5: Kids' labels rise; what is put between stays between, till there is no room.
func TestGrowing(t *testing.T) {
	r := rand.New(rand.NewSource(3))
	for _, parent := range [][]byte{nil, labelOf("1"), labelOf("0001", "11", "01")} {
		kids, _ := label.Kids(parent, 10)
		where := []func(n int) int{
			func(n int) int { return r.Intn(n + 1) },
			func(n int) int { return 0 },
			func(n int) int { return n },
			func(n int) int { return n / 2 },
			func(n int) int { return min(5, n) },
		}
		for i, place := range where {
			grown, full := row{parent, slices.Clone(kids)}, false
			for range 600 {
				if !grown.grow(t, place(len(grown.kids))) {
					full = true
					break
				}
			}
			if !slices.IsSortedFunc(grown.kids, label.Compare) || full != (i > 0) {
				t.Errorf("way %d: %d children, full %v", i, len(grown.kids), full)
			}
		}
	}
}

// node is one of a tree whose labels were told as it grew.
type node struct {
	label []byte
	kids  []*node
}

// lay goes through a tree in the order of the document.
func (n *node) lay(out []*node) []*node {
	out = append(out, n)
	for _, kid := range n.kids {
		out = kid.lay(out)
	}
	return out
}

func (n *node) grow(t *testing.T, r *rand.Rand) *node {
	t.Helper()
	if len(n.kids) == 0 {
		labels, e := label.Kids(n.label, 1+r.Intn(5))
		if e != api.OK {
			t.Fatalf("Kids of %d bytes: %d", len(n.label), e)
		}
		for _, l := range labels {
			n.kids = append(n.kids, &node{label: l})
		}
		return n.kids[0]
	}
	kids := row{parent: n.label}
	for _, kid := range n.kids {
		kids.kids = append(kids.kids, kid.label)
	}
	at := r.Intn(len(n.kids) + 1)
	if !kids.grow(t, at) {
		t.Fatal("no room in a small tree")
	}
	n.kids = slices.Insert(n.kids, at, &node{label: kids.kids[at]})
	return n.kids[at]
}

// P3.5: a tree's labels stand as its nodes do, whatever way it grew; a label is above just those of the nodes below its own, and After stands right behind these.
func TestTreesStandInOrder(t *testing.T) {
	r := rand.New(rand.NewSource(33))
	for range 20 {
		root := &node{}
		nodes := []*node{root}
		for range 60 {
			nodes = append(nodes, nodes[r.Intn(len(nodes))].grow(t, r))
		}
		nodes = root.lay(nil)
		for i, n := range nodes {
			end := i + len(n.lay(nil))
			for j, m := range nodes {
				if label.Compare(n.label, m.label) != sign(i-j) {
					t.Fatalf("%v and %v stand otherwise than their nodes", n.label, m.label)
				}
				if label.Above(n.label, m.label) != (i < j && j < end) {
					t.Fatalf("Above(%v, %v) = %v", n.label, m.label, label.Above(n.label, m.label))
				}
				if i > 0 && (label.Compare(m.label, label.After(n.label)) < 0) != (j < end) {
					t.Fatalf("After(%v) parts wrongly at %v", n.label, m.label)
				}
			}
		}
	}
}
