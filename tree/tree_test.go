package tree_test

import (
	"math"
	"slices"
	"strconv"
	"strings"
	"testing"

	"parchment/api"
	"parchment/tree"
)

var root = api.Node{Kind: api.Root, Parent: -1}

func element(parent int, name string) api.Node {
	return api.Node{Kind: api.Element, Name: name, Parent: parent}
}

func attribute(parent int, name, value string) api.Node {
	return api.Node{Kind: api.Attribute, Name: name, Value: value, Parent: parent}
}

func text(parent int, value string) api.Node {
	return api.Node{Kind: api.Text, Value: value, Parent: parent}
}

func comment(parent int, value string) api.Node {
	return api.Node{Kind: api.Comment, Value: value, Parent: parent}
}

func instruction(parent int, name, value string) api.Node {
	return api.Node{Kind: api.Instruction, Name: name, Value: value, Parent: parent}
}

// example is the chapter's first one.
func example() []api.Node {
	return []api.Node{root, element(0, "a"), attribute(1, "x", "1"), text(1, "t"), element(1, "b"), text(4, "u")}
}

// within is a document whose one element has the nodes; their Parents count from the element, which is 1.
func within(nodes ...api.Node) []api.Node {
	return append([]api.Node{root, element(0, "a")}, nodes...)
}

// The chapter's examples.
func TestExamples(t *testing.T) {
	x := example()
	wantCheck(t, x, api.OK)
	wantText(t, x, 1, "tu")
	wantGo(t, x, 3, api.Following, 4, 5)
	wantGo(t, x, 2, api.Following, 3, 4, 5)
	wantGo(t, x, 5, api.Preceding, 3)
	wantGo(t, x, 5, api.Ancestor, 4, 1, 0)
	wantEnd(t, x, 4, 6)
	for _, row := range [][]api.Node{
		nil,
		{root, element(0, "a"), text(0, "t")},
		{root, element(0, "a"), element(0, "b")},
		within(text(1, "t"), attribute(1, "x", "")),
		within(text(1, "t"), text(1, "u")),
		within(element(1, "b"), element(1, "c"), element(2, "d")),
	} {
		wantCheck(t, row, api.ErrShape)
	}
}

// P6.1: rows in order, and rows that are none.
func TestOrder(t *testing.T) {
	for _, c := range []struct {
		parents []int
		want    api.Errno
	}{
		{[]int{-1}, api.OK},
		{[]int{-1, -1, -1}, api.OK},
		{[]int{-1, 0, 1, 2}, api.OK},
		{[]int{-1, 0, 0, 0}, api.OK},
		{[]int{-1, 0, 1, 2, 1, 0, -1, 6}, api.OK},
		{[]int{0}, api.ErrShape},
		{[]int{1, -1}, api.ErrShape},
		{[]int{-2}, api.ErrShape},
		{[]int{-1, -2}, api.ErrShape},
		{[]int{-1, 1}, api.ErrShape},
		{[]int{-1, 2, 0}, api.ErrShape},
		{[]int{-1, 0, 0, 1}, api.ErrShape},
		{[]int{-1, -1, 0}, api.ErrShape},
		{[]int{-1, 0, 1, 0, 2}, api.ErrShape},
		{[]int{-1, 0, 1, 0, 1}, api.ErrShape},
		{[]int{-1, math.MaxInt}, api.ErrShape},
		{[]int{-1, math.MinInt}, api.ErrShape},
	} {
		var row []api.Node
		for _, p := range c.parents {
			row = append(row, element(p, "a"))
		}
		wantFragment(t, row, c.want)
		if merged := tree.Merge(row); slices.Equal(merged, row) != (c.want == api.OK) {
			t.Errorf("Merge of Parents %v: %v", c.parents, merged)
		}
	}
}

// P6.1: what a Root may be.
func TestRoots(t *testing.T) {
	a := element(0, "a")
	wantCheck(t, []api.Node{root, a}, api.OK)
	wantFragment(t, []api.Node{root, a}, api.ErrShape)
	wantFragment(t, []api.Node{root}, api.ErrShape)
	wantFragment(t, []api.Node{element(-1, "a"), root}, api.ErrShape)
	for _, row := range [][]api.Node{
		{root},
		{a},
		{element(-1, "a")},
		{text(-1, "t")},
		{root, root, a},
		{root, a, root},
		{root, a, {Kind: api.Root, Parent: 0}},
		{root, a, {Kind: api.Root, Parent: 1}},
		{{Kind: api.Root, Name: "r", Parent: -1}, a},
		{{Kind: api.Root, Value: "r", Parent: -1}, a},
		{{Kind: api.Root}, a},
		{element(-1, "a"), root, element(1, "b")},
		{root, a, element(-1, "b")},
		{root, a, text(-1, "t")},
		{root, a, comment(-1, "")},
		{root, element(-1, "b"), element(1, "c")},
		{root, comment(0, "c")},
		{root, instruction(0, "p", "")},
		{root, a, a},
		{root, a, comment(0, ""), element(0, "b")},
		{root, a, element(0, "b"), element(0, "c")},
	} {
		wantCheck(t, row, api.ErrShape)
	}
	wantCheck(t, []api.Node{root, comment(0, "c"), instruction(0, "p", "x"), comment(0, ""), a, element(4, "b"), comment(0, ""), instruction(0, "p", "x")}, api.OK)
}

// P6.1: fragments have any tops, but neither Roots nor attributes.
func TestTopsOfFragments(t *testing.T) {
	for _, row := range [][]api.Node{
		nil,
		{},
		{element(-1, "a")},
		{element(-1, "a"), element(-1, "a")},
		{text(-1, "t")},
		{comment(-1, ""), comment(-1, "")},
		{instruction(-1, "p", "")},
		{text(-1, "t"), element(-1, "a"), attribute(1, "x", ""), text(1, "t"), text(-1, "t"), comment(-1, ""), text(-1, "t")},
	} {
		wantFragment(t, row, api.OK)
		wantCheck(t, row, api.ErrShape)
	}
	for _, row := range [][]api.Node{
		{attribute(-1, "x", "")},
		{element(-1, "a"), attribute(-1, "x", "")},
		{text(-1, "t"), text(-1, "u")},
		{text(-1, "t"), comment(0, "")},
		{comment(-1, ""), text(0, "t")},
		{instruction(-1, "p", ""), element(0, "a")},
	} {
		wantFragment(t, row, api.ErrShape)
	}
}

// P6.1: which kinds may be below which.
func TestParents(t *testing.T) {
	const all = "r e a t c i"
	kinds := map[string]api.Node{"r": root, "e": element(0, "b"), "a": attribute(0, "x", "v"), "t": text(0, "v"), "c": comment(0, "v"), "i": instruction(0, "p", "v")}
	below := map[string]string{"r": "", "e": "e a t c i", "a": "", "t": "", "c": "", "i": ""}
	for upper, lowers := range below {
		for lower := range strings.FieldsSeq(all) {
			up, low := kinds[upper], kinds[lower]
			up.Parent, low.Parent = 1, 2
			want := api.ErrShape
			if strings.Contains(lowers, lower) {
				want = api.OK
			}
			wantCheck(t, within(up, low), want)
		}
	}
	for lower := range strings.FieldsSeq(all) {
		low := kinds[lower]
		low.Parent = 0
		want := api.ErrShape
		if lower == "c" || lower == "i" {
			want = api.OK
		}
		wantCheck(t, []api.Node{root, element(0, "a"), low}, want)
		low.Parent = 1
		if lower != "r" {
			want = api.OK
		}
		wantCheck(t, within(low), want)
	}
}

// P6.1: nodes of kinds that are none.
func TestKindsThatAreNone(t *testing.T) {
	for kind := range 256 {
		want := api.ErrShape
		if api.Kind(kind) == api.Comment {
			want = api.OK
		}
		wantCheck(t, within(api.Node{Kind: api.Kind(kind), Parent: 1}), want)
		wantFragment(t, []api.Node{{Kind: api.Kind(kind), Parent: -1}}, want)
	}
}

// P6.1: names, and what has none.
func TestNames(t *testing.T) {
	long := strings.Repeat("a", api.MaxName)
	for _, c := range []struct {
		name                    string
		plain, instruction, not api.Errno
	}{
		{"", api.ErrShape, api.ErrShape, api.OK},
		{"b", api.OK, api.OK, api.ErrShape},
		{"é", api.OK, api.OK, api.ErrShape},
		{"x-y.z", api.OK, api.OK, api.ErrShape},
		{"1", api.ErrShape, api.ErrShape, api.ErrShape},
		{"-", api.ErrShape, api.ErrShape, api.ErrShape},
		{"a:b", api.ErrShape, api.ErrShape, api.ErrShape},
		{"a b", api.ErrShape, api.ErrShape, api.ErrShape},
		{"\xff", api.ErrShape, api.ErrShape, api.ErrShape},
		{long, api.OK, api.OK, api.ErrShape},
		{long + "a", api.ErrShape, api.ErrShape, api.ErrShape},
		{"xml", api.OK, api.ErrShape, api.ErrShape},
		{"XML", api.OK, api.ErrShape, api.ErrShape},
		{"xMl", api.OK, api.ErrShape, api.ErrShape},
		{"Xml", api.OK, api.ErrShape, api.ErrShape},
		{"xml-", api.OK, api.OK, api.ErrShape},
		{"xm", api.OK, api.OK, api.ErrShape},
		{"_xml", api.OK, api.OK, api.ErrShape},
	} {
		wantCheck(t, within(element(1, c.name)), c.plain)
		wantCheck(t, within(attribute(1, c.name, "")), c.plain)
		wantCheck(t, within(instruction(1, c.name, "")), c.instruction)
		wantCheck(t, within(api.Node{Kind: api.Text, Name: c.name, Value: "t", Parent: 1}), c.not)
		wantCheck(t, within(api.Node{Kind: api.Comment, Name: c.name, Parent: 1}), c.not)
		wantCheck(t, []api.Node{{Kind: api.Root, Name: c.name, Parent: -1}, element(0, "a")}, c.not)
	}
}

// P6.1: values, and what has none.
func TestValues(t *testing.T) {
	long := strings.Repeat("é", api.MaxText/2)
	const ok, no = api.OK, api.ErrShape
	for _, c := range []struct {
		value                                 string
		attribute, text, comment, instruction api.Errno
	}{
		{"", ok, no, ok, ok},
		{"t", ok, ok, ok, ok},
		{" ", ok, ok, ok, no},
		{"\tt", ok, ok, ok, no},
		{"\nt", ok, ok, ok, no},
		{"\rt", ok, ok, ok, no},
		{" t", ok, ok, ok, no},
		{"t ", ok, ok, ok, ok},
		{"\u00a0t", ok, ok, ok, ok},
		{"é", ok, ok, ok, ok},
		{"<&\"'>]]>", ok, ok, ok, ok},
		{"-", ok, ok, no, ok},
		{"--", ok, ok, no, ok},
		{"---", ok, ok, no, ok},
		{"-t", ok, ok, ok, ok},
		{"t-", ok, ok, no, ok},
		{"--t", ok, ok, no, ok},
		{"t--t", ok, ok, no, ok},
		{"t-t", ok, ok, ok, ok},
		{"- -t", ok, ok, ok, ok},
		{"- -", ok, ok, no, ok},
		{"?>", ok, ok, ok, no},
		{"t?>t", ok, ok, ok, no},
		{"t??>", ok, ok, ok, no},
		{"?", ok, ok, ok, ok},
		{">?", ok, ok, ok, ok},
		{"? >", ok, ok, ok, ok},
		{"\x00", no, no, no, no},
		{"t\x1f", no, no, no, no},
		{"\xff", no, no, no, no},
		{"t\xc3", no, no, no, no},
		{"\ufffe", no, no, no, no},
		{long, ok, ok, ok, ok},
		{long + "t", no, no, no, no},
		{long[2:] + "tt", ok, ok, ok, ok},
		{strings.Repeat("\x00", api.MaxText), no, no, no, no},
	} {
		wantCheck(t, within(attribute(1, "x", c.value)), c.attribute)
		wantCheck(t, within(text(1, c.value)), c.text)
		wantCheck(t, within(comment(1, c.value)), c.comment)
		wantCheck(t, []api.Node{root, comment(0, c.value), element(0, "a")}, c.comment)
		wantCheck(t, within(instruction(1, "p", c.value)), c.instruction)
		wantFragment(t, []api.Node{instruction(-1, "p", c.value)}, c.instruction)
		want := no
		if c.value == "" {
			want = ok
		}
		wantCheck(t, within(api.Node{Kind: api.Element, Name: "b", Value: c.value, Parent: 1}), want)
		wantCheck(t, []api.Node{{Kind: api.Root, Value: c.value, Parent: -1}, element(0, "a")}, want)
	}
}

// P6.1: attributes stand right behind their element, each with a name of its own.
func TestAttributesPlaces(t *testing.T) {
	x, y := attribute(1, "x", ""), attribute(1, "y", "")
	for _, row := range [][]api.Node{
		within(x),
		within(x, y),
		within(attribute(1, "a", "")),
		within(x, y, element(1, "b"), attribute(4, "x", ""), attribute(4, "y", "")),
		within(x, element(1, "b"), attribute(3, "x", ""), element(1, "c"), attribute(5, "x", ""), element(5, "d"), attribute(7, "x", "")),
	} {
		wantCheck(t, row, api.OK)
	}
	for _, row := range [][]api.Node{
		within(x, x),
		within(x, y, x),
		within(x, y, y),
		within(x, attribute(1, "x", "1")),
		within(text(1, "t"), x),
		within(x, comment(1, ""), y),
		within(element(1, "b"), x),
		within(element(1, "b"), attribute(2, "x", ""), y),
		within(x, attribute(2, "y", "")),
		within(x, y, element(1, "b"), attribute(4, "x", ""), attribute(4, "y", ""), attribute(4, "x", "")),
		{root, attribute(0, "x", ""), element(0, "a")},
		{root, element(0, "a"), attribute(0, "x", "")},
	} {
		wantCheck(t, row, api.ErrShape)
	}
	wantFragment(t, []api.Node{element(-1, "a"), attribute(0, "x", ""), element(-1, "b"), attribute(2, "x", "")}, api.OK)
	wantFragment(t, []api.Node{element(-1, "a"), attribute(0, "x", ""), attribute(0, "x", "")}, api.ErrShape)
}

// P6.1: no two Texts are beside each other; others between them, with all below these, part them, attributes do not.
func TestTextsPlaces(t *testing.T) {
	for _, between := range [][]api.Node{
		{element(1, "b")},
		{comment(1, "")},
		{instruction(1, "p", "")},
		{element(1, "b"), attribute(3, "x", ""), text(3, "v"), element(3, "c"), text(6, "w")},
	} {
		wantCheck(t, append(within(text(1, "t")), append(between, text(1, "u"))...), api.OK)
	}
	wantCheck(t, within(attribute(1, "x", ""), text(1, "t")), api.OK)
	wantCheck(t, within(element(1, "b"), text(2, "t"), text(1, "u")), api.OK)
	for _, row := range [][]api.Node{
		within(text(1, "t"), text(1, "t")),
		within(text(1, "t"), text(1, "")),
		within(text(1, "t"), comment(2, ""), text(1, "u")),
		within(text(1, "t"), attribute(1, "x", ""), text(1, "u")),
		within(text(1, "t"), text(2, "u")),
		within(element(1, "b"), text(2, "t"), text(2, "u")),
		within(comment(1, ""), text(1, "t"), text(1, "u"), comment(1, "")),
	} {
		wantCheck(t, row, api.ErrShape)
	}
}

// nested is so many elements within one another below a parent, the first of them at a place.
func nested(parent, at, n int) []api.Node {
	var out []api.Node
	for i := range n {
		out = append(out, element(parent, "a"))
		parent = at + i
	}
	return out
}

// P6.1 and Limits: 60 elements deep.
func TestDepth(t *testing.T) {
	for _, c := range []struct {
		n    int
		want api.Errno
	}{{1, api.OK}, {api.MaxDepth, api.OK}, {api.MaxDepth + 1, api.ErrDeep}, {api.MaxDepth + 2, api.ErrDeep}, {api.MaxNodes - 1, api.ErrDeep}} {
		wantCheck(t, append([]api.Node{root}, nested(0, 1, c.n)...), c.want)
		wantFragment(t, nested(-1, 0, c.n), c.want)
		row := nested(-1, 0, c.n)
		if got := tree.End(row, 0); got != len(row) && c.want == api.OK || got != 0 && c.want != api.OK {
			t.Errorf("End of %d elements within one another = %d", c.n, got)
		}
	}
	// What is no element does not count, nor what was left.
	deepest := append([]api.Node{root}, nested(0, 1, api.MaxDepth)...)
	wantCheck(t, append(deepest, attribute(api.MaxDepth, "x", ""), text(api.MaxDepth, "t"), comment(api.MaxDepth, ""), instruction(api.MaxDepth, "p", "")), api.OK)
	wantCheck(t, append(deepest, element(api.MaxDepth-1, "b")), api.OK)
	wantCheck(t, append(deepest, comment(1, ""), element(1, "b")), api.OK)
	wantCheck(t, append(append(deepest, element(2, "b")), nested(61, 62, api.MaxDepth-3)...), api.OK)
	wantCheck(t, append(append(deepest, element(2, "b")), nested(61, 62, api.MaxDepth-2)...), api.ErrDeep)
	wantFragment(t, append(nested(-1, 0, 60), nested(-1, 60, 60)...), api.OK)
	wantFragment(t, append(nested(-1, 0, 60), nested(-1, 60, 61)...), api.ErrDeep)
}

// Errors: ErrLong counts ahead of ErrShape, ErrShape ahead of ErrDeep, wherever the faults stand.
func TestErrorsInOrder(t *testing.T) {
	deep := append([]api.Node{root}, nested(0, 1, api.MaxDepth+1)...)
	for _, row := range [][]api.Node{
		append(slices.Clone(deep), text(1, "")),
		append(slices.Clone(deep), element(0, "b")),
		append(slices.Clone(deep), element(-1, "b")),
		append(slices.Clone(deep), element(99, "b")),
		append([]api.Node{root, text(0, "t")}, nested(0, 2, api.MaxDepth+1)...),
		nested(-1, 0, api.MaxDepth+1),
	} {
		wantCheck(t, row, api.ErrShape)
	}
	wantFragment(t, deep, api.ErrShape)
	wantFragment(t, append(nested(-1, 0, api.MaxDepth+1), attribute(-1, "x", "")), api.ErrShape)
	for _, row := range [][]api.Node{
		append([]api.Node{root}, nested(0, 1, api.MaxNodes)...),
		make([]api.Node, api.MaxNodes+1),
		make([]api.Node, 2*api.MaxNodes),
	} {
		wantCheck(t, row, api.ErrLong)
		wantFragment(t, row, api.ErrLong)
	}
	wantCheck(t, make([]api.Node, api.MaxNodes), api.ErrShape)
	wantFragment(t, make([]api.Node, api.MaxNodes), api.ErrShape)
}

// broad is a document of so many nodes, whose one element has comments.
func broad(n int) []api.Node {
	out := within()
	for len(out) < n {
		out = append(out, comment(1, "c"))
	}
	return out
}

// Limits: 2^14 nodes.
func TestNodesLimit(t *testing.T) {
	most := broad(api.MaxNodes)
	wantCheck(t, most, api.OK)
	wantCheck(t, broad(api.MaxNodes+1), api.ErrLong)
	wantEnd(t, most, 1, api.MaxNodes)
	wantEnd(t, most, api.MaxNodes-1, api.MaxNodes)
	if n := len(tree.Kids(most, 1)); n != api.MaxNodes-2 {
		t.Errorf("%d children", n)
	}
	if n := len(tree.Part(most, 1)); n != api.MaxNodes-1 {
		t.Errorf("a part of %d nodes", n)
	}
	if n := len(tree.Merge(most)); n != api.MaxNodes {
		t.Errorf("%d nodes are merged", n)
	}
	wantNothing(t, broad(api.MaxNodes+1), 1)
	if l := tree.Merge(broad(api.MaxNodes + 1)); len(l) > 0 {
		t.Errorf("of too many nodes %d are merged", len(l))
	}
	part := tree.Part(most, 1)
	wantFragment(t, part, api.OK)
	wantFragment(t, append(part, comment(-1, "")), api.OK)
	wantFragment(t, append(part, comment(-1, ""), comment(-1, "")), api.ErrLong)
}

// R1: the widest rows are told in no more than their length asks for.
func TestWideRows(t *testing.T) {
	named := within()
	for len(named) < api.MaxNodes {
		named = append(named, attribute(1, "x"+strconv.Itoa(len(named)), ""))
	}
	for range 20 {
		wantCheck(t, named, api.OK)
	}
	named[len(named)-1].Name = named[2].Name
	wantCheck(t, named, api.ErrShape)

	piece := strings.Repeat("t", 1<<12)
	texts := within()
	for len(texts) < api.MaxNodes {
		texts = append(texts, text(1, piece))
	}
	merged := tree.Merge(texts)
	if len(merged) != 3 || merged[2].Value != strings.Repeat(piece, api.MaxNodes-2) {
		t.Errorf("%d nodes are left of Texts", len(merged))
	}
	inOneAnother := []api.Node{text(-1, "")}
	for len(inOneAnother) < api.MaxNodes {
		inOneAnother = append(inOneAnother, text(len(inOneAnother)-1, "t"))
	}
	if merged := tree.Merge(inOneAnother); !slices.Equal(merged, inOneAnother) {
		t.Errorf("%d nodes are left of Texts in one another", len(merged))
	}
}

// P6.2: children, attributes, ends, texts and parts of a document.
func TestNodes(t *testing.T) {
	x := []api.Node{root, comment(0, "c"), element(0, "a"), attribute(2, "x", "1"), attribute(2, "y", ""), text(2, "t"), element(2, "b"), attribute(6, "x", "2"), comment(6, "d"), text(6, "u"), element(6, "c"), element(2, "d"), instruction(2, "p", "e"), text(2, "v"), instruction(0, "q", "")}
	wantCheck(t, x, api.OK)
	for at, c := range []struct {
		kids, attributes []int
		end              int
		text             string
	}{
		{[]int{1, 2, 14}, nil, 15, "tuv"},
		{nil, nil, 2, "c"},
		{[]int{5, 6, 11, 12, 13}, []int{3, 4}, 14, "tuv"},
		{nil, nil, 4, "1"},
		{nil, nil, 5, ""},
		{nil, nil, 6, "t"},
		{[]int{8, 9, 10}, []int{7}, 11, "u"},
		{nil, nil, 8, "2"},
		{nil, nil, 9, "d"},
		{nil, nil, 10, "u"},
		{nil, nil, 11, ""},
		{nil, nil, 12, ""},
		{nil, nil, 13, "e"},
		{nil, nil, 14, "v"},
		{nil, nil, 15, ""},
	} {
		wantPlaces(t, "Kids", at, tree.Kids(x, at), c.kids)
		wantPlaces(t, "Attributes", at, tree.Attributes(x, at), c.attributes)
		wantEnd(t, x, at, c.end)
		wantText(t, x, at, c.text)
	}
	wantPart(t, x, 6, element(-1, "b"), attribute(0, "x", "2"), comment(0, "d"), text(0, "u"), element(0, "c"))
	wantPart(t, x, 1, comment(-1, "c"))
	wantPart(t, x, 3, attribute(-1, "x", "1"))
	wantPart(t, x, 14, instruction(-1, "q", ""))
	wantPart(t, x, 0, x...)
}

// P6.2: the same of fragments.
func TestNodesOfFragments(t *testing.T) {
	x := []api.Node{text(-1, "t"), element(-1, "a"), attribute(1, "x", "1"), text(1, "u"), element(-1, "b"), element(4, "c"), text(5, "v"), comment(-1, "d")}
	wantFragment(t, x, api.OK)
	wantEnd(t, x, 0, 1)
	wantEnd(t, x, 1, 4)
	wantEnd(t, x, 4, 7)
	wantEnd(t, x, 7, 8)
	wantText(t, x, 1, "u")
	wantText(t, x, 4, "v")
	wantText(t, x, 7, "d")
	wantPlaces(t, "Kids", 1, tree.Kids(x, 1), []int{3})
	wantPlaces(t, "Attributes", 1, tree.Attributes(x, 1), []int{2})
	wantPart(t, x, 4, element(-1, "b"), element(0, "c"), text(1, "v"))
	wantPart(t, x, 1, element(-1, "a"), attribute(0, "x", "1"), text(0, "u"))
	wantPart(t, x, 0, text(-1, "t"))
}

// P6.2: of rows that are not right, and of places that are none, nothing is told.
func TestNothing(t *testing.T) {
	for _, at := range []int{-1, -2, 6, 7, 1 << 14, 1 << 32, math.MaxInt, math.MinInt} {
		wantNothing(t, example(), at)
	}
	for _, at := range []int{-1, 0, 1} {
		wantNothing(t, nil, at)
	}
	for _, row := range [][]api.Node{
		{root},
		within(text(1, "t"), text(1, "u")),
		within(comment(1, "--")),
		within(attribute(1, "x", ""), attribute(1, "x", "")),
		append(example(), element(0, "c")),
		append(example(), element(5, "c")),
		append(example(), element(3, "c")),
		append(example(), element(-1, "c")),
		append(example(), element(1, "")),
		{element(-1, "a"), attribute(-1, "x", "")},
		{element(-1, "a"), root},
		append([]api.Node{root}, nested(0, 1, api.MaxDepth+1)...),
		nested(-1, 0, api.MaxDepth+1),
		broad(api.MaxNodes + 1),
	} {
		for at := range min(len(row), 5) {
			wantNothing(t, row, at)
		}
	}
}

// P6.3: Texts that are empty go, Texts beside each other are joined.
func TestMerge(t *testing.T) {
	for _, c := range []struct {
		row, want []api.Node
	}{
		{nil, nil},
		{[]api.Node{}, nil},
		{example(), example()},
		{within(text(1, "")), within()},
		{within(text(1, "t"), text(1, "u")), within(text(1, "tu"))},
		{within(text(1, "t"), text(1, "u"), text(1, "v"), text(1, "w")), within(text(1, "tuvw"))},
		{within(text(1, ""), text(1, "t"), text(1, ""), text(1, ""), text(1, "u"), text(1, "")), within(text(1, "tu"))},
		{within(text(1, "t"), element(1, "b"), text(1, "u")), within(text(1, "t"), element(1, "b"), text(1, "u"))},
		{within(text(1, "t"), comment(1, ""), text(1, "u")), within(text(1, "t"), comment(1, ""), text(1, "u"))},
		{within(text(1, "t"), element(1, "b"), text(3, "u"), text(1, "v")), within(text(1, "t"), element(1, "b"), text(3, "u"), text(1, "v"))},
		{within(text(1, "t"), element(1, "b"), text(3, ""), text(1, "v")), within(text(1, "t"), element(1, "b"), text(1, "v"))},
		{within(text(1, ""), element(1, "b"), text(3, "t"), text(3, "u"), element(3, "c"), text(6, "v"), text(6, "w")), within(element(1, "b"), text(2, "tu"), element(2, "c"), text(4, "vw"))},
		{[]api.Node{text(-1, "t"), text(-1, "u"), element(-1, "a"), text(2, ""), comment(2, "c"), text(-1, ""), text(-1, "v"), text(-1, "w")}, []api.Node{text(-1, "tu"), element(-1, "a"), comment(1, "c"), text(-1, "vw")}},
		{[]api.Node{root, text(0, "t"), text(0, "u"), element(0, "a")}, []api.Node{root, text(0, "tu"), element(0, "a")}},
	} {
		wantMerge(t, c.row, c.want)
	}
}

// P6.3: attributes are nobody's siblings, wherever they stand; what is below them is nobody's but its own.
func TestMergeAttributes(t *testing.T) {
	x := attribute(1, "x", "")
	wantMerge(t, within(text(1, "t"), x, text(1, "u")), within(text(1, "tu"), x))
	wantMerge(t, within(text(1, ""), x, text(1, "u")), within(x, text(1, "u")))
	wantMerge(t, within(text(1, "t"), x, element(3, "b"), text(4, "v"), text(4, "w"), text(1, "u"), text(1, "s")), within(text(1, "tus"), x, element(3, "b"), text(4, "vw")))
	wantMerge(t, within(text(1, "t"), x, element(1, "b"), x, text(1, "u")), within(text(1, "t"), x, element(1, "b"), x, text(1, "u")))
}

// P6.3: a Text that has nodes below it is left as it is, and none is joined to it.
func TestMergeTextsAboveNodes(t *testing.T) {
	for _, row := range [][]api.Node{
		within(text(1, "t"), comment(2, "")),
		within(text(1, ""), comment(2, "")),
		within(text(1, ""), attribute(2, "x", "")),
		within(text(1, "t"), text(1, "u"), comment(3, "")),
		within(text(1, "t"), comment(2, ""), text(1, "u")),
		within(text(1, "t"), comment(2, ""), text(1, ""), comment(4, ""), text(1, "u")),
		within(text(1, "t"), text(2, "u"), text(1, "v")),
	} {
		wantMerge(t, row, row)
	}
	wantMerge(t, within(text(1, "t"), comment(2, ""), text(1, ""), text(1, "u"), text(1, "v")), within(text(1, "t"), comment(2, ""), text(1, "uv")))
	// It is left, too, if what was below it goes.
	wantMerge(t, within(text(1, "s"), text(1, ""), text(3, ""), text(1, "t")), within(text(1, "s"), text(1, ""), text(1, "t")))
	wantMerge(t, within(text(1, "s"), text(1, "t"), text(3, ""), text(1, "u")), within(text(1, "s"), text(1, "t"), text(1, "u")))
}

// P6.3: rows that are in order are merged, whatever their nodes are; others are not.
func TestMergeOfWrongRows(t *testing.T) {
	odd := []api.Node{{Kind: 9, Name: "-", Value: "\xff", Parent: -1}, {Kind: api.Text, Name: "n", Value: "\x00", Parent: 0}, {Kind: api.Text, Name: "m", Value: "\xff", Parent: 0}, {Parent: 0}, root, {Kind: api.Attribute, Parent: -1}}
	wantMerge(t, odd, []api.Node{odd[0], {Kind: api.Text, Name: "n", Value: "\x00\xff", Parent: 0}, {Parent: 0}, root, odd[5]})
	wantMerge(t, nested(-1, 0, api.MaxDepth+1), nested(-1, 0, api.MaxDepth+1))
	long := strings.Repeat("t", api.MaxText)
	wantMerge(t, within(text(1, long), text(1, long)), within(text(1, long+long)))
	wantMerge(t, []api.Node{text(0, "t")}, nil)
	wantMerge(t, within(text(1, "t"), text(5, "u")), nil)
	wantMerge(t, within(text(1, "t"), text(-2, "u")), nil)
	wantMerge(t, within(element(1, "b"), text(1, "t"), text(2, "u")), nil)
	wantMerge(t, broad(api.MaxNodes+1), nil)
}

// P6.4: each axis of each node of a document.
func TestAxes(t *testing.T) {
	x := []api.Node{root, comment(0, "c"), element(0, "a"), attribute(2, "x", "1"), attribute(2, "y", ""), text(2, "t"), element(2, "b"), attribute(6, "x", "2"), text(6, "u"), element(6, "c"), element(2, "d"), instruction(0, "q", "")}
	wantCheck(t, x, api.OK)
	wantGo(t, x, 0, api.Child, 1, 2, 11)
	wantGo(t, x, 2, api.Child, 5, 6, 10)
	wantGo(t, x, 3, api.Child)
	wantGo(t, x, 2, api.AttributeAxis, 3, 4)
	wantGo(t, x, 0, api.AttributeAxis)
	wantGo(t, x, 3, api.AttributeAxis)
	wantGo(t, x, 0, api.Self, 0)
	wantGo(t, x, 4, api.Self, 4)
	wantGo(t, x, 0, api.Parent)
	wantGo(t, x, 2, api.Parent, 0)
	wantGo(t, x, 7, api.Parent, 6)
	wantGo(t, x, 0, api.Ancestor)
	wantGo(t, x, 9, api.Ancestor, 6, 2, 0)
	wantGo(t, x, 7, api.Ancestor, 6, 2, 0)
	wantGo(t, x, 0, api.AncestorOrSelf, 0)
	wantGo(t, x, 9, api.AncestorOrSelf, 9, 6, 2, 0)
	wantGo(t, x, 7, api.AncestorOrSelf, 7, 6, 2, 0)
	wantGo(t, x, 0, api.Descendant, 1, 2, 5, 6, 8, 9, 10, 11)
	wantGo(t, x, 2, api.Descendant, 5, 6, 8, 9, 10)
	wantGo(t, x, 3, api.Descendant)
	wantGo(t, x, 6, api.DescendantOrSelf, 6, 8, 9)
	wantGo(t, x, 3, api.DescendantOrSelf, 3)
	wantGo(t, x, 0, api.FollowingSibling)
	wantGo(t, x, 1, api.FollowingSibling, 2, 11)
	wantGo(t, x, 5, api.FollowingSibling, 6, 10)
	wantGo(t, x, 10, api.FollowingSibling)
	wantGo(t, x, 3, api.FollowingSibling)
	wantGo(t, x, 7, api.FollowingSibling)
	wantGo(t, x, 11, api.PrecedingSibling, 2, 1)
	wantGo(t, x, 10, api.PrecedingSibling, 6, 5)
	wantGo(t, x, 5, api.PrecedingSibling)
	wantGo(t, x, 4, api.PrecedingSibling)
	wantGo(t, x, 0, api.Following)
	wantGo(t, x, 1, api.Following, 2, 5, 6, 8, 9, 10, 11)
	wantGo(t, x, 3, api.Following, 5, 6, 8, 9, 10, 11)
	wantGo(t, x, 7, api.Following, 8, 9, 10, 11)
	wantGo(t, x, 6, api.Following, 10, 11)
	wantGo(t, x, 2, api.Following, 11)
	wantGo(t, x, 0, api.Preceding)
	wantGo(t, x, 2, api.Preceding, 1)
	wantGo(t, x, 4, api.Preceding, 1)
	wantGo(t, x, 7, api.Preceding, 5, 1)
	wantGo(t, x, 10, api.Preceding, 9, 8, 6, 5, 1)
	wantGo(t, x, 11, api.Preceding, 10, 9, 8, 6, 5, 2, 1)
	for axis := 0; axis < 256; axis++ {
		if axis == 0 || axis > int(api.AncestorOrSelf) {
			wantGo(t, x, 2, api.Axis(axis))
		}
	}
}

// P6.4: the tops of a fragment are siblings of each other, and follow each other.
func TestAxesOfFragments(t *testing.T) {
	x := []api.Node{text(-1, "t"), element(-1, "a"), attribute(1, "x", "1"), text(1, "u"), element(-1, "b"), element(4, "c"), comment(-1, "d")}
	wantFragment(t, x, api.OK)
	wantGo(t, x, 1, api.Parent)
	wantGo(t, x, 1, api.Ancestor)
	wantGo(t, x, 1, api.AncestorOrSelf, 1)
	wantGo(t, x, 5, api.Ancestor, 4)
	wantGo(t, x, 0, api.FollowingSibling, 1, 4, 6)
	wantGo(t, x, 6, api.PrecedingSibling, 4, 1, 0)
	wantGo(t, x, 4, api.FollowingSibling, 6)
	wantGo(t, x, 5, api.FollowingSibling)
	wantGo(t, x, 1, api.Following, 4, 5, 6)
	wantGo(t, x, 2, api.Following, 3, 4, 5, 6)
	wantGo(t, x, 5, api.Preceding, 3, 1, 0)
	wantGo(t, x, 2, api.Preceding, 0)
	wantGo(t, x, 4, api.Descendant, 5)
}

// P6.5: each test at a node of each kind, on each axis.
func TestTakes(t *testing.T) {
	x := within(attribute(1, "x", "a"), text(1, "x"), comment(1, "x"), instruction(1, "p", "x"))
	wantCheck(t, x, api.OK)
	type taking struct {
		at   int
		test api.Test
		name string
	}
	always := map[taking]bool{{3, api.TestText, ""}: true, {3, api.TestText, "x"}: true, {4, api.TestComment, ""}: true, {4, api.TestComment, "x"}: true, {5, api.TestInstruction, ""}: true, {5, api.TestInstruction, "p"}: true, {3, api.TestText, "a"}: true, {3, api.TestText, "p"}: true, {4, api.TestComment, "a"}: true, {4, api.TestComment, "p"}: true}
	others := map[taking]bool{{1, api.TestName, "a"}: true, {1, api.TestAny, ""}: true, {1, api.TestAny, "a"}: true, {1, api.TestAny, "x"}: true, {1, api.TestAny, "p"}: true}
	attributes := map[taking]bool{{2, api.TestName, "x"}: true, {2, api.TestAny, ""}: true, {2, api.TestAny, "x"}: true, {2, api.TestAny, "a"}: true, {2, api.TestAny, "p"}: true}
	for axis := range 256 {
		byAxis := others
		if api.Axis(axis) == api.AttributeAxis {
			byAxis = attributes
		}
		for test := range 256 {
			if test > 8 && test < 255 && axis > 13 {
				continue
			}
			for at := range x {
				for _, name := range []string{"", "a", "x", "p"} {
					c := taking{at, api.Test(test), name}
					want := c.test == api.TestNode || always[c] || byAxis[c]
					if got := tree.Takes(x, at, api.Axis(axis), c.test, name); got != want {
						t.Errorf("Takes(%d, axis %d, test %d, %q) = %v", at, axis, test, name, got)
					}
				}
			}
		}
	}
	if !tree.Takes(tree.Part(x, 1), 0, api.Child, api.TestName, "a") {
		t.Error("a fragment's element is not taken")
	}
}

// R3: what is handed in is not changed, its spare room neither.
func TestRowsAreNotChanged(t *testing.T) {
	for _, row := range [][]api.Node{example(), within(text(1, "t"), text(1, ""), text(1, "u"), comment(1, "")), tree.Part(example(), 1), within(text(5, ""))} {
		room := append(make([]api.Node, 0, 32), row...)
		for i := len(room); i < cap(room); i++ {
			room[:cap(room)][i] = text(i, "spare")
		}
		before := slices.Clone(room[:cap(room)])
		tellAll(room)
		if !slices.Equal(room[:cap(room)], before) {
			t.Errorf("%v was changed", row)
		}
	}
}

// tellAll calls all that is there, with all places and axes, and fills what is handed out, and its spare room, with other things.
func tellAll(row []api.Node) {
	tree.Check(row)
	tree.Fragment(row)
	spoil(tree.Merge(row), text(-5, "spoilt"))
	for at := range row {
		tree.End(row, at)
		tree.Text(row, at)
		spoil(tree.Kids(row, at), -5)
		spoil(tree.Attributes(row, at), -5)
		spoil(tree.Part(row, at), text(-5, "spoilt"))
		for axis := range api.AncestorOrSelf + 1 {
			spoil(tree.Go(row, at, axis), -5)
			tree.Takes(row, at, axis, api.TestName, "a")
		}
	}
}

func spoil[T any](list []T, with T) {
	list = list[:cap(list)]
	for i := range list {
		list[i] = with
	}
}

// R3, R4: what is handed out is new, and nothing is kept: answers stay as they are whatever is done to others and to the row, and a later call tells what the row is then.
func TestAnswersAreNew(t *testing.T) {
	x := within(text(1, "t"), element(1, "b"), text(3, "u"))
	places := [][]int{tree.Kids(x, 1), tree.Go(x, 0, api.Descendant), tree.Go(x, 4, api.AncestorOrSelf), tree.Go(x, 4, api.Preceding)}
	rows := [][]api.Node{tree.Part(x, 0), tree.Part(x, 1), tree.Merge(x)}
	want := [][]int{{2, 3}, {1, 2, 3, 4}, {4, 3, 1, 0}, {2}}
	wantRows := [][]api.Node{slices.Clone(x), {element(-1, "a"), text(0, "t"), element(0, "b"), text(2, "u")}, slices.Clone(x)}
	tellAll(x)
	x[3] = comment(1, "c")
	x[4] = comment(1, "d")
	for i := range places {
		if !slices.Equal(places[i], want[i]) {
			t.Errorf("answer %d is %v now", i, places[i])
		}
	}
	for i := range rows {
		if !slices.Equal(rows[i], wantRows[i]) {
			t.Errorf("row %d is %v now", i, rows[i])
		}
	}
	wantPlaces(t, "Kids", 1, tree.Kids(x, 1), []int{2, 3, 4})
}

func wantCheck(t *testing.T, row []api.Node, want api.Errno) {
	t.Helper()
	if got := tree.Check(row); got != want {
		t.Errorf("Check(%.300s) = %d, want %d", show(row), got, want)
	}
}

func wantFragment(t *testing.T, row []api.Node, want api.Errno) {
	t.Helper()
	if got := tree.Fragment(row); got != want {
		t.Errorf("Fragment(%.300s) = %d, want %d", show(row), got, want)
	}
}

func wantText(t *testing.T, row []api.Node, at int, want string) {
	t.Helper()
	if got := tree.Text(row, at); got != want {
		t.Errorf("Text(%.300s, %d) = %q", show(row), at, got)
	}
}

func wantEnd(t *testing.T, row []api.Node, at, want int) {
	t.Helper()
	if got := tree.End(row, at); got != want {
		t.Errorf("End(%.300s, %d) = %d, want %d", show(row), at, got, want)
	}
}

func wantGo(t *testing.T, row []api.Node, at int, axis api.Axis, want ...int) {
	t.Helper()
	if got := tree.Go(row, at, axis); !slices.Equal(got, want) {
		t.Errorf("Go(%d, axis %d) = %v, want %v", at, axis, got, want)
	}
}

func wantPlaces(t *testing.T, call string, at int, got, want []int) {
	t.Helper()
	if !slices.Equal(got, want) {
		t.Errorf("%s(%d) = %v, want %v", call, at, got, want)
	}
}

func wantPart(t *testing.T, row []api.Node, at int, want ...api.Node) {
	t.Helper()
	if got := tree.Part(row, at); !slices.Equal(got, want) {
		t.Errorf("Part(%.300s, %d) = %.300s", show(row), at, show(got))
	}
}

func wantMerge(t *testing.T, row, want []api.Node) {
	t.Helper()
	if got := tree.Merge(row); !slices.Equal(got, want) {
		t.Errorf("Merge(%.300s) = %.300s, want %.300s", show(row), show(got), show(want))
	}
}

// wantNothing: what tells of nodes tells nothing there.
func wantNothing(t *testing.T, row []api.Node, at int) {
	t.Helper()
	kids, attributes, part := tree.Kids(row, at), tree.Attributes(row, at), tree.Part(row, at)
	if len(kids) > 0 || len(attributes) > 0 || len(part) > 0 || tree.End(row, at) != 0 || tree.Text(row, at) != "" {
		t.Errorf("%.300s: something is told of %d", show(row), at)
	}
	for axis := range api.AncestorOrSelf + 2 {
		if l := tree.Go(row, at, axis); len(l) > 0 {
			t.Errorf("%.300s: Go(%d, axis %d) = %v", show(row), at, axis, l)
		}
	}
	for test := range api.TestInstruction + 2 {
		for _, name := range []string{"", "a", "x"} {
			if tree.Takes(row, at, api.Child, test, name) || tree.Takes(row, at, api.AttributeAxis, test, name) {
				t.Errorf("%.300s: %d is taken by test %d", show(row), at, test)
			}
		}
	}
}

// show is a row as a text: of each node its kind, Name, Value and Parent.
func show(row []api.Node) string {
	var out strings.Builder
	for i, n := range row {
		if i == 10 {
			return out.String() + " and more"
		}
		value := n.Value
		if len(value) > 20 {
			value = value[:20] + ".."
		}
		out.WriteString("[" + strconv.Itoa(int(n.Kind)) + " " + strconv.Quote(n.Name) + " " + strconv.Quote(value) + " " + strconv.Itoa(n.Parent) + "]")
	}
	return out.String()
}
