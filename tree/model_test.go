package tree_test

import (
	"math/rand"
	"slices"
	"strings"
	"testing"

	"parchment/api"
	"parchment/chars"
	"parchment/tree"
)

// The model says what the chapter's words say, each node by itself, and asks for nothing but that.

// modelOpen is the nodes that are open at a place: the one right ahead, its parent, and so on.
func modelOpen(row []api.Node, at int) []int {
	var out []int
	for open := at - 1; open >= 0; open = row[open].Parent {
		out = append(out, open)
	}
	return out
}

func modelInOrder(row []api.Node) bool {
	for i, n := range row {
		if n.Parent != -1 && !slices.Contains(modelOpen(row, i), n.Parent) {
			return false
		}
	}
	return true
}

// modelAbove is a node's parent, that one's parent, and so on.
func modelAbove(row []api.Node, at int) []int {
	if row[at].Parent < 0 {
		return nil
	}
	return append([]int{row[at].Parent}, modelAbove(row, row[at].Parent)...)
}

func modelDeep(row []api.Node, at int) int {
	n := 0
	for _, up := range append(modelAbove(row, at), at) {
		if row[up].Kind == api.Element {
			n++
		}
	}
	return n
}

// modelSiblings is all of a node, itself among them; of an attribute none.
func modelSiblings(row []api.Node, at int) []int {
	if row[at].Kind == api.Attribute {
		return nil
	}
	return modelWhere(row, func(i int) bool { return row[i].Parent == row[at].Parent })
}

// modelWhere is the places of nodes that are no attributes, and of which something holds.
func modelWhere(row []api.Node, holds func(int) bool) []int {
	var out []int
	for i, n := range row {
		if n.Kind != api.Attribute && holds(i) {
			out = append(out, i)
		}
	}
	return out
}

// modelFits is the table of the chapter, row by row, but for the depth.
func modelFits(row []api.Node, at int) bool {
	n := row[at]
	parent := api.Kind(0)
	if n.Parent >= 0 {
		parent = row[n.Parent].Kind
	}
	under := func(kinds ...api.Kind) bool { return slices.Contains(kinds, parent) }
	isText := chars.Texts(n.Value) && len(n.Value) <= api.MaxText
	switch n.Kind {
	case api.Root:
		return n.Name == "" && n.Value == "" && under(0) && at == 0
	case api.Element:
		return chars.Name(n.Name) && n.Value == "" && under(api.Root, api.Element, 0)
	case api.Attribute:
		if !chars.Name(n.Name) || !isText || !under(api.Element) {
			return false
		}
		for i := range at {
			if row[i].Kind == api.Attribute && row[i].Parent == n.Parent && row[i].Name == n.Name {
				return false
			}
		}
		return at-1 == n.Parent || row[at-1].Kind == api.Attribute && row[at-1].Parent == n.Parent
	case api.Text:
		ahead := slices.DeleteFunc(modelSiblings(row, at), func(i int) bool { return i >= at })
		return n.Name == "" && n.Value != "" && isText && under(api.Element, 0) && (len(ahead) == 0 || row[slices.Max(ahead)].Kind != api.Text)
	case api.Comment:
		return n.Name == "" && isText && !strings.Contains(n.Value+"-", "--") && under(api.Root, api.Element, 0)
	case api.Instruction:
		blank := n.Value != "" && strings.Contains("\t\n\r ", n.Value[:1])
		return chars.Name(n.Name) && strings.ToLower(n.Name) != "xml" && isText && !strings.Contains(n.Value, "?>") && !blank && under(api.Root, api.Element, 0)
	}
	return false
}

func modelCheck(row []api.Node, isTree bool) api.Errno {
	if len(row) > api.MaxNodes {
		return api.ErrLong
	}
	if !modelInOrder(row) {
		return api.ErrShape
	}
	deep, tops, roots, elements := false, 0, 0, 0
	for i, n := range row {
		if !modelFits(row, i) {
			return api.ErrShape
		}
		deep = deep || modelDeep(row, i) > api.MaxDepth
		tops += count(n.Parent == -1)
		roots += count(n.Kind == api.Root)
		elements += count(n.Parent == 0 && n.Kind == api.Element)
	}
	switch {
	case isTree && (roots != 1 || row[0].Kind != api.Root || tops != 1 || elements != 1), !isTree && roots > 0:
		return api.ErrShape
	case deep:
		return api.ErrDeep
	}
	return api.OK
}

func count(b bool) int {
	if b {
		return 1
	}
	return 0
}

func modelRight(row []api.Node) bool {
	return modelCheck(row, true) == api.OK || modelCheck(row, false) == api.OK
}

// modelSubtree is the places of a node and all below it, attributes, too.
func modelSubtree(row []api.Node, at int) []int {
	var out []int
	for i := range row {
		if i == at || slices.Contains(modelAbove(row, i), at) {
			out = append(out, i)
		}
	}
	return out
}

func modelText(row []api.Node, at int) string {
	if row[at].Kind != api.Root && row[at].Kind != api.Element {
		return row[at].Value
	}
	out := ""
	for _, i := range modelSubtree(row, at) {
		if row[i].Kind == api.Text {
			out += row[i].Value
		}
	}
	return out
}

func modelPart(row []api.Node, at int) []api.Node {
	var out []api.Node
	for _, i := range modelSubtree(row, at) {
		n := row[i]
		n.Parent = max(n.Parent-at, -1)
		out = append(out, n)
	}
	out[0].Parent = -1
	return out
}

func modelAttributes(row []api.Node, at int) []int {
	var out []int
	for i, n := range row {
		if n.Kind == api.Attribute && n.Parent == at {
			out = append(out, i)
		}
	}
	return out
}

func backwards(list []int) []int {
	out := slices.Clone(list)
	slices.Reverse(out)
	return out
}

func modelGo(row []api.Node, at int, axis api.Axis) []int {
	above := modelAbove(row, at)
	subtree := modelSubtree(row, at)
	below := modelWhere(row, func(i int) bool { return i != at && slices.Contains(subtree, i) })
	switch axis {
	case api.Child:
		return modelWhere(row, func(i int) bool { return row[i].Parent == at })
	case api.AttributeAxis:
		return modelAttributes(row, at)
	case api.Self:
		return []int{at}
	case api.Parent:
		if row[at].Parent < 0 {
			return nil
		}
		return []int{row[at].Parent}
	case api.Ancestor:
		return above
	case api.AncestorOrSelf:
		return append([]int{at}, above...)
	case api.Descendant:
		return below
	case api.DescendantOrSelf:
		return append([]int{at}, below...)
	case api.FollowingSibling:
		return slices.DeleteFunc(modelSiblings(row, at), func(i int) bool { return i <= at })
	case api.PrecedingSibling:
		return backwards(slices.DeleteFunc(modelSiblings(row, at), func(i int) bool { return i >= at }))
	case api.Following:
		return modelWhere(row, func(i int) bool { return i > at && !slices.Contains(subtree, i) })
	case api.Preceding:
		return backwards(modelWhere(row, func(i int) bool { return i < at && !slices.Contains(above, i) }))
	}
	return nil
}

// mergeNode is a node of a row that is merged: who its parent is, and whether others were below it.
type mergeNode struct {
	api.Node
	parent *mergeNode
	above  bool
}

// modelMerge takes one node out after the other, till there is none to be taken.
func modelMerge(row []api.Node) []api.Node {
	if len(row) > api.MaxNodes || !modelInOrder(row) {
		return nil
	}
	var nodes []*mergeNode
	for i, n := range row {
		m := &mergeNode{Node: n, above: len(modelSubtree(row, i)) > 1}
		if n.Parent >= 0 {
			m.parent = nodes[n.Parent]
		}
		nodes = append(nodes, m)
	}
	nodes = slices.DeleteFunc(nodes, func(m *mergeNode) bool { return m.Kind == api.Text && m.Value == "" && !m.above })
	for again := true; again; {
		again = false
		for i, m := range nodes {
			if to := modelJoins(nodes, i); to != nil {
				to.Value += m.Value
				nodes = slices.Delete(nodes, i, i+1)
				again = true
				break
			}
		}
	}
	var out []api.Node
	for _, m := range nodes {
		m.Parent = slices.Index(nodes, m.parent)
		out = append(out, m.Node)
	}
	return out
}

// modelJoins is the Text to which the one at i is joined, if it is one that is.
func modelJoins(nodes []*mergeNode, i int) *mergeNode {
	m := nodes[i]
	if m.Kind != api.Text || m.above {
		return nil
	}
	for j := i - 1; j >= 0; j-- {
		to := nodes[j]
		if to.Kind != api.Attribute && to.parent == m.parent {
			if to.Kind == api.Text && !to.above {
				return to
			}
			return nil
		}
	}
	return nil
}

// wantAsModel holds all that is told of a row against the model.
func wantAsModel(t *testing.T, row []api.Node) {
	t.Helper()
	wantCheck(t, row, modelCheck(row, true))
	wantFragment(t, row, modelCheck(row, false))
	wantMerge(t, row, modelMerge(row))
	right := modelRight(row)
	for at := range row {
		if !right {
			if at == 0 || at == len(row)-1 {
				wantNothing(t, row, at)
			}
			continue
		}
		wantNodeAsModel(t, row, at)
	}
}

func wantNodeAsModel(t *testing.T, row []api.Node, at int) {
	t.Helper()
	wantText(t, row, at, modelText(row, at))
	wantEnd(t, row, at, slices.Max(modelSubtree(row, at))+1)
	wantPart(t, row, at, modelPart(row, at)...)
	wantPlaces(t, "Kids", at, tree.Kids(row, at), modelGo(row, at, api.Child))
	wantPlaces(t, "Attributes", at, tree.Attributes(row, at), modelAttributes(row, at))
	for axis := range api.AncestorOrSelf + 2 {
		wantGo(t, row, at, axis, modelGo(row, at, axis)...)
	}
}

// eachRow calls with all rows of n nodes out of those given, each with all Parents from -2 to its own place.
func eachRow(n int, nodes []api.Node, call func([]api.Node)) {
	row := make([]api.Node, n)
	var fill func(at int)
	fill = func(at int) {
		if at == n {
			call(row)
			return
		}
		for _, node := range nodes {
			for parent := -2; parent <= at; parent++ {
				node.Parent = parent
				row[at] = node
				fill(at + 1)
			}
		}
	}
	fill(0)
}

// P6.1 to P6.4: all rows of two nodes out of many, of three out of some, of four out of few.
func TestShortRows(t *testing.T) {
	var many []api.Node
	for kind := range api.Kind(8) {
		for _, name := range []string{"", "a", "xMl", "1"} {
			for _, value := range []string{"", "t", "-", "?>", "\x00"} {
				many = append(many, api.Node{Kind: kind, Name: name, Value: value})
			}
		}
	}
	some := []api.Node{root, element(0, "a"), attribute(0, "a", "v"), attribute(0, "b", ""), text(0, "t"), text(0, ""), comment(0, "c"), instruction(0, "p", ""), {}}
	few := []api.Node{element(0, "a"), attribute(0, "a", "v"), text(0, "t"), text(0, "")}
	for _, c := range []struct {
		n     int
		nodes []api.Node
	}{{0, nil}, {1, many}, {2, many}, {3, some}, {4, few}} {
		eachRow(c.n, c.nodes, func(row []api.Node) { wantAsModel(t, row) })
	}
}

// P6.1: documents whose one element has all rows of three nodes.
func TestShortDocuments(t *testing.T) {
	some := []api.Node{element(0, "a"), attribute(0, "a", "v"), attribute(0, "b", ""), text(0, "t"), comment(0, "c")}
	eachRow(3, some, func(row []api.Node) {
		document := within()
		for _, n := range row {
			n.Parent++
			document = append(document, n)
		}
		wantAsModel(t, document)
	})
}

// grow puts nodes below one that is at a place of a row.
func grow(random *rand.Rand, row []api.Node, at, most int) []api.Node {
	for _, name := range []string{"x", "y", "zé"} {
		if random.Intn(3) == 0 {
			row = append(row, attribute(at, name, []string{"", "v", "<&"}[random.Intn(3)]))
		}
	}
	return growKids(random, row, at, most)
}

func growKids(random *rand.Rand, row []api.Node, at, most int) []api.Node {
	ends := len(row) + random.Intn(most+1)
	isText := false
	for len(row) < ends {
		kind := random.Intn(6)
		switch {
		case kind == 0 && !isText:
			row = append(row, text(at, []string{"t", "u ", "\n", "é"}[random.Intn(4)]))
		case kind == 1:
			row = append(row, comment(at, []string{"", "c", "-c"}[random.Intn(3)]))
		case kind == 2:
			row = append(row, instruction(at, []string{"p", "xmls"}[random.Intn(2)], []string{"", "d ", "?"}[random.Intn(3)]))
		default:
			kind = 3
			row = append(row, element(at, []string{"a", "b", "xml"}[random.Intn(3)]))
			row = grow(random, row, len(row)-1, ends-len(row)+1)
		}
		isText = kind == 0
	}
	return row
}

// someRow is a right tree or a right fragment.
func someRow(random *rand.Rand) []api.Node {
	most := random.Intn(40)
	if random.Intn(2) == 0 {
		return growKids(random, nil, -1, most)
	}
	row := []api.Node{root}
	if random.Intn(2) == 0 {
		row = append(row, comment(0, "c"))
	}
	row = append(row, element(0, "a"))
	row = grow(random, row, len(row)-1, most)
	if random.Intn(2) == 0 {
		row = append(row, instruction(0, "p", ""), comment(0, ""))
	}
	return row
}

// P6.1 to P6.4: many rows that are right.
func TestManyRightRows(t *testing.T) {
	random := rand.New(rand.NewSource(6))
	for range 1500 {
		row := someRow(random)
		if !modelRight(row) {
			t.Fatalf("%v is to be right", row)
		}
		wantAsModel(t, row)
	}
}

// bend changes one thing of a row.
func bend(random *rand.Rand, row []api.Node) []api.Node {
	if len(row) == 0 {
		return []api.Node{text(0, "t")}
	}
	at := random.Intn(len(row))
	switch n := &row[at]; random.Intn(7) {
	case 0:
		n.Kind = api.Kind(random.Intn(8))
	case 1:
		n.Name = []string{"", "x", "xml", "1"}[random.Intn(4)]
	case 2:
		n.Value = []string{"", "v", "-", "?>", " ", "\xff"}[random.Intn(6)]
	case 3:
		n.Parent = random.Intn(len(row)+2) - 2
	case 4:
		n.Parent = max(at-1-random.Intn(3), -1)
	case 5:
		return slices.Delete(row, at, at+1)
	case 6:
		return slices.Insert(row, at, text(n.Parent, []string{"", "t"}[random.Intn(2)]))
	}
	return row
}

// P6.1 to P6.4: rows that were right, with one thing or two changed.
func TestManyBentRows(t *testing.T) {
	random := rand.New(rand.NewSource(66))
	wrong, right := 0, 0
	for range 20000 {
		row := bend(random, someRow(random))
		if random.Intn(2) == 0 {
			row = bend(random, row)
		}
		wantCheck(t, row, modelCheck(row, true))
		wantFragment(t, row, modelCheck(row, false))
		wantMerge(t, row, modelMerge(row))
		if !modelRight(row) {
			wrong++
			if len(row) > 0 {
				wantNothing(t, row, random.Intn(len(row)))
			}
			continue
		}
		right++
		if len(row) > 0 {
			wantNodeAsModel(t, row, random.Intn(len(row)))
		}
	}
	if wrong < 1000 || right < 1000 {
		t.Errorf("%d rows were wrong, %d right", wrong, right)
	}
}

// someOrder is a row in order of nodes of any kind, most of them Texts.
func someOrder(random *rand.Rand, bare bool) []api.Node {
	var row []api.Node
	for range random.Intn(14) {
		open := append(modelOpen(row, len(row)), -1)
		kind := api.Kind(random.Intn(8))
		if random.Intn(2) == 0 {
			kind = api.Text
		}
		parent := open[random.Intn(len(open))]
		if bare && parent >= 0 && row[parent].Kind == api.Text {
			parent = row[parent].Parent
		}
		row = append(row, api.Node{Kind: kind, Value: []string{"", "t", "u"}[random.Intn(3)], Parent: parent})
	}
	return row
}

// P6.3: rows in order of all sorts.
func TestManyMerged(t *testing.T) {
	random := rand.New(rand.NewSource(63))
	for range 50000 {
		row := someOrder(random, random.Intn(2) == 0)
		wantMerge(t, row, modelMerge(row))
	}
}

// P6.6: what is merged of a row in which no Text has a node below it is merged, and in order.
func TestMergedStaysMerged(t *testing.T) {
	random := rand.New(rand.NewSource(64))
	for range 50000 {
		row := tree.Merge(someOrder(random, true))
		wantMerge(t, row, row)
		if !modelInOrder(row) {
			t.Fatalf("%s is not in order", show(row))
		}
	}
}

// P6.6: from a node that is no attribute five axes go to each node that is none, once.
func TestFiveAxesGoEverywhere(t *testing.T) {
	random := rand.New(rand.NewSource(65))
	for range 500 {
		row := someRow(random)
		all := modelWhere(row, func(int) bool { return true })
		for _, at := range all {
			var got []int
			for _, axis := range []api.Axis{api.Self, api.Ancestor, api.Descendant, api.Following, api.Preceding} {
				got = append(got, tree.Go(row, at, axis)...)
			}
			slices.Sort(got)
			wantPlaces(t, "five axes", at, got, all)
		}
	}
}

// P6.6: a part of a right tree at a node that is neither its root nor an attribute is a right fragment, and a part of a part is a part.
func TestPartsAreFragments(t *testing.T) {
	random := rand.New(rand.NewSource(67))
	for range 500 {
		row := someRow(random)
		for at, n := range row {
			part := tree.Part(row, at)
			want := api.OK
			if n.Kind == api.Root || n.Kind == api.Attribute {
				want = api.ErrShape
			}
			wantFragment(t, part, want)
			if n.Kind == api.Attribute {
				continue
			}
			if got := tree.Text(part, 0); got != tree.Text(row, at) {
				t.Errorf("Text of a part: %q", got)
			}
			for i := range part {
				wantPart(t, part, i, tree.Part(row, at+i)...)
			}
		}
	}
}
