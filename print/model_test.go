package print_test

import (
	"math/rand"
	"slices"
	"strings"
	"testing"

	"parchment/api"
	"parchment/parse"
	"parchment/print"
	"parchment/tree"
)

// The model says what the chapter's words say, node by node and byte by byte, out of what chapter 6 tells of a row.

func modelBytes(s string, words map[byte]string) string {
	out := ""
	for i := range len(s) {
		if word, ok := words[s[i]]; ok {
			out += word
		} else {
			out += s[i : i+1]
		}
	}
	return out
}

func modelEscape(s string) string {
	return modelBytes(s, map[byte]string{38: "&amp;", 60: "&lt;", 62: "&gt;", 13: "&#13;"})
}

func modelQuote(s string) string {
	return `"` + modelBytes(s, map[byte]string{38: "&amp;", 60: "&lt;", 34: "&quot;", 9: "&#9;", 10: "&#10;", 13: "&#13;"}) + `"`
}

func modelNode(row []api.Node, at int) string {
	n := row[at]
	attributes, kids := "", ""
	for _, i := range tree.Attributes(row, at) {
		attributes += " " + modelNode(row, i)
	}
	for _, i := range tree.Kids(row, at) {
		kids += modelNode(row, i)
	}
	switch n.Kind {
	case api.Root:
		return kids
	case api.Element:
		if len(tree.Kids(row, at)) == 0 {
			return "<" + n.Name + attributes + "/>"
		}
		return "<" + n.Name + attributes + ">" + kids + "</" + n.Name + ">"
	case api.Attribute:
		return n.Name + "=" + modelQuote(n.Value)
	case api.Text:
		return modelEscape(n.Value)
	case api.Comment:
		return "<!--" + n.Value + "-->"
	}
	if n.Value == "" {
		return "<?" + n.Name + "?>"
	}
	return "<?" + n.Name + " " + n.Value + "?>"
}

// wantAsModel holds all that is told of a row against the model: at each of its places, and at those beside them.
func wantAsModel(t *testing.T, row []api.Node) {
	t.Helper()
	isTree := tree.Check(row) == api.OK
	right := isTree || tree.Fragment(row) == api.OK
	if isTree {
		wantPrint(t, row, modelNode(row, 0))
	} else {
		wantNoPrint(t, row)
	}
	for at := -1; at <= len(row); at++ {
		switch {
		case !right:
			wantNoNode(t, row, at, api.ErrShape)
		case at < 0 || at == len(row):
			wantNoNode(t, row, at, api.ErrArg)
		default:
			wantNode(t, row, at, modelNode(row, at))
		}
	}
}

// eachRow calls with all rows of n nodes out of those given, each with all Parents from -1 to its own place.
func eachRow(n int, nodes []api.Node, call func([]api.Node)) {
	row := make([]api.Node, n)
	var fill func(at int)
	fill = func(at int) {
		if at == n {
			call(row)
			return
		}
		for _, node := range nodes {
			for parent := -1; parent <= at; parent++ {
				node.Parent = parent
				row[at] = node
				fill(at + 1)
			}
		}
	}
	fill(0)
}

// P8.1: all rows of up to three nodes out of some, of four out of few; documents whose element has these.
func TestShortRows(t *testing.T) {
	some := []api.Node{root, el(0, "a"), el(0, "1"), at(0, "x", "\""), at(0, "y", ""), text(0, ">"), text(0, ""), note(0, "&"), inst(0, "p", ""), inst(0, "p", "<"), {}}
	few := []api.Node{el(0, "a"), at(0, "x", "1"), text(0, "t"), note(0, "c")}
	for n := range 4 {
		eachRow(n, some, func(row []api.Node) { wantAsModel(t, row) })
	}
	eachRow(4, few, func(row []api.Node) {
		wantAsModel(t, row)
		within := []api.Node{root, el(0, "r")}
		for _, n := range row {
			n.Parent += 2
			if n.Parent == 1 && n.Kind == api.Comment {
				n.Parent = 0
			}
			within = append(within, n)
		}
		wantAsModel(t, within)
	})
}

// Pieces of which values are made: all that has a meaning in XML, and what is near to it.
var pieces = []string{
	"&", "<", ">", "\"", "'", "\t", "\n", "\r", "\r\n", " ", "-", "]", "]]>", "?", "/", "=", ";", "#",
	"&amp;", "&#13;", "<a>", "<![CDATA[", "a", "é", "\u0085", "\u2028", "\uFFFD", "\U0010FFFF",
}

func someValue(random *rand.Rand) string {
	s := ""
	for range random.Intn(6) {
		s += pieces[random.Intn(len(pieces))]
	}
	return s
}

// growing is a row to which right nodes are put.
type growing struct {
	random *rand.Rand
	row    []api.Node
}

func (g *growing) put(n api.Node) int {
	g.row = append(g.row, n)
	return len(g.row) - 1
}

func (g *growing) name() string {
	return []string{"a", "b", "xml", "é", "x-1."}[g.random.Intn(5)]
}

func (g *growing) element(parent, deep int) {
	self := g.put(el(parent, g.name()))
	for _, name := range []string{"x", "y", "zé"} {
		if g.random.Intn(3) == 0 {
			g.put(at(self, name, someValue(g.random)))
		}
	}
	g.content(self, deep)
}

func (g *growing) content(parent, deep int) {
	isText := false
	for range g.random.Intn(5) {
		wasText := isText
		isText = false
		switch g.random.Intn(4) {
		case 0:
			if value := someValue(g.random); !wasText && value != "" {
				g.put(text(parent, value))
				isText = true
			} else {
				isText = wasText
			}
		case 1:
			if deep > 0 {
				g.element(parent, deep-1)
			} else {
				g.put(el(parent, g.name()))
			}
		default:
			g.misc(parent)
		}
	}
}

func (g *growing) misc(parent int) {
	value := someValue(g.random)
	if g.random.Intn(2) == 0 {
		g.put(note(parent, strings.TrimSuffix(strings.ReplaceAll(value, "--", "- "), "-")))
		return
	}
	value = strings.TrimLeft(strings.ReplaceAll(value, "?>", "?"), "\t\n\r ")
	g.put(inst(parent, []string{"p", "xmls", "é"}[g.random.Intn(3)], value))
}

func someTree(random *rand.Rand) []api.Node {
	g := growing{random: random}
	g.put(root)
	for range random.Intn(3) {
		g.misc(0)
	}
	g.element(0, 4)
	for range random.Intn(3) {
		g.misc(0)
	}
	return g.row
}

func someFragment(random *rand.Rand) []api.Node {
	g := growing{random: random}
	g.content(-1, 4)
	return g.row
}

// P8.1: many rows that are right.
func TestManyRows(t *testing.T) {
	random := rand.New(rand.NewSource(8))
	for range 3000 {
		row := someTree(random)
		if e := tree.Check(row); e != api.OK {
			t.Fatalf("%v is to be right: %v", row, e)
		}
		wantAsModel(t, row)
		row = someFragment(random)
		if e := tree.Fragment(row); e != api.OK {
			t.Fatalf("%v is to be right: %v", row, e)
		}
		wantAsModel(t, row)
	}
}

// P8.1: rows that were right, with one thing changed.
func TestManyBentRows(t *testing.T) {
	random := rand.New(rand.NewSource(81))
	wrong, right := 0, 0
	for range 10000 {
		row := someTree(random)
		n := &row[random.Intn(len(row))]
		switch random.Intn(4) {
		case 0:
			n.Kind = api.Kind(random.Intn(8))
		case 1:
			n.Name = []string{"", "x", "xml", "1"}[random.Intn(4)]
		case 2:
			n.Value = []string{"", "v", "-", "?>", " ", "\xff"}[random.Intn(6)]
		case 3:
			n.Parent = random.Intn(len(row)+2) - 2
		}
		if tree.Check(row) == api.OK {
			right++
		} else {
			wrong++
		}
		wantAsModel(t, row)
	}
	if wrong < 1000 || right < 1000 {
		t.Errorf("%d rows were wrong, %d right", wrong, right)
	}
}

// read is a row as it comes back: in comments and instructions each byte 13 is a byte 10, and 13 10 one 10.
func read(row []api.Node) []api.Node {
	out := slices.Clone(row)
	for i, n := range out {
		if n.Kind == api.Comment || n.Kind == api.Instruction {
			out[i].Value = strings.ReplaceAll(strings.ReplaceAll(n.Value, "\r\n", "\n"), "\r", "\n")
		}
	}
	return out
}

// wantBack asks for a tree that is printed and parsed, and printed and parsed again.
func wantBack(t *testing.T, row []api.Node) {
	t.Helper()
	printed, e := print.Print(row)
	if e != api.OK || len(printed) > api.MaxText {
		t.Fatalf("Print(%v): %d bytes, %v", row, len(printed), e)
	}
	got, fault := parse.Document(printed)
	if fault != (api.Fault{}) || !slices.Equal(got, read(row)) {
		t.Errorf("Document(%q): %v, %v, not %v", printed, got, fault, read(row))
		return
	}
	again, e := print.Print(got)
	if e != api.OK || slices.Equal(got, row) && again != printed {
		t.Errorf("printed again: %q, %v, not %q", again, e, printed)
	}
	back, fault := parse.Document(again)
	if fault != (api.Fault{}) || !slices.Equal(back, got) {
		t.Errorf("Document(%q): %v, %v, not %v", again, back, fault, got)
	}
	if last, e := print.Print(back); e != api.OK || last != again {
		t.Errorf("printed once more: %q, %v, not %q", last, e, again)
	}
}

// P8.3: what is printed and parsed is the same tree, and what is printed of that the same text.
func TestManyThereAndBack(t *testing.T) {
	random := rand.New(rand.NewSource(83))
	bare := 0
	for range 20000 {
		row := someTree(random)
		wantBack(t, row)
		bare += count(slices.Equal(row, read(row)))
		row = read(row)
		wantBack(t, row)
	}
	if bare < 1000 || bare > 19000 {
		t.Errorf("%d trees are read as they are", bare)
	}
}

func count(b bool) int {
	if b {
		return 1
	}
	return 0
}

// P8.3: a node that is no attribute, parsed as a fragment, is its part of the tree; all tops of a fragment, one behind the other, are the fragment.
func TestManyPartsBack(t *testing.T) {
	random := rand.New(rand.NewSource(84))
	for i := range 4000 {
		row := someTree(random)
		if i%2 == 0 {
			row = someFragment(random)
		}
		tops := ""
		for at, n := range row {
			printed, e := print.Node(row, at)
			if e != api.OK {
				t.Fatalf("Node(%v, %d): %v", row, at, e)
			}
			if n.Parent == -1 {
				tops += printed
			}
			if n.Kind == api.Root || n.Kind == api.Attribute {
				continue
			}
			got, fault := parse.Fragment(printed)
			if want := read(tree.Part(row, at)); fault != (api.Fault{}) || !slices.Equal(got, want) {
				t.Errorf("Fragment(%q): %v, %v, not %v", printed, got, fault, want)
			}
			wantNode(t, tree.Part(row, at), 0, printed)
		}
		if i%2 == 0 {
			if got, fault := parse.Fragment(tops); fault != (api.Fault{}) || !slices.Equal(got, read(row)) {
				t.Errorf("Fragment(%q): %v, %v, not %v", tops, got, fault, row)
			}
		}
	}
}

// P8.2: texts and values that were written say what they did.
func TestManyValuesBack(t *testing.T) {
	random := rand.New(rand.NewSource(82))
	for range 20000 {
		s := someValue(random)
		if got := print.Escape(s); got != modelEscape(s) {
			t.Errorf("Escape(%q): %q", s, got)
		}
		if got := print.Quote(s); got != modelQuote(s) {
			t.Errorf("Quote(%q): %q", s, got)
		}
		got, fault := parse.Fragment("<a x=" + print.Quote(s) + ">t" + print.Escape(s) + "</a>")
		if want := []api.Node{el(-1, "a"), at(0, "x", s), text(0, "t"+s)}; fault != (api.Fault{}) || !slices.Equal(got, want) {
			t.Errorf("%q: %v, %v", s, got, fault)
		}
	}
}

// P4: whatever text is a document, its tree is printed as a text that says the same tree; what is none is refused at a place of it.
func TestManyTextsThereAndBack(t *testing.T) {
	random := rand.New(rand.NewSource(4))
	words := []string{
		"<a>", "</a>", "<a/>", "<b x='1\t\"'>", "</b>", "<é y=\"'&#10;&gt;>\"\r\n/>", "t", ">", "]]", "&lt;", "&#13;", "\r\n", "\r", " ",
		"<![CDATA[<&]]]]>", "<!--\r-\n-->", "<?p?>", "<?p\r\n q\r?>", "&quot;",
	}
	documents, refused := 0, 0
	for range 40000 {
		s := ""
		for range random.Intn(6) {
			s += words[random.Intn(len(words))]
		}
		if random.Intn(4) > 0 {
			s = "<?xml version='1.0'?><a>" + s + "</a><!--c-->"
		}
		row, fault := parse.Document(s)
		if fault.Err != api.OK {
			refused++
			if row != nil || fault.Err != api.ErrXml || fault.At < 0 || fault.At > len(s) {
				t.Errorf("Document(%q): %v, %v", s, row, fault)
			}
			continue
		}
		documents++
		printed, e := print.Print(row)
		if got, fault := parse.Document(printed); e != api.OK || fault != (api.Fault{}) || !slices.Equal(got, row) {
			t.Errorf("%q is printed as %q, %v, and read as %v, %v", s, printed, e, got, fault)
		}
	}
	if documents < 3000 || refused < 3000 {
		t.Errorf("%d documents, %d others", documents, refused)
	}
}
