package print_test

import (
	"fmt"
	"math"
	"slices"
	"strings"
	"testing"
	"unsafe"

	"parchment/api"
	"parchment/parse"
	"parchment/print"
	"parchment/tree"
)

var root = api.Node{Kind: api.Root, Parent: -1}

func el(parent int, name string) api.Node {
	return api.Node{Kind: api.Element, Name: name, Parent: parent}
}

func at(parent int, name, value string) api.Node {
	return api.Node{Kind: api.Attribute, Name: name, Value: value, Parent: parent}
}

func text(parent int, value string) api.Node {
	return api.Node{Kind: api.Text, Value: value, Parent: parent}
}

func note(parent int, value string) api.Node {
	return api.Node{Kind: api.Comment, Value: value, Parent: parent}
}

func inst(parent int, name, value string) api.Node {
	return api.Node{Kind: api.Instruction, Name: name, Value: value, Parent: parent}
}

// show is a row as it is told where a test fails.
func show(row []api.Node) string {
	return fmt.Sprintf("%.200s", fmt.Sprintf("%+v", row))
}

func wantPrint(t *testing.T, row []api.Node, want string) {
	t.Helper()
	if got, e := print.Print(row); e != api.OK || got != want {
		t.Errorf("Print(%s): %.200q, %v, not %.200q", show(row), got, e, want)
	}
}

func wantNoPrint(t *testing.T, row []api.Node) {
	t.Helper()
	if got, e := print.Print(row); e != api.ErrShape || got != "" {
		t.Errorf("Print(%s): %.200q, %v, not ErrShape", show(row), got, e)
	}
}

func wantNode(t *testing.T, row []api.Node, at int, want string) {
	t.Helper()
	if got, e := print.Node(row, at); e != api.OK || got != want {
		t.Errorf("Node(%s, %d): %.200q, %v, not %.200q", show(row), at, got, e, want)
	}
}

func wantNoNode(t *testing.T, row []api.Node, at int, want api.Errno) {
	t.Helper()
	if got, e := print.Node(row, at); e != want || got != "" {
		t.Errorf("Node(%s, %d): %.200q, %v, not %v", show(row), at, got, e, want)
	}
}

// wantNodes asks for each node of a row.
func wantNodes(t *testing.T, row []api.Node, want ...string) {
	t.Helper()
	for at, s := range want {
		wantNode(t, row, at, s)
	}
	wantNoNode(t, row, len(want), api.ErrArg)
}

func wantEscape(t *testing.T, s, want string) {
	t.Helper()
	if got := print.Escape(s); got != want {
		t.Errorf("Escape(%.80q): %.80q, not %.80q", s, got, want)
	}
}

func wantQuote(t *testing.T, s, want string) {
	t.Helper()
	if got := print.Quote(s); got != `"`+want+`"` {
		t.Errorf("Quote(%.80q): %.80q, not %.80q in quotes", s, got, want)
	}
}

// The chapter's examples.
func TestExamples(t *testing.T) {
	row := []api.Node{root, el(0, "a"), at(1, "x", "\"<>\t"), text(1, "a>b&"), el(1, "b")}
	wantPrint(t, row, `<a x="&quot;&lt;>&#9;">a&gt;b&amp;<b/></a>`)
	wantNode(t, row, 2, `x="&quot;&lt;>&#9;"`)
	wantNode(t, row, 3, "a&gt;b&amp;")
	wantNoNode(t, row, 5, api.ErrArg)
	wantEscape(t, "a<b", "a&lt;b")
	wantQuote(t, "", "")
}

// P8.1: a whole document, and each node of it.
func TestDocument(t *testing.T) {
	row := []api.Node{
		root,
		note(0, " c "),
		inst(0, "p", ""),
		el(0, "a"),
		at(3, "x", "1"),
		at(3, "y", ""),
		text(3, "t"),
		el(3, "b"),
		el(7, "c"),
		at(8, "z", "é"),
		text(7, "u"),
		el(3, "d"),
		note(11, ""),
		inst(0, "q", "r s"),
	}
	const c, d = `<c z="é"/>`, "<d><!----></d>"
	const b = "<b>" + c + "u</b>"
	const a = `<a x="1" y="">t` + b + d + "</a>"
	const all = "<!-- c --><?p?>" + a + "<?q r s?>"
	wantPrint(t, row, all)
	wantNodes(t, row, all, "<!-- c -->", "<?p?>", a, `x="1"`, `y=""`, "t", b, c, `z="é"`, "u", d, "<!---->", "<?q r s?>")
}

// P8.1: each node of a fragment, alone among the others.
func TestFragment(t *testing.T) {
	row := []api.Node{text(-1, "<"), el(-1, "a"), at(1, "x", "<"), el(1, "a"), note(-1, "<"), text(-1, ">"), inst(-1, "p", "<"), el(-1, "b")}
	wantNodes(t, row, "&lt;", `<a x="&lt;"><a/></a>`, `x="&lt;"`, "<a/>", "<!--<-->", "&gt;", "<?p <?>", "<b/>")
	wantNoPrint(t, row)
}

// P8.1: an element without children ends at once, whatever it has beside, and whatever follows it.
func TestElements(t *testing.T) {
	for _, c := range []struct {
		within []api.Node
		want   string
	}{
		{nil, "<a/>"},
		{[]api.Node{at(1, "x", "")}, `<a x=""/>`},
		{[]api.Node{at(1, "y", "1"), at(1, "x", "2"), at(1, "a", "3")}, `<a y="1" x="2" a="3"/>`},
		{[]api.Node{text(1, "t")}, "<a>t</a>"},
		{[]api.Node{text(1, " ")}, "<a> </a>"},
		{[]api.Node{note(1, "")}, "<a><!----></a>"},
		{[]api.Node{inst(1, "p", "")}, "<a><?p?></a>"},
		{[]api.Node{el(1, "a")}, "<a><a/></a>"},
		{[]api.Node{el(1, "a"), el(1, "a")}, "<a><a/><a/></a>"},
		{[]api.Node{el(1, "a"), el(2, "a")}, "<a><a><a/></a></a>"},
		{[]api.Node{el(1, "b"), at(2, "x", ""), el(1, "c")}, `<a><b x=""/><c/></a>`},
		{[]api.Node{el(1, "b"), el(2, "c"), at(3, "x", ""), el(1, "d")}, `<a><b><c x=""/></b><d/></a>`},
		{[]api.Node{text(1, "t"), el(1, "b"), text(1, "u")}, "<a>t<b/>u</a>"},
		{[]api.Node{el(1, "b"), text(2, "t"), text(1, "u")}, "<a><b>t</b>u</a>"},
	} {
		row := append([]api.Node{root, el(0, "a")}, c.within...)
		wantPrint(t, row, c.want)
		wantPrint(t, append(row, note(0, "c")), c.want+"<!--c-->")
		wantNode(t, append(row, note(0, "c")), 1, c.want)
		wantNode(t, tree.Part(row, 1), 0, c.want)
	}
}

// P8.1: what stands in comments and instructions is written as it is.
func TestCommentsAndInstructions(t *testing.T) {
	for _, value := range []string{"", "c", "&<>\"'", "&amp;", "a\tb\nc\rd\r\ne", "]]>", "->", "?", ">", "é\u2028\U0010FFFF", "a- -b"} {
		row := []api.Node{root, note(0, value), el(0, "a"), note(2, value)}
		wantPrint(t, row, "<!--"+value+"--><a><!--"+value+"--></a>")
		space := " "
		if value == "" {
			space = ""
		}
		row = []api.Node{root, inst(0, "p", value), el(0, "a"), inst(2, "xml-", value)}
		wantPrint(t, row, "<?p"+space+value+"?><a><?xml-"+space+value+"?></a>")
	}
	wantNode(t, []api.Node{note(-1, " ")}, 0, "<!-- -->")
	wantNode(t, []api.Node{inst(-1, "p", "a ")}, 0, "<?p a ?>")
}

// P8.1: Print takes right trees alone, Node right fragments, too.
func TestWrongRows(t *testing.T) {
	for _, row := range [][]api.Node{
		{root},
		{root, note(0, "c")},
		{root, el(0, "a"), el(0, "b")},
		{root, el(0, "a"), text(0, "t")},
		{root, el(0, "a"), text(1, "t"), text(1, "u")},
		{root, el(0, "a"), text(1, "")},
		{root, el(0, "a"), text(1, "\x00")},
		{root, el(0, "a"), text(1, "\xff")},
		{root, el(0, "a"), text(1, "t"), at(1, "x", "")},
		{root, el(0, "a"), at(1, "x", ""), at(1, "x", "")},
		{root, el(0, "a"), at(1, "x", "\x0b")},
		{root, el(0, "a"), at(0, "x", "")},
		{root, el(0, "a"), el(1, "b"), el(1, "c"), el(2, "d")},
		{root, el(0, "a"), el(3, "b")},
		{root, el(0, "a"), el(-1, "b")},
		{root, el(-2, "a")},
		{root, el(math.MaxInt, "a")},
		{root, el(0, "")},
		{root, el(0, "1")},
		{root, el(0, "a b")},
		{root, el(0, "a"), note(1, "--")},
		{root, el(0, "a"), note(1, "c-")},
		{root, el(0, "a"), inst(1, "xMl", "")},
		{root, el(0, "a"), inst(1, "p", "?>")},
		{root, el(0, "a"), inst(1, "p", " q")},
		{root, el(0, "a"), {Kind: 7, Parent: 1}},
		{root, el(0, "a"), {Parent: 1}},
		{{}},
		{at(-1, "x", "")},
		{el(-1, "a"), root},
		{el(0, "a")},
		{text(-1, "t"), text(-1, "u")},
		{el(-1, "a"), el(-1, "")},
	} {
		wantNoPrint(t, row)
		for _, at := range []int{math.MinInt, -1, 0, 1, len(row) - 1, len(row), math.MaxInt} {
			wantNoNode(t, row, at, api.ErrShape)
		}
	}
	for _, row := range [][]api.Node{nil, {}, {el(-1, "a")}, {note(-1, "c"), el(-1, "a")}} {
		wantNoPrint(t, row)
		wantNoNode(t, row, len(row), api.ErrArg)
	}
}

// P8.1: places that are none.
func TestWrongPlaces(t *testing.T) {
	for _, row := range [][]api.Node{
		nil,
		{el(-1, "a")},
		{root, el(0, "a")},
		{text(-1, "t"), el(-1, "a"), at(1, "x", "")},
	} {
		for _, at := range []int{math.MinInt, -2, -1, len(row), len(row) + 1, math.MaxInt} {
			wantNoNode(t, row, at, api.ErrArg)
		}
		// What lies in the row's spare room is no node of it.
		wantNoNode(t, append(slices.Clone(row), el(-1, "b"))[:len(row)], len(row), api.ErrArg)
	}
}

// nest is a document of elements within one another.
func nest(n int) []api.Node {
	row := []api.Node{root}
	for i := range n {
		row = append(row, el(i, "e"))
	}
	return row
}

// P8.1: at the limits of trees, and one beyond.
func TestLimits(t *testing.T) {
	const deep = api.MaxDepth
	wantPrint(t, nest(deep), strings.Repeat("<e>", deep-1)+"<e/>"+strings.Repeat("</e>", deep-1))
	wantNoPrint(t, nest(deep+1))
	wantNoNode(t, nest(deep+1), 0, api.ErrShape)
	part := nest(deep + 1)[1:]
	for i := range part {
		part[i].Parent--
	}
	wantNoNode(t, part, 0, api.ErrShape)

	wide := nest(1)
	for len(wide) < api.MaxNodes {
		wide = append(wide, el(1, "b"))
	}
	wantPrint(t, wide, "<e>"+strings.Repeat("<b/>", api.MaxNodes-2)+"</e>")
	wantNode(t, wide, api.MaxNodes-1, "<b/>")
	wide = append(wide, el(1, "b"))
	wantNoPrint(t, wide)
	wantNoNode(t, wide, 0, api.ErrShape)
	wantNoNode(t, wide, -1, api.ErrShape)

	name := strings.Repeat("n", api.MaxName)
	wantPrint(t, []api.Node{root, el(0, name), at(1, name, "")}, "<"+name+" "+name+`=""/>`)
	wantNoPrint(t, []api.Node{root, el(0, name+"n")})
}

// P8.1: a text may be longer than one that can be parsed.
func TestLongTexts(t *testing.T) {
	long := strings.Repeat("&", api.MaxText)
	word := strings.Repeat("&amp;", api.MaxText)
	row := []api.Node{root, el(0, "a"), at(1, "x", long), at(1, "y", long), text(1, long), note(1, long), inst(1, "p", long)}
	wantPrint(t, row, `<a x="`+word+`" y="`+word+`">`+word+"<!--"+long+"--><?p "+long+"?></a>")
	wantNode(t, row, 4, word)
	for i := 2; i < len(row); i++ {
		wrong := slices.Clone(row)
		wrong[i].Value += "&"
		wantNoPrint(t, wrong)
		wantNoNode(t, wrong, i, api.ErrShape)
	}
	wantEscape(t, long+long, word+word)
	wantQuote(t, long+long, word+word)
}

// P8.2: each byte by itself, and each beside each other one.
func TestBytes(t *testing.T) {
	texts := map[string]string{"&": "&amp;", "<": "&lt;", ">": "&gt;", "\r": "&#13;"}
	values := map[string]string{"&": "&amp;", "<": "&lt;", "\"": "&quot;", "\t": "&#9;", "\n": "&#10;", "\r": "&#13;"}
	say := func(words map[string]string, s string) string {
		if word, ok := words[s]; ok {
			return word
		}
		return s
	}
	wantEscape(t, "", "")
	for i := range 256 {
		one := string([]byte{byte(i)})
		wantEscape(t, one, say(texts, one))
		wantQuote(t, one, say(values, one))
		for j := range 256 {
			two := string([]byte{byte(j)})
			wantEscape(t, one+two, say(texts, one)+say(texts, two))
			wantQuote(t, one+two, say(values, one)+say(values, two))
		}
	}
}

// P8.2: texts and values, of characters and of bytes that are none.
func TestEscapes(t *testing.T) {
	for _, c := range []struct{ s, asText, asValue string }{
		{"a", "a", "a"},
		{"a b", "a b", "a b"},
		{"&&", "&amp;&amp;", "&amp;&amp;"},
		{"&amp;", "&amp;amp;", "&amp;amp;"},
		{"&#13;", "&amp;#13;", "&amp;#13;"},
		{"<a x=\"1\">", "&lt;a x=\"1\"&gt;", "&lt;a x=&quot;1&quot;>"},
		{"]]>", "]]&gt;", "]]>"},
		{"'", "'", "'"},
		{"\t\n\r\r\n", "\t\n&#13;&#13;\n", "&#9;&#10;&#13;&#13;&#10;"},
		{"é<\u2028>\U0010FFFF\"", "é&lt;\u2028&gt;\U0010FFFF\"", "é&lt;\u2028>\U0010FFFF&quot;"},
		{"\x00\x01\x7f\u0085\uFFFE", "\x00\x01\x7f\u0085\uFFFE", "\x00\x01\x7f\u0085\uFFFE"},
		{"\xff<\xc3&\xed\xa0\x80>\xf0", "\xff&lt;\xc3&amp;\xed\xa0\x80&gt;\xf0", "\xff&lt;\xc3&amp;\xed\xa0\x80>\xf0"},
	} {
		wantEscape(t, c.s, c.asText)
		wantQuote(t, c.s, c.asValue)
	}
}

// P8.3: what is printed is parsed as it was, but for bytes 13 in comments and instructions.
func TestThereAndBack(t *testing.T) {
	for _, row := range [][]api.Node{
		{root, el(0, "a")},
		{root, el(0, "a"), text(1, "]]>")},
		{root, el(0, "a"), text(1, "\r\n\r \n\t")},
		{root, el(0, "a"), text(1, "&lt;<![CDATA[<]]>")},
		{root, el(0, "a"), at(1, "x", "\r\n\r \n\t"), at(1, "y", "'\"<>&")},
		{root, note(0, "-&<"), inst(0, "xmls", "version='1.0'"), el(0, "xml"), inst(0, "p", "?")},
		{root, note(0, "\r\n\r \n\r\r\n"), el(0, "a"), inst(2, "p", "a\r\nb\rc\n\r")},
		{root, note(0, "-\r-c"), el(0, "a"), inst(2, "p", "?\r>")},
		nest(api.MaxDepth),
	} {
		wantBack(t, row)
	}
	row := []api.Node{root, note(0, "a\rb\r\nc"), el(0, "a")}
	got, fault := parse.Document("<!--a\rb\r\nc--><a/>")
	if want := []api.Node{root, note(0, "a\nb\nc"), el(0, "a")}; fault != (api.Fault{}) || !slices.Equal(got, want) {
		t.Errorf("%v, %v", got, fault)
	}
	wantPrint(t, row, "<!--a\rb\r\nc--><a/>")
	wantPrint(t, got, "<!--a\nb\nc--><a/>")
}

// P8.3: a text of MaxText bytes comes back, a longer one does not.
func TestLongestBack(t *testing.T) {
	row := []api.Node{root, el(0, "a"), text(1, strings.Repeat("&\r", (api.MaxText-len("<a>x</a>"))/10)+"x")}
	row[2].Value += strings.Repeat("y", api.MaxText-len(printed(t, row)))
	if n := len(printed(t, row)); n != api.MaxText {
		t.Fatalf("%d bytes", n)
	}
	wantBack(t, row)
	row[2].Value += "y"
	if _, fault := parse.Document(printed(t, row)); fault != (api.Fault{Err: api.ErrLong}) {
		t.Errorf("a longer one: %v", fault)
	}
}

func printed(t *testing.T, row []api.Node) string {
	t.Helper()
	s, e := print.Print(row)
	if e != api.OK {
		t.Fatalf("Print(%s): %v", show(row), e)
	}
	return s
}

// P4: what is read is printed as XML whose tree is the same.
func TestTextsThereAndBack(t *testing.T) {
	for _, c := range []struct{ s, want string }{
		{"<a/>", "<a/>"},
		{"<a></a>", "<a/>"},
		{"<?xml version='1.0' encoding='UTF-8'?>\n<a/>\n", "<a/>"},
		{" <!--\r\n--> <a\n/> <?p\t q ?> ", "<!--\n--><a/><?p q ?>"},
		{"<a x='\"&apos;>' y = \"\t&#9;\r\n\"></a >", `<a x="&quot;'>" y=" &#9; "/>`},
		{"<a>\r\n&#13;&#x3c;<![CDATA[]]]]>><b><c/></b></a>", "<a>\n&#13;&lt;]]&gt;<b><c/></b></a>"},
		{"<a><![CDATA[]]></a>", "<a/>"},
		{"<a> <b/> </a>", "<a> <b/> </a>"},
		{`<a x="1">t<b/></a>`, `<a x="1">t<b/></a>`},
	} {
		row, fault := parse.Document(c.s)
		if fault != (api.Fault{}) {
			t.Fatalf("Document(%q): %v", c.s, fault)
		}
		wantPrint(t, row, c.want)
		if again, fault := parse.Document(c.want); fault != (api.Fault{}) || !slices.Equal(again, row) {
			t.Errorf("Document(%q): %v, %v, not %v", c.want, again, fault, row)
		}
	}
}

// P4: what is not XML is refused, at its place, and what was told of it is no tree that could be printed.
func TestRefused(t *testing.T) {
	for _, c := range []struct {
		s    string
		want api.Fault
	}{
		{"", api.Fault{Err: api.ErrXml}},
		{"<a>", api.Fault{Err: api.ErrXml, At: 3}},
		{"<a></b>", api.Fault{Err: api.ErrXml, At: 5}},
		{"<a>]]></a>", api.Fault{Err: api.ErrXml, At: 5}},
		{"<a x='1' x='2'/>", api.Fault{Err: api.ErrAttribute, At: 9}},
		{"<a>\xff</a>", api.Fault{Err: api.ErrByte, At: 3}},
	} {
		row, fault := parse.Document(c.s)
		if fault != c.want {
			t.Errorf("Document(%q): %v, not %v", c.s, fault, c.want)
		}
		wantNoPrint(t, row)
	}
}

// inMemory is a text that lies in bytes that can be changed.
func inMemory(memory []byte) string {
	return unsafe.String(unsafe.SliceData(memory), len(memory))
}

// R3: what is handed in is neither changed nor kept, nor is its spare room: what is told stays as it is, whatever becomes of that.
func TestNothingIsKept(t *testing.T) {
	for _, s := range []string{"a", "abc", "a<b", "é"} {
		memory := []byte(s)
		escaped, quoted := print.Escape(inMemory(memory)), print.Quote(inMemory(memory))
		row := []api.Node{root, el(0, "a"), at(1, "x", inMemory(memory)), text(1, inMemory(memory)), note(1, inMemory(memory)), inst(1, "p", inMemory(memory)), note(0, "spare")}
		before := slices.Clone(row)
		document, _ := print.Print(row[:6])
		var nodes []string
		for at := range row[:6] {
			node, _ := print.Node(row[:6], at)
			nodes = append(nodes, node)
		}
		if string(memory) != s || !slices.Equal(row, before) {
			t.Errorf("%q has become %q, %v", s, memory, row)
		}
		for i := range memory {
			memory[i] = '#'
		}
		clear(row)
		wantText, wantValue := modelEscape(s), modelQuote(s)
		want := []string{"", "", "x=" + wantValue, wantText, "<!--" + s + "-->", "<?p " + s + "?>"}
		want[1] = "<a " + want[2] + ">" + want[3] + want[4] + want[5] + "</a>"
		want[0] = want[1]
		if escaped != wantText || quoted != wantValue || document != want[0] || !slices.Equal(nodes, want) {
			t.Errorf("what was told of %q has become %q, %q, %q, %q", s, escaped, quoted, document, nodes)
		}
	}
}

// R3: an answer is new, where it says just what it was given, too.
func TestAnswersAreNew(t *testing.T) {
	s := strings.Repeat("x", 100)
	row := []api.Node{text(-1, s)}
	node, _ := print.Node(row, 0)
	again, _ := print.Node(row, 0)
	for _, pair := range [][2]string{{s, print.Escape(s)}, {s, node}, {node, again}, {print.Escape(s), print.Escape(s)}, {print.Quote(s), print.Quote(s)}} {
		if unsafe.StringData(pair[0]) == unsafe.StringData(pair[1]) {
			t.Errorf("%.9q is shared", pair[0])
		}
	}
}

// R4: the same is told again, whatever was asked between.
func TestSameAgain(t *testing.T) {
	row := []api.Node{root, el(0, "a"), at(1, "x", "<"), text(1, "t")}
	want := printed(t, row)
	print.Print(row[:1])
	print.Node(row, 9)
	print.Escape("\xff<")
	wantPrint(t, row, want)
	wantNode(t, row, 0, want)
}
