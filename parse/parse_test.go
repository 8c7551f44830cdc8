package parse_test

import (
	"fmt"
	"slices"
	"strings"
	"testing"
	"unsafe"

	"parchment/api"
	"parchment/parse"
	"parchment/tree"
)

var root = api.Node{Kind: api.Root, Parent: -1}

func el(parent int, name string) api.Node {
	return api.Node{Kind: api.Element, Name: name, Parent: parent}
}

func at(parent int, name, value string) api.Node {
	return api.Node{Kind: api.Attribute, Name: name, Value: value, Parent: parent}
}

func text(parent int, value string) api.Node {
	return api.Node{Kind: api.Text, Value: value, Parent: parent}
}

func note(parent int, value string) api.Node {
	return api.Node{Kind: api.Comment, Value: value, Parent: parent}
}

func inst(parent int, name, value string) api.Node {
	return api.Node{Kind: api.Instruction, Name: name, Value: value, Parent: parent}
}

// short is a text as it is told where a test fails.
func short(s string) string {
	return fmt.Sprintf("%.80q", s)
}

func wantDocument(t *testing.T, s string, want ...api.Node) {
	t.Helper()
	got, fault := parse.Document(s)
	if fault != (api.Fault{}) || !slices.Equal(got, want) {
		t.Errorf("Document(%s): %v, %v, not %v", short(s), got, fault, want)
	}
	if e := tree.Check(got); e != api.OK {
		t.Errorf("Document(%s) is no right tree: %v", short(s), e)
	}
}

func wantFragment(t *testing.T, s string, want ...api.Node) {
	t.Helper()
	got, fault := parse.Fragment(s)
	if fault != (api.Fault{}) || !slices.Equal(got, want) {
		t.Errorf("Fragment(%s): %v, %v, not %v", short(s), got, fault, want)
	}
	if e := tree.Fragment(got); e != api.OK {
		t.Errorf("Fragment(%s) is no right fragment: %v", short(s), e)
	}
}

func wantFault(t *testing.T, s string, e api.Errno, at int) {
	t.Helper()
	if got, fault := parse.Document(s); fault != (api.Fault{Err: e, At: at}) || got != nil {
		t.Errorf("Document(%s): %d nodes, %v, not {%v, %d}", short(s), len(got), fault, e, at)
	}
}

func wantFragmentFault(t *testing.T, s string, e api.Errno, at int) {
	t.Helper()
	if got, fault := parse.Fragment(s); fault != (api.Fault{Err: e, At: at}) || got != nil {
		t.Errorf("Fragment(%s): %d nodes, %v, not {%v, %d}", short(s), len(got), fault, e, at)
	}
}

// wantContent asks for the nodes of content, as a fragment, and as the content of a document's element.
func wantContent(t *testing.T, s string, want ...api.Node) {
	t.Helper()
	wantFragment(t, s, want...)
	within := []api.Node{root, el(0, "r")}
	for _, n := range want {
		n.Parent += 2
		within = append(within, n)
	}
	wantDocument(t, "<r>"+s+"</r>", within...)
}

// wantContentFault asks for ErrXml in content, as a fragment's and as that of a document's element. At the end of a fragment more is wanting; in an element what stands behind may not.
func wantContentFault(t *testing.T, s string, at int) {
	t.Helper()
	wantFragmentFault(t, s, api.ErrXml, at)
	wantFault(t, "<r>"+s, api.ErrXml, at+3)
	if at < len(s) {
		wantFault(t, "<r>"+s+"</r>", api.ErrXml, at+3)
	}
}

// The chapter's examples.
func TestExamples(t *testing.T) {
	wantDocument(t, "<a x='1&lt;'>t<!--c--><b/>&#x75;</a>", root, el(0, "a"), at(1, "x", "1<"), text(1, "t"), note(1, "c"), el(1, "b"), text(1, "u"))
	for _, c := range []struct {
		s  string
		at int
	}{
		{"", 0},
		{"x", 0},
		{"<a>", 3},
		{"<a></b>", 5},
		{"<a b>", 4},
		{"<a b=1>", 5},
		{"<a/><b/>", 5},
		{"<!DOCTYPE a>", 2},
		{"<a>&foo;</a>", 4},
		{"<a>&#0;</a>", 6},
		{"<a>]]></a>", 5},
		{"<a><!-- -- --></a>", 10},
		{"<?xml?><a/>", 5},
		{`<a x="1"x="2"/>`, 8},
	} {
		wantFault(t, c.s, api.ErrXml, c.at)
	}
	wantFault(t, `<a x="1" x="2"/>`, api.ErrAttribute, 9)
	wantFault(t, "<a>\xff</a>", api.ErrByte, 3)
	wantFragment(t, "x<a/>y", text(-1, "x"), el(-1, "a"), text(-1, "y"))
	wantFragmentFault(t, `<?xml version="1.0"?>`, api.ErrXml, 5)
	wantFragment(t, "<![CDATA[<]]>&gt;", text(-1, "<>"))
}

// P7.1: a whole document; where nodes stand.
func TestDocuments(t *testing.T) {
	wantDocument(t, "<a/>", root, el(0, "a"))
	wantDocument(t, "<a></a>", root, el(0, "a"))
	wantDocument(t, "<a\t\r\n ></a \n>", root, el(0, "a"))
	wantDocument(t, " \t\r\n<a /> \t\r\n", root, el(0, "a"))
	wantDocument(t, "<!--c--><?p?>\n<a/><!--d--> <?q r?>", root, note(0, "c"), inst(0, "p", ""), el(0, "a"), note(0, "d"), inst(0, "q", "r"))
	wantDocument(t, "<a><b><c x='1'/></b>t<d y='2'>u</d></a>",
		root, el(0, "a"), el(1, "b"), el(2, "c"), at(3, "x", "1"), text(1, "t"), el(1, "d"), at(6, "y", "2"), text(6, "u"))
	wantDocument(t, "<a> <b/> </a>", root, el(0, "a"), text(1, " "), el(1, "b"), text(1, " "))
}

// P7.1: what may stand about the element, and what may not.
func TestProlog(t *testing.T) {
	for _, c := range []struct {
		s  string
		at int
	}{
		{" ", 1},
		{"<", 1},
		{"</", 1},
		{"< a/>", 1},
		{"<1/>", 1},
		{"<!--c-->", 8},
		{"<?p?>", 5},
		{"<?p?>x<a/>", 5},
		{"&lt;<a/>", 0},
		{"<![CDATA[]]><a/>", 2},
		{"<!", 2},
		{"<!x", 2},
		{"<!-", 3},
		{"<!-x", 3},
		{"\uFEFF<a/>", 0},
		{"<a/>x", 4},
		{"<a/>&lt;", 4},
		{"<a/><", 5},
		{"<a/></a>", 5},
		{"<a/><![CDATA[]]>", 6},
		{"<a/> <?p?> <!--c-->x", 19},
		{"<a/><!--c", 9},
	} {
		wantFault(t, c.s, api.ErrXml, c.at)
	}
}

// P7.1: declarations.
func TestDeclarations(t *testing.T) {
	for _, s := range []string{
		`<?xml version="1.0"?>`,
		`<?xml version='1.0'?>`,
		"<?xml\n\tversion\r= \n'1.0'\t ?>",
		`<?xml version="1.0" encoding="utf-8"?>`,
		`<?xml version="1.0" encoding='UTF-8'?>`,
		"<?xml version='1.0'\r\nencoding = \"uTf-8\" ?>",
	} {
		wantDocument(t, s+"<a/>", root, el(0, "a"))
		wantDocument(t, s+"\n<!--c--><a/>", root, note(0, "c"), el(0, "a"))
		wantFault(t, s, api.ErrXml, len(s))
		wantFault(t, s+s, api.ErrXml, len(s)+5)
		wantFault(t, " "+s+"<a/>", api.ErrXml, 6)
		wantFault(t, "<a/>"+s, api.ErrXml, 9)
		wantContentFault(t, s, 5)
	}
	for _, c := range []struct {
		s  string
		at int
	}{
		{"<?xml", 5},
		{"<?xml ", 6},
		{"<?xml ?><a/>", 6},
		{"<?xml encoding='utf-8'?><a/>", 6},
		{"<?xml versio='1.0'?><a/>", 12},
		{"<?xml version'1.0'?><a/>", 13},
		{"<?xml version=1.0?><a/>", 14},
		{"<?xml version='1.1'?><a/>", 17},
		{"<?xml version='1.00'?><a/>", 18},
		{"<?xml version='1.0\"?><a/>", 18},
		{"<?xml version=\"1.0'?><a/>", 18},
		{"<?xml version='1.0'", 19},
		{"<?xml version='1.0'encoding='utf-8'?><a/>", 19},
		{"<?xml version='1.0' standalone='yes'?><a/>", 20},
		{"<?xml version='1.0' e?><a/>", 21},
		{"<?xml version='1.0' encoding='utf8'?><a/>", 33},
		{"<?xml version='1.0' encoding='utf-16'?><a/>", 34},
		{"<?xml version='1.0' encoding='utf-8\"?><a/>", 35},
		{"<?xml version='1.0' encoding='utf-8' encoding='utf-8'?><a/>", 37},
		{"<?xml version='1.0' encoding='utf-8'?", 37},
		{"<?xml version='1.0'? ><a/>", 20},
		{"<?XML version='1.0'?><a/>", 5},
		{"<?xMl?><a/>", 5},
	} {
		wantFault(t, c.s, api.ErrXml, c.at)
	}
	wantDocument(t, "<?xmls version='1.0'?><a/>", root, inst(0, "xmls", "version='1.0'"), el(0, "a"))
	wantDocument(t, "<?xml-x?><a/>", root, inst(0, "xml-x", ""), el(0, "a"))
}

// P7.1: tags of elements.
func TestTags(t *testing.T) {
	for _, c := range []struct {
		s  string
		at int
	}{
		{"<a", 2},
		{"<a:b/>", 2},
		{"<a=/>", 2},
		{"<a'/>", 2},
		{"<a /", 4},
		{"<a/ >", 3},
		{"<a / >", 4},
		{"<a //>", 4},
		{"<a></", 5},
		{"<a></ a>", 5},
		{"<a></>", 5},
		{"<a></ab>", 6},
		{"<ab></a>", 7},
		{"<a></A>", 5},
		{"<a></a", 6},
		{"<a></a x='1'>", 7},
		{"<a></a/>", 6},
		{"<a><b></a></b>", 8},
		{"<é></è>", 6},
		{"<éa></éb>", 9},
		{"<a>< b/></a>", 4},
		{"<a><", 4},
		{"<a><1/></a>", 4},
		{"<a><b></b>", 10},
	} {
		wantFault(t, c.s, api.ErrXml, c.at)
	}
	wantFragmentFault(t, "</a>", api.ErrXml, 1)
	wantFragmentFault(t, "<a/></a>", api.ErrXml, 5)
}

// P7.1: what an attribute is.
func TestAttributes(t *testing.T) {
	wantContent(t, "<a x='1' y=\"2\"\tz\n=\r'3'/>", el(-1, "a"), at(0, "x", "1"), at(0, "y", "2"), at(0, "z", "3"))
	wantContent(t, `<a x="'" y='"'></a>`, el(-1, "a"), at(0, "x", "'"), at(0, "y", `"`))
	wantContent(t, "<a x='' y='>' z=']]>'/>", el(-1, "a"), at(0, "x", ""), at(0, "y", ">"), at(0, "z", "]]>"))
	wantContent(t, "<a a='1'><b a='2'/></a>", el(-1, "a"), at(0, "a", "1"), el(0, "b"), at(2, "a", "2"))
	for _, c := range []struct {
		s  string
		at int
	}{
		{"<a x", 4},
		{"<a x/>", 4},
		{"<a x y='1'/>", 5},
		{"<a x=", 5},
		{"<a x=>", 5},
		{"<a x==''/>", 5},
		{"<a x='", 6},
		{"<a x='1", 7},
		{"<a x='1\"", 8},
		{"<a x='<'/>", 6},
		{"<a x='1'", 8},
		{"<a x='1'y='2'/>", 8},
		{"<a x='1' 2='3'/>", 9},
		{"<a ='1'/>", 3},
		{"<a x:y='1'/>", 4},
		{"<a x='&'/>", 7},
		{"<a x='&lt'/>", 9},
		{"<a x='1' /", 10},
	} {
		wantContentFault(t, c.s, c.at)
	}
}

// P7.1: what blanks and references in values say.
func TestValues(t *testing.T) {
	for _, c := range []struct{ written, says string }{
		{"\t", " "},
		{"\n", " "},
		{"\r", " "},
		{"\r\n", " "},
		{"\n\r", "  "},
		{"\r\r\n\n", "   "},
		{" a\tb  c ", " a b  c "},
		{"&#9;&#10;&#13;&#32;", "\t\n\r "},
		{"&#13;\n", "\r "},
		{"\r&#10;", " \n"},
		{"&#xD;&#xA;", "\r\n"},
		{"&lt;&gt;&amp;&apos;&quot;", "<>&'\""},
		{"&amp;lt;", "&lt;"},
		{"é\uFFFD\U0010FFFF", "é\uFFFD\U0010FFFF"},
	} {
		wantContent(t, "<a x='"+c.written+"'/>", el(-1, "a"), at(0, "x", c.says))
		wantContent(t, `<a x="`+c.written+`"/>`, el(-1, "a"), at(0, "x", c.says))
	}
}

// P7.1: line ends in texts, comments and instructions.
func TestLineEnds(t *testing.T) {
	for _, c := range []struct{ written, says string }{
		{"\r", "\n"},
		{"\n", "\n"},
		{"\r\n", "\n"},
		{"\n\r", "\n\n"},
		{"\r\r\n\r", "\n\n\n"},
		{"a\tb\r c", "a\tb\n c"},
	} {
		wantContent(t, c.written, text(-1, c.says))
		wantContent(t, "<![CDATA["+c.written+"]]>", text(-1, c.says))
		wantContent(t, "<!--"+c.written+"-->", note(-1, c.says))
		wantContent(t, "<?p x"+c.written+"?>", inst(-1, "p", "x"+c.says))
	}
	wantContent(t, "&#13;\n", text(-1, "\r\n"))
	wantContent(t, "\r&#10;", text(-1, "\n\n"))
	wantContent(t, "\r<![CDATA[\n]]>", text(-1, "\n\n"))
	wantContent(t, "<![CDATA[\r]]>\n", text(-1, "\n\n"))
	wantContent(t, "\r<b/>\n", text(-1, "\n"), el(-1, "b"), text(-1, "\n"))
}

// P7.1: references by names and by digits.
func TestReferences(t *testing.T) {
	for _, c := range []struct{ written, says string }{
		{"&lt;", "<"},
		{"&gt;", ">"},
		{"&amp;", "&"},
		{"&apos;", "'"},
		{"&quot;", `"`},
		{"&#65;", "A"},
		{"&#x41;", "A"},
		{"&#x4a;&#x4A;", "JJ"},
		{"&#" + strings.Repeat("0", 5000) + "65;", "A"},
		{"&#x" + strings.Repeat("0", 5000) + "41;", "A"},
		{"&#9;", "\t"},
		{"&#xD7FF;", "\uD7FF"},
		{"&#xE000;", "\uE000"},
		{"&#xfffd;", "\uFFFD"},
		{"&#x10000;", "\U00010000"},
		{"&#1114111;", "\U0010FFFF"},
		{"&#x10fFfF;", "\U0010FFFF"},
	} {
		wantContent(t, c.written, text(-1, c.says))
	}
	for _, c := range []struct {
		s  string
		at int
	}{
		{"&", 1},
		{"&;", 1},
		{"& ", 1},
		{"&<", 1},
		{"&l", 2},
		{"&lT;", 2},
		{"&l;", 2},
		{"&lt", 3},
		{"&lt ;", 3},
		{"&gt&", 3},
		{"&am;", 3},
		{"&ap;", 3},
		{"&apo;", 4},
		{"&ax;", 2},
		{"&quo;", 4},
		{"&nbsp;", 1},
		{"&#", 2},
		{"&#;", 2},
		{"&#a;", 2},
		{"&#X41;", 2},
		{"&#-1;", 2},
		{"&#+1;", 2},
		{"&# 65;", 2},
		{"&#65", 4},
		{"&#65 ;", 4},
		{"&#6A;", 3},
		{"&#x", 3},
		{"&#x;", 3},
		{"&#xg;", 3},
		{"&#xx41;", 3},
		{"&#x41", 5},
		{"&#0", 3},
		{"&#8;", 3},
		{"&#31;", 4},
		{"&#xD800;", 7},
		{"&#xDFFF;", 7},
		{"&#xFFFE;", 7},
		{"&#55296;", 7},
		{"&#1114112;", 8},
		{"&#1114111", 9},
		{"&#11141110;", 9},
		{"&#x110000;", 8},
		{"&#x10FFFF0;", 9},
		{"&#99999999999999999999;", 8},
		{"&#18446744073709551681;", 8},
		{"&#4294967361;", 8},
		{"&#٣;", 2},
		{"&#xＡ;", 3},
	} {
		wantContentFault(t, c.s, c.at)
	}
	wantFault(t, "<a x='&#0;'/>", api.ErrXml, 9)
	wantFault(t, "<a x='&foo;'/>", api.ErrXml, 7)
}

// P7.1: a > right behind two ] that are characters may not be; behind others it may.
func TestBrackets(t *testing.T) {
	for _, s := range []string{"]", "]]", "]]]", "] ]>", "]>", ">", ">]]", "]] >"} {
		wantContent(t, s, text(-1, s))
	}
	wantContent(t, "]]&gt;", text(-1, "]]>"))
	wantContent(t, "]&#93;>", text(-1, "]]>"))
	wantContent(t, "&#93;]>", text(-1, "]]>"))
	wantContent(t, "&#93;&#93;>", text(-1, "]]>"))
	wantContent(t, "]]<![CDATA[]]>>", text(-1, "]]>"))
	wantContent(t, "]<![CDATA[]]]>>", text(-1, "]]>"))
	wantContent(t, "<![CDATA[]]]]>>", text(-1, "]]>"))
	wantContent(t, "]<!---->]>", text(-1, "]"), note(-1, ""), text(-1, "]>"))
	wantContentFault(t, "]]>", 2)
	wantContentFault(t, "]]]>", 3)
	wantContentFault(t, "a]]>b]]>", 3)
	wantContentFault(t, "<b/>é]]>", 8)
	wantContentFault(t, "&lt;]]>", 6)
	wantContentFault(t, "<![CDATA[]]>]]>", 14)
	// A fault ahead of it, or in it, comes first.
	wantContentFault(t, "&x]]>", 1)
	wantContentFault(t, "]]>&x", 2)
}

// P7.1: texts, references and cdatas beside each other are one Text; none, if they say nothing.
func TestTexts(t *testing.T) {
	wantContent(t, "")
	wantContent(t, "<![CDATA[]]>")
	wantContent(t, "<![CDATA[]]><![CDATA[]]>")
	wantContent(t, "a&amp;<![CDATA[&amp;]]>b", text(-1, "a&&amp;b"))
	wantContent(t, "a<b/>c<!--d-->e<?f?>g", text(-1, "a"), el(-1, "b"), text(-1, "c"), note(-1, "d"), text(-1, "e"), inst(-1, "f", ""), text(-1, "g"))
	wantContent(t, "<![CDATA[]]><b/><![CDATA[]]>", el(-1, "b"))
	wantContent(t, "<b/> <b/>", el(-1, "b"), text(-1, " "), el(-1, "b"))
	wantContent(t, "<b>t</b>u", el(-1, "b"), text(0, "t"), text(-1, "u"))
}

// P7.1: cdatas go up to the first ]]>.
func TestCdatas(t *testing.T) {
	wantContent(t, "<![CDATA[<a>&lt;</a>]]>", text(-1, "<a>&lt;</a>"))
	wantContent(t, "<![CDATA[]]]>", text(-1, "]"))
	wantContent(t, "<![CDATA[]] >]]>", text(-1, "]] >"))
	wantContent(t, "<![CDATA[<![CDATA[]]>", text(-1, "<![CDATA["))
	wantContent(t, "<![CDATA[--?>]]>", text(-1, "--?>"))
	for _, c := range []struct {
		s  string
		at int
	}{
		{"<![", 3},
		{"<![cdata[]]>", 3},
		{"<![CDATA", 8},
		{"<![CDATA ", 8},
		{"<![CDATA[", 9},
		{"<![CDATA[é]]", 13},
	} {
		wantContentFault(t, c.s, c.at)
	}
}

// P7.1: comments go up to the first two -, behind which > stands.
func TestComments(t *testing.T) {
	for _, value := range []string{"", "c", " ", "-c", "->", ">", "- -c", "<a>&lt;", "]]>", "?>", "é"} {
		s := "<!--" + value + "-->"
		wantContent(t, s, note(-1, value))
		wantDocument(t, s+"<a/>"+s, root, note(0, value), el(0, "a"), note(0, value))
	}
	for _, c := range []struct {
		s  string
		at int
	}{
		{"<!", 2},
		{"<!-", 3},
		{"<!->", 3},
		{"<! -->", 2},
		{"<!--", 4},
		{"<!-->", 5},
		{"<!--->", 6},
		{"<!----", 6},
		{"<!-----", 6},
		{"<!---- >", 6},
		{"<!--a--->", 7},
		{"<!--é--b-->", 8},
	} {
		wantContentFault(t, c.s, c.at)
		wantFault(t, c.s, api.ErrXml, c.at)
		wantFault(t, "<a/>"+c.s, api.ErrXml, c.at+4)
	}
}

// P7.1: instructions go up to the first ?>, and say what stands behind the blanks.
func TestInstructions(t *testing.T) {
	for _, c := range []struct{ written, name, value string }{
		{"p", "p", ""},
		{"p ", "p", ""},
		{"p \t\r\n", "p", ""},
		{"p v", "p", "v"},
		{"p \r\n\tv ", "p", "v "},
		{"p ?", "p", "?"},
		{"p ??", "p", "??"},
		{"p ?v>", "p", "?v>"},
		{"p <a>&lt;--]]>", "p", "<a>&lt;--]]>"},
		{"xmlé", "xmlé", ""},
		{"xml1", "xml1", ""},
		{"XML-x y", "XML-x", "y"},
		{"xm", "xm", ""},
	} {
		s := "<?" + c.written + "?>"
		wantContent(t, s, inst(-1, c.name, c.value))
		wantDocument(t, s+"<a/>"+s, root, inst(0, c.name, c.value), el(0, "a"), inst(0, c.name, c.value))
	}
	for _, c := range []struct {
		s  string
		at int
	}{
		{"<?", 2},
		{"<??>", 2},
		{"<? p?>", 2},
		{"<?1?>", 2},
		{"<?p", 3},
		{"<?p:q?>", 3},
		{"<?p>", 3},
		{"<?p?", 4},
		{"<?p?q?>", 4},
		{"<?p ", 4},
		{"<?p ?", 5},
		{"<?p q", 5},
		{"<?xml", 5},
		{"<?XML?>", 5},
		{"<?xMl ?>", 5},
		{"<?Xml\n?>", 5},
	} {
		wantContentFault(t, c.s, c.at)
		wantFault(t, c.s, api.ErrXml, c.at)
		wantFault(t, "<a/>"+c.s, api.ErrXml, c.at+4)
	}
}

// P7.1: names have at most MaxName bytes: the character that goes beyond may not stand there.
func TestNames(t *testing.T) {
	full := strings.Repeat("n", api.MaxName)
	wide := strings.Repeat("é", api.MaxName/2)
	for _, name := range []string{full, wide, "_", "é", "\uFFFD", "\U00010000", "a.-1·", "a\u203F"} {
		wantContent(t, "<"+name+" "+name+"=''></"+name+">", el(-1, name), at(0, name, ""))
		wantContent(t, "<"+name+"/>", el(-1, name))
		wantContent(t, "<?"+name+"?>", inst(-1, name, ""))
	}
	for _, c := range []struct {
		name string
		at   int
	}{
		{full + "n", api.MaxName},
		{full + "é", api.MaxName},
		{wide + "n", api.MaxName},
		{full[1:] + "é", api.MaxName - 1},
		{full[1:] + "\U00010000n", api.MaxName - 1},
		{strings.Repeat("n", 5000), api.MaxName},
		{"-a", 0},
		{".a", 0},
		{"1a", 0},
		{"·a", 0},
		{"a:b", 1},
		{"é×", 2},
	} {
		wantContentFault(t, "<"+c.name+"/>", c.at+1)
		wantContentFault(t, "<a "+c.name+"=''/>", c.at+3)
		wantContentFault(t, "<?"+c.name+"?>", c.at+2)
	}
	wantContentFault(t, "<"+full+"></"+full+"n>", 2*api.MaxName+4)
}

// P7.1: {ErrByte, At} is told of the first byte at which no character of texts stands, ahead of all that is wrong with the rest.
func TestWrongBytes(t *testing.T) {
	for _, wrong := range []string{
		"\xff", "\x00", "\x0b", "\x1f", "\x80", "\xc3", "\xc0\x80", "\xe2\x82", "\xed\xa0\x80", "\xef\xbf\xbe", "\uFFFF", "\xf4\x90\x80\x80", "\xf0\x9f\x98",
	} {
		for _, c := range []struct{ before, after string }{
			{"", ""}, {"<a>", "</a>"}, {"<a>é", ""}, {"<a>\uFFFD", "</a>"}, {"</", "\xff"}, {"<a x='1' x='2'/>", ""}, {"]]>&", "&"}, {strings.Repeat("<a>", 100), ""},
		} {
			s := c.before + wrong + c.after
			wantFault(t, s, api.ErrByte, len(c.before))
			wantFragmentFault(t, s, api.ErrByte, len(c.before))
		}
	}
	wantContent(t, "\t\n \uFFFD\uD7FF\uE000\U00010000\U0010FFFF\x7f\u0080", text(-1, "\t\n \uFFFD\uD7FF\uE000\U00010000\U0010FFFF\x7f\u0080"))
}

// P7.1: {ErrLong, 0} is told of more than MaxText bytes, whatever they are.
func TestLongTexts(t *testing.T) {
	full := strings.Repeat("x", api.MaxText-7)
	wantDocument(t, "<a>"+full+"</a>", root, el(0, "a"), text(1, full))
	wantFault(t, "<a>"+full+"</a>x", api.ErrLong, 0)
	wantFault(t, "<a>"+full+"</a> ", api.ErrLong, 0)
	full = strings.Repeat("é", api.MaxText/2)
	wantFragment(t, full, text(-1, full))
	wantFragmentFault(t, full+"x", api.ErrLong, 0)
	for _, s := range []string{"\xff", "<", "x", " "} {
		long := strings.Repeat(s, api.MaxText+1)
		wantFault(t, long, api.ErrLong, 0)
		wantFragmentFault(t, long, api.ErrLong, 0)
	}
	wantFault(t, strings.Repeat(" ", api.MaxText), api.ErrXml, api.MaxText)
	wantFault(t, strings.Repeat("\xff", api.MaxText), api.ErrByte, 0)
}

// P7.1: {ErrAttribute, At} is told of the first attribute whose name its element has already.
func TestAttributesTwice(t *testing.T) {
	for _, c := range []struct {
		s  string
		at int
	}{
		{"<a x='1' x='1'/>", 9},
		{"<a x='1' y='2' y='3' x='4'/>", 15},
		{"<a x='1' y='2' x='3' x='4'/>", 15},
		{"<a é='1'\n\té ='2'></a>", 11},
		{"<a x='1'><b x='1' y='2' y='2'/></a>", 24},
		{"<a><b x='1' x='1'/><c y='2' y='2'/></a>", 12},
		{"<a><b x='1'><c x='2' x='3'/></b></a>", 21},
		{"<a x='1' z='' x='2'>&lt;<!--c--></a>", 14},
	} {
		wantFault(t, c.s, api.ErrAttribute, c.at)
		wantFragmentFault(t, "t"+c.s, api.ErrAttribute, c.at+1)
		// No document comes first, wherever it is wrong.
		wantFault(t, c.s+"<", api.ErrXml, len(c.s)+1)
		wantFault(t, "<r>"+c.s, api.ErrXml, len(c.s)+3)
		wantFragmentFault(t, c.s+"&", api.ErrXml, len(c.s)+1)
	}
	wantContent(t, "<a x='1' X='1'/>", el(-1, "a"), at(0, "x", "1"), at(0, "X", "1"))
	wantContent(t, "<x x='1'><x x='1'/></x>", el(-1, "x"), at(0, "x", "1"), el(0, "x"), at(2, "x", "1"))
	wantContent(t, "<x y='1'><x/></x><x y='1'/>", el(-1, "x"), at(0, "y", "1"), el(0, "x"), el(-1, "x"), at(3, "y", "1"))
}

// nested is elements within one another, about some text.
func nested(n int, within string) string {
	return strings.Repeat("<e>", n) + within + strings.Repeat("</e>", n)
}

// P7.1: {ErrDeep, At} is told of the first element that is too deep.
func TestDepth(t *testing.T) {
	const most = api.MaxDepth
	for _, call := range []func(string) ([]api.Node, api.Fault){parse.Document, parse.Fragment} {
		if got, fault := call(nested(most, "<!--c-->t<?p?>")); fault != (api.Fault{}) || len(got) < most+3 {
			t.Errorf("60 deep: %d nodes, %v", len(got), fault)
		}
		for _, c := range []struct {
			s  string
			at int
		}{
			{nested(most+1, ""), 3 * most},
			{nested(most, "t<b/>"), 3*most + 1},
			{nested(most, "<b><c/></b><d/>"), 3 * most},
			{nested(9000, ""), 3 * most},
			{"<r>" + nested(10, "") + nested(most, "") + "</r>", 3 + 70 + 3*(most-1)},
			{"<r>" + nested(most-1, "") + nested(most, "") + "</r>", 3 + 7*(most-1) + 3*(most-1)},
		} {
			if got, fault := call(c.s); fault != (api.Fault{Err: api.ErrDeep, At: c.at}) || got != nil {
				t.Errorf("%s: %v, not at %d", short(c.s), fault, c.at)
			}
		}
		// No document, and an attribute twice, come first, even behind it.
		deep := nested(most+1, "")
		for _, c := range []struct {
			s    string
			want api.Fault
		}{
			{"<r>" + deep, api.Fault{Err: api.ErrXml, At: len(deep) + 3}},
			{strings.Repeat("<e>", api.MaxText/3), api.Fault{Err: api.ErrXml, At: api.MaxText / 3 * 3}},
			{"<r>" + deep + "<b x='' x=''/></r>", api.Fault{Err: api.ErrAttribute, At: len(deep) + 11}},
		} {
			if _, fault := call(c.s); fault != c.want {
				t.Errorf("%s: %v, not %v", short(c.s), fault, c.want)
			}
		}
	}
	wantFragmentFault(t, "<a/>"+nested(most+1, ""), api.ErrDeep, 3*most+4)
}

// P7.1: {ErrLong, 0} is told of more than MaxNodes nodes, behind all other faults.
func TestManyNodes(t *testing.T) {
	most := func(pairs int) string { return strings.Repeat("<b/>x", pairs) }
	got, fault := parse.Document("<a>" + most(api.MaxNodes/2-1) + "</a>")
	if fault != (api.Fault{}) || len(got) != api.MaxNodes || tree.Check(got) != api.OK {
		t.Errorf("%d nodes, %v", len(got), fault)
	}
	wantFault(t, "<a>x"+most(api.MaxNodes/2-1)+"</a>", api.ErrLong, 0)
	wantFault(t, "<!----><a>"+most(api.MaxNodes/2-1)+"</a>", api.ErrLong, 0)
	wantFault(t, "<a y=''>"+most(api.MaxNodes/2-1)+"</a>", api.ErrLong, 0)
	got, fault = parse.Fragment(most(api.MaxNodes / 2))
	if fault != (api.Fault{}) || len(got) != api.MaxNodes || tree.Fragment(got) != api.OK {
		t.Errorf("%d nodes, %v", len(got), fault)
	}
	many := most(api.MaxNodes/2) + "<b/>"
	wantFragmentFault(t, many, api.ErrLong, 0)
	wantFragmentFault(t, many+"]]>", api.ErrXml, len(many)+2)
	wantFragmentFault(t, many+"<b x='' x=''/>", api.ErrAttribute, len(many)+8)
	wantFragmentFault(t, many+nested(api.MaxDepth+1, ""), api.ErrDeep, len(many)+3*api.MaxDepth)
	// Texts that are joined count as one.
	wantFragment(t, strings.Repeat("x<![CDATA[]]>", 5000), text(-1, strings.Repeat("x", 5000)))
	wantFragment(t, strings.Repeat("&lt;", api.MaxNodes), text(-1, strings.Repeat("<", api.MaxNodes)))
}

// P7.1: an element with as many attributes as there is room for.
func TestManyAttributes(t *testing.T) {
	var s strings.Builder
	s.WriteString("<a")
	for i := range 6000 {
		fmt.Fprintf(&s, " n%d=''", i)
	}
	got, fault := parse.Document(s.String() + "/>")
	if fault != (api.Fault{}) || len(got) != 6002 || tree.Check(got) != api.OK {
		t.Errorf("%d nodes, %v", len(got), fault)
	}
	wantFault(t, s.String()+" n0=''/>", api.ErrAttribute, s.Len()+1)
}

// P7.3: a document's text, but for a declaration, makes the same nodes in another one's content.
func TestDocumentsWithinOthers(t *testing.T) {
	for _, s := range []string{
		"<a/>",
		"<!--c--><?p v?><a x='1'>t<b>u</b></a><!---->",
		"<a>\r\n&lt;<![CDATA[]]]]></a>",
		"<é x\r=\t''/>",
	} {
		alone, fault := parse.Document(s)
		if fault != (api.Fault{}) {
			t.Fatalf("Document(%s): %v", s, fault)
		}
		want := []api.Node{root, el(0, "r"), text(1, "t")}
		wantTops := []api.Node{}
		for _, n := range alone[1:] {
			wantTops = append(wantTops, n)
			wantTops[len(wantTops)-1].Parent--
			n.Parent += 2
			if n.Parent == 2 {
				n.Parent = 1
			}
			want = append(want, n)
		}
		wantDocument(t, "<r>t"+s+"</r>", want...)
		wantFragment(t, s, wantTops...)
	}
}

// P7.3: blanks ahead of and behind a document's element change nothing.
func TestBlanksAbout(t *testing.T) {
	want, _ := parse.Document("<!--c--><a> t</a><?p?>")
	for _, blanks := range []string{" ", "\t", "\n", "\r", "\r\n", " \r\r\n\t"} {
		wantDocument(t, "<!--c-->"+blanks+"<a> t</a>"+blanks+"<?p?>", want...)
		wantDocument(t, blanks+"<!--c--><a> t</a><?p?>"+blanks, want...)
		wantDocument(t, "<?xml version='1.0'?>"+blanks+"<!--c--><a> t</a><?p?>", want...)
	}
	wantFault(t, "<a/>\u00A0", api.ErrXml, 4)
	wantFault(t, "\u2028<a/>", api.ErrXml, 0)
}

// R3: the text is not kept: what is told stays as it is, whatever becomes of the text's bytes.
func TestTextIsNotKept(t *testing.T) {
	const s = "<!--c--><a x='v' y='&lt;w'>t<![CDATA[u]]><b/>&amp;</a><?p q?>"
	want, _ := parse.Document(s)
	memory := []byte(s)
	got, _ := parse.Document(unsafe.String(&memory[0], len(memory)))
	tops, _ := parse.Fragment(unsafe.String(&memory[0], len(memory)))
	wantTops, _ := parse.Fragment(s)
	if string(memory) != s {
		t.Errorf("the text has become %q", memory)
	}
	for i := range memory {
		memory[i] = '#'
	}
	if !slices.Equal(got, want) || !slices.Equal(tops, wantTops) {
		t.Errorf("the nodes have become %v, %v", got, tops)
	}
}

// R3, R4: two answers share no list, and are the same.
func TestAnswersAreNew(t *testing.T) {
	for _, call := range []func(string) ([]api.Node, api.Fault){parse.Document, parse.Fragment} {
		const s = "<a x='1'>t<b/></a>"
		one, _ := call(s)
		other, _ := call(s)
		want := slices.Clone(other)
		for i := range one[:cap(one)] {
			one[:cap(one)][i] = note(-9, "gone")
		}
		again, _ := call(s)
		if !slices.Equal(other, want) || !slices.Equal(again, want) {
			t.Errorf("answers share memory: %v, %v", other, again)
		}
	}
}
