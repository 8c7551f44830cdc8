package parse_test

import (
	"math/rand"
	"slices"
	"strings"
	"testing"
	"unicode/utf8"

	"parchment/api"
	"parchment/chars"
	"parchment/parse"
	"parchment/tree"
)

// The model is the chapter's grammar, rule by rule. It goes through a text character by character, and keeps all that might be under way: where nothing is left, that character may not stand there.

// memory is what was read ahead of a place: never changed, but handed on.
type memory struct {
	at     int // of the next character
	nodes  []api.Node
	places []int  // by nodes: where a name, or a <, stands
	text   string // what the texts under way say
	open   []int  // elements about the place, the root ahead of them
	closes int    // ] that are characters, right ahead
	cr     bool   // a byte 13 stands right ahead, and was read as 10
}

// state is one thing that may be under way: a character is read, or the text may end.
type state struct {
	take func(c rune, at int) []state
	end  *memory
}

// rule reads on from a place, and then goes on.
type rule func(m memory, then func(memory) []state) []state

// one reads one character, if it may be, and says something by it.
func one(may func(rune) bool, say func(memory, rune) memory) rule {
	return func(m memory, then func(memory) []state) []state {
		return []state{{take: func(c rune, at int) []state {
			if !may(c) {
				return nil
			}
			m := m
			if say != nil {
				m = say(m, c)
			}
			m.at = at + utf8.RuneLen(c)
			return then(m)
		}}}
	}
}

// all reads one rule after the other.
func all(rules ...rule) rule {
	return func(m memory, then func(memory) []state) []state {
		if len(rules) == 0 {
			return then(m)
		}
		return rules[0](m, func(m memory) []state { return all(rules[1:]...)(m, then) })
	}
}

// either reads one rule or another.
func either(rules ...rule) rule {
	return func(m memory, then func(memory) []state) []state {
		var out []state
		for _, r := range rules {
			out = append(out, r(m, then)...)
		}
		return out
	}
}

// perhaps is [ ], anyOf is ( )*.
func perhaps(r rule) rule { return either(all(), r) }

func anyOf(r rule) rule {
	return func(m memory, then func(memory) []state) []state {
		return either(all(), all(r, anyOf(r)))(m, then)
	}
}

// say reads nothing, and says something.
func say(what func(memory) memory) rule {
	return func(m memory, then func(memory) []state) []state { return then(what(m)) }
}

// among reads one of some characters.
func among(these string) rule {
	return one(func(c rune) bool { return strings.ContainsRune(these, c) }, nil)
}

// word reads just these characters.
func word(these string) rule {
	var rules []rule
	for _, c := range these {
		rules = append(rules, among(string(c)))
	}
	return all(rules...)
}

var (
	blank  = among("\t\n\r ")
	blanks = anyOf(blank)
	eq     = all(blanks, word("="), blanks)
)

// name reads one, and goes on as it says.
func name(then func(name string, at int) rule) rule {
	return func(m memory, last func(memory) []state) []state {
		return more("", m.at, then)(m, last)
	}
}

func more(read string, start int, then func(string, int) rule) rule {
	next := func(m memory, last func(memory) []state) []state {
		return []state{{take: func(c rune, at int) []state {
			longer := read + string(c)
			if !chars.Name(longer) {
				return nil
			}
			m := m
			m.at = at + utf8.RuneLen(c)
			return more(longer, start, then)(m, last)
		}}}
	}
	if read == "" {
		return next
	}
	return either(next, then(read, start))
}

func node(m memory, at int, n api.Node) memory {
	m.nodes = append(slices.Clip(m.nodes), n)
	m.places = append(slices.Clip(m.places), at)
	return m
}

// parent is the node about a place.
func parent(m memory) int {
	if len(m.open) == 0 {
		return -1
	}
	return m.open[len(m.open)-1]
}

// flush makes a Text of what the texts say that end here.
func flush(m memory) memory {
	if m.text != "" {
		m = node(m, m.at, api.Node{Kind: api.Text, Value: m.text, Parent: parent(m)})
	}
	m.text, m.closes, m.cr = "", 0, false
	return m
}

// char says a character that stands there: line ends say 10.
func char(m memory, c rune) memory {
	if c == '\n' && m.cr {
		m.cr = false
		return m
	}
	m.cr = c == '\r'
	if m.cr {
		c = '\n'
	}
	m.text += string(c)
	return m
}

// sayText is a character of content.
func sayText(m memory, c rune) memory {
	m = char(m, c)
	if c == ']' {
		m.closes++
	} else {
		m.closes = 0
	}
	return m
}

func document(m memory, then func(memory) []state) []state {
	m = node(m, 0, api.Node{Kind: api.Root, Parent: -1})
	m.open = []int{0}
	misc := either(blank, comment, pi)
	return all(perhaps(declaration), anyOf(misc), element, anyOf(misc))(m, then)
}

func declaration(m memory, then func(memory) []state) []state {
	quoted := func(r rule) rule {
		return either(all(word(`"`), r, word(`"`)), all(word("'"), r, word("'")))
	}
	utf := all(among("uU"), among("tT"), among("fF"), word("-8"))
	encoding := all(blank, blanks, word("encoding"), eq, quoted(utf))
	return all(word("<?xml"), blank, blanks, word("version"), eq, quoted(word("1.0")), perhaps(encoding), blanks, word("?>"))(m, then)
}

func element(m memory, then func(memory) []state) []state {
	start := m.at
	return all(word("<"), name(func(first string, _ int) rule {
		begin := say(func(m memory) memory {
			m = node(m, start, api.Node{Kind: api.Element, Name: first, Parent: parent(m)})
			m.open = append(slices.Clip(m.open), len(m.nodes)-1)
			return m
		})
		close := say(func(m memory) memory {
			m = flush(m)
			m.open = m.open[:len(m.open)-1]
			return m
		})
		attributes := anyOf(all(blank, blanks, name(attribute)))
		full := all(word(">"), content, word("</"), word(first), blanks, word(">"))
		return all(begin, attributes, blanks, either(word("/>"), full), close)
	}))(m, then)
}

func attribute(name string, start int) rule {
	put := say(func(m memory) memory {
		m = node(m, start, api.Node{Kind: api.Attribute, Name: name, Value: m.text, Parent: parent(m)})
		m.text, m.cr = "", false
		return m
	})
	return all(eq, either(value('"'), value('\'')), put)
}

func value(quote rune) rule {
	may := func(c rune) bool { return c != '<' && c != '&' && c != quote }
	say := func(m memory, c rune) memory {
		before := len(m.text)
		m = char(m, c)
		m.text = m.text[:before] + strings.Map(func(c rune) rune {
			if strings.ContainsRune("\t\n", c) {
				return ' '
			}
			return c
		}, m.text[before:])
		return m
	}
	return all(word(string(quote)), anyOf(either(one(may, say), reference)), word(string(quote)))
}

func content(m memory, then func(memory) []state) []state {
	character := func(m memory, then func(memory) []state) []state {
		may := func(c rune) bool { return c != '<' && c != '&' && !(c == '>' && m.closes >= 2) }
		return one(may, sayText)(m, then)
	}
	part := func(r rule) rule { return all(say(flush), r) }
	return anyOf(either(character, reference, cdata, part(element), part(comment), part(pi)))(m, then)
}

func reference(m memory, then func(memory) []state) []state {
	says := func(text string) rule {
		return say(func(m memory) memory {
			m.text += text
			m.closes, m.cr = 0, false
			return m
		})
	}
	by := func(begin, digits string) rule {
		return all(word(begin), func(m memory, then func(memory) []state) []state {
			return number(digits, 0, 0, says)(m, then)
		})
	}
	return either(
		all(word("&lt;"), says("<")),
		all(word("&gt;"), says(">")),
		all(word("&amp;"), says("&")),
		all(word("&apos;"), says("'")),
		all(word("&quot;"), says(`"`)),
		by("&#", "0123456789"),
		by("&#x", "0123456789abcdef"),
	)(m, then)
}

// number reads digits as long as they, or more of them, say a character.
func number(digits string, count, said int, says func(string) rule) rule {
	return func(m memory, then func(memory) []state) []state {
		var out []state
		if count > 0 && chars.Char(rune(said)) {
			out = all(word(";"), says(string(rune(said))))(m, then)
		}
		return append(out, state{take: func(c rune, at int) []state {
			if 'A' <= c && c <= 'F' {
				c += 'a' - 'A'
			}
			d := strings.IndexRune(digits, c)
			if d < 0 || !becomes(said*len(digits)+d, len(digits)) {
				return nil
			}
			m := m
			m.at = at + 1
			return number(digits, count+1, said*len(digits)+d, says)(m, then)
		}})
	}
}

// becomes tells whether digits behind a number make it a character.
func becomes(said, base int) bool {
	if said > utf8.MaxRune {
		return false
	}
	if chars.Char(rune(said)) {
		return true
	}
	for d := range base {
		if said+d > 0 && becomes(said*base+d, base) {
			return true
		}
	}
	return false
}

// upTo reads any characters up to the first place where the end stands, and what is there.
func upTo(end string, read string) rule {
	return func(m memory, then func(memory) []state) []state {
		if strings.HasSuffix(read, end) {
			return then(m)
		}
		return []state{{take: func(c rune, at int) []state {
			m := m
			m.at = at + utf8.RuneLen(c)
			longer := read + string(c)
			m = char(m, c)
			if strings.HasSuffix(longer, end) {
				m.text = strings.TrimSuffix(m.text, end)
				m.cr = false
			}
			return upTo(end, longer)(m, then)
		}}}
	}
}

func cdata(m memory, then func(memory) []state) []state {
	behind := say(func(m memory) memory {
		m.closes, m.cr = 0, false
		return m
	})
	return all(word("<![CDATA["), behind, upTo("]]>", ""), behind)(m, then)
}

func comment(m memory, then func(memory) []state) []state {
	start := m.at
	put := say(func(m memory) memory {
		m = node(m, start, api.Node{Kind: api.Comment, Value: m.text, Parent: parent(m)})
		m.text, m.cr = "", false
		return m
	})
	return all(word("<!--"), upTo("--", ""), word(">"), put)(m, then)
}

func pi(m memory, then func(memory) []state) []state {
	start := m.at
	return all(word("<?"), name(func(name string, _ int) rule {
		if strings.ToLower(name) == "xml" {
			return func(memory, func(memory) []state) []state { return nil }
		}
		put := say(func(m memory) memory {
			m = node(m, start, api.Node{Kind: api.Instruction, Name: name, Value: strings.TrimLeft(m.text, "\t\n\r "), Parent: parent(m)})
			m.text, m.cr = "", false
			return m
		})
		return all(either(word("?>"), all(blank, upTo("?>", ""))), put)
	}))(m, then)
}

func fragment(m memory, then func(memory) []state) []state {
	return all(content, say(flush))(m, then)
}

// model is what the chapter says of a text that is read by a rule.
func model(s string, by rule) ([]api.Node, api.Fault) {
	if len(s) > api.MaxText {
		return nil, api.Fault{Err: api.ErrLong}
	}
	for i, c := range s {
		_, n := utf8.DecodeRuneInString(s[i:])
		if !chars.Char(c) || c == utf8.RuneError && n < 3 {
			return nil, api.Fault{Err: api.ErrByte, At: i}
		}
	}
	states := by(memory{}, func(m memory) []state { return []state{{end: &m}} })
	for i, c := range s {
		var next []state
		for _, st := range states {
			if st.take != nil {
				next = append(next, st.take(c, i)...)
			}
		}
		if len(next) == 0 {
			return nil, api.Fault{Err: api.ErrXml, At: i}
		}
		states = next
	}
	var ends []memory
	for _, st := range states {
		if st.end != nil {
			ends = append(ends, *st.end)
		}
	}
	switch len(ends) {
	case 0:
		return nil, api.Fault{Err: api.ErrXml, At: len(s)}
	case 1:
		return modelJudge(ends[0])
	}
	panic("the model reads in two ways: " + s)
}

// modelJudge looks for the faults of a text that keeps to the grammar.
func modelJudge(m memory) ([]api.Node, api.Fault) {
	for i, n := range m.nodes {
		if n.Kind == api.Attribute && slices.ContainsFunc(m.nodes[:i], func(o api.Node) bool {
			return o.Kind == api.Attribute && o.Parent == n.Parent && o.Name == n.Name
		}) {
			return nil, api.Fault{Err: api.ErrAttribute, At: m.places[i]}
		}
	}
	for i, n := range m.nodes {
		depth := 0
		for up := i; n.Kind == api.Element && up >= 0 && m.nodes[up].Kind == api.Element; up = m.nodes[up].Parent {
			depth++
		}
		if depth > api.MaxDepth {
			return nil, api.Fault{Err: api.ErrDeep, At: m.places[i]}
		}
	}
	if len(m.nodes) > api.MaxNodes {
		return nil, api.Fault{Err: api.ErrLong}
	}
	return m.nodes, api.Fault{}
}

// wantAsModel holds what is told of a text, as a document and as a fragment, against the model, and asks whether it is right.
func wantAsModel(t *testing.T, s string) (documents, fragments int) {
	t.Helper()
	for i, c := range []struct {
		name  string
		call  func(string) ([]api.Node, api.Fault)
		by    rule
		check func([]api.Node) api.Errno
	}{{"Document", parse.Document, document, tree.Check}, {"Fragment", parse.Fragment, fragment, tree.Fragment}} {
		got, fault := c.call(s)
		want, wantFault := model(s, c.by)
		if fault != wantFault || !slices.Equal(got, want) {
			t.Errorf("%s(%q): %v, %v, not %v, %v", c.name, s, got, fault, want, wantFault)
		}
		if fault != (api.Fault{}) {
			continue
		}
		if e := c.check(got); e != api.OK {
			t.Errorf("%s(%q): %v is not right: %v", c.name, s, got, e)
		}
		if i == 0 {
			documents++
		} else {
			fragments++
		}
	}
	return documents, fragments
}

// eachText calls with all texts that begin so and go on with up to n of some pieces, but goes no further where nothing may follow.
func eachText(begin string, n int, pieces []string, call func(string)) {
	call(begin)
	if n == 0 || !goesOn(begin) {
		return
	}
	for _, p := range pieces {
		eachText(begin+p, n-1, pieces, call)
	}
}

// goesOn tells whether a document or a fragment may begin with s.
func goesOn(s string) bool {
	_, d := model(s, document)
	_, f := model(s, fragment)
	return d.Err != api.ErrXml || d.At == len(s) || f.Err != api.ErrXml || f.At == len(s)
}

// P7.1, P7.2: all short texts of some pieces, behind beginnings that lead into each rule.
func TestShortTexts(t *testing.T) {
	for _, c := range []struct {
		n      int
		begins []string
		pieces []string
		ends   []string
	}{
		{4, []string{"", "<"}, []string{"<", "a", "/", ">", " ", "!", "?", "-"}, []string{""}},
		{3, []string{"<a>", "<a/>", "<a ", "<a x="}, []string{"<", "a", "/", ">", "\r", "=", "'", `"`, "&lt;"}, []string{"", "/>", "</a>"}},
		{4, []string{"<a>", ""}, []string{"]", ">", "&#93;", "\r", "\n", "<![CDATA["}, []string{"", "</a>", "]]></a>"}},
		{5, []string{"<a><!--", "<!--"}, []string{"-", ">", "x", "\r"}, []string{"", "--></a>", "--><a/>"}},
		{4, []string{"<a><?p", "<?xml", "<?", "<?x"}, []string{"?", ">", "x", " ", "mL", "ml"}, []string{"", "?></a>", "?><a/>"}},
		{4, []string{"<a>&", "<a x='&", "&"}, []string{"a", "m", "p", "o", "s", ";"}, []string{"", ";</a>", "'/>"}},
		{3, []string{"<a>&", "&"}, []string{"l", "t", "g", "q", "u", "o", ";", "#", "x", "amp"}, []string{"", ";</a>"}},
		{4, []string{"<a>&#", "&#x", "&#x10", "&#11"}, []string{"0", "1", "D", "f", "x", "9", ";"}, []string{"", ";</a>", ";"}},
		{4, []string{"<?xml version='1.0'", `<?xml version="1.0"`}, []string{" ", "encoding", "=", "'Utf-8'", `"uTF-8"`, "?", ">", "e"}, []string{"", "?><a/>"}},
		{4, []string{"<?xml", "<?xml "}, []string{" ", "version", "=", "'1.0'", "'", "1.1", ".", "?"}, []string{"", "?><a/>"}},
		{3, []string{"<é>", "<éè>"}, []string{"<", "/", "é", "è", "ê", ">", " "}, []string{"", "</é>"}},
	} {
		for _, begin := range c.begins {
			t.Run(begin, func(t *testing.T) {
				t.Parallel()
				eachText(begin, c.n, c.pieces, func(s string) {
					for _, end := range c.ends {
						wantAsModel(t, s+end)
					}
				})
			})
		}
	}
}

// pick is one of some texts.
func pick(random *rand.Rand, of ...string) string {
	return of[random.Intn(len(of))]
}

// someBlanks is any number of them.
func someBlanks(random *rand.Rand, least int) string {
	out := ""
	for range least + random.Intn(3)*random.Intn(2) {
		out += pick(random, " ", "\t", "\n", "\r")
	}
	return out
}

func someName(random *rand.Rand) string {
	return pick(random, "a", "b", "é", "x-1", "xml", "xmls", "_.", "\uFFFD", "\U00010000", strings.Repeat("n", api.MaxName), strings.Repeat("é", api.MaxName/2))
}

func someReference(random *rand.Rand) string {
	return pick(random, "&lt;", "&gt;", "&amp;", "&apos;", "&quot;", "&#10;", "&#13;", "&#x9;", "&#0065;", "&#x10FfFf;", "&#xe9;")
}

func someMarkup(random *rand.Rand) string {
	if random.Intn(2) == 0 {
		return "<!--" + pick(random, "", "c", "-c", "<&", "\r", "->", "\r\n") + "-->"
	}
	return "<?" + pick(random, "p", "xm", "xmls", "é", "\uFFFD", "X-ml", strings.Repeat("n", api.MaxName)) + pick(random, "", " ", "\r\nv", " ?v ", "\tv\r\rw", " ?") + "?>"
}

func someElement(random *rand.Rand, deep int) string {
	name := someName(random)
	out := "<" + name
	for i := range random.Intn(4) {
		quote := pick(random, "'", `"`)
		an := someName(random)
		if random.Intn(4) > 0 {
			an = "a" + string(rune('0'+i))
		}
		out += someBlanks(random, 1) + an + someBlanks(random, 0) + "=" + someBlanks(random, 0) + quote
		for range random.Intn(4) {
			out += pick(random, "v", "]]>", "\r\n", "\t", "\r", " ", someReference(random))
		}
		out += quote
	}
	out += someBlanks(random, 0)
	if random.Intn(3) == 0 {
		return out + "/>"
	}
	return out + ">" + someContent(random, deep-1) + "</" + name + someBlanks(random, 0) + ">"
}

func someContent(random *rand.Rand, deep int) string {
	out := ""
	for range random.Intn(5) {
		switch kind := random.Intn(7); {
		case kind == 0 && deep > 0:
			out += someElement(random, deep)
		case kind == 1:
			out += someMarkup(random)
		case kind == 2:
			out += "<![CDATA[" + pick(random, "", "<&>", "]", "\r", "\n", "]]") + "]]>"
		case kind == 3:
			out += someReference(random)
		default:
			out += pick(random, "t", "]", "]] ", "é", "\r", "\n", "\r\n", "'", "\uFFFD", " ")
		}
	}
	return out
}

func someMisc(random *rand.Rand) string {
	out := ""
	for range random.Intn(3) {
		out += pick(random, someBlanks(random, 1), someMarkup(random))
	}
	return out
}

func someDocument(random *rand.Rand) string {
	out := ""
	if random.Intn(3) == 0 {
		out = "<?xml" + someBlanks(random, 1) + "version" + pick(random, "=", " = ") + pick(random, "'1.0'", `"1.0"`)
		out += pick(random, "", " ", " encoding='utf-8'", "\nencoding = \"UTF-8\"\r") + "?>"
	}
	return out + someMisc(random) + someElement(random, 4) + someMisc(random)
}

// bend changes one thing of a text.
func bend(random *rand.Rand, s string) string {
	if s == "" {
		return "&"
	}
	at := random.Intn(len(s))
	piece := pick(random, "<", ">", "&", ";", "/", "?", "!", "-", "--", "]]>", "'", `"`, "=", " ", "a", "é", "#", "x", "\xff", "\x00", "<a>", "</a>", "xml ", "a=''", "<!--", "<![CDATA[", "\r", "\uFFFE")
	switch random.Intn(5) {
	case 0:
		return s[:at]
	case 1:
		return s[:at] + s[at+1:]
	case 2:
		return s[:at] + piece + s[at:]
	case 3:
		return s[:at] + piece + s[at+1:]
	}
	from := random.Intn(len(s))
	return s[:at] + s[from:]
}

// P7.1 to P7.3: many documents and fragments, as they are and with something changed.
func TestManyTexts(t *testing.T) {
	random := rand.New(rand.NewSource(7))
	documents, fragments := 0, 0
	for range 1500 {
		s := someDocument(random)
		if random.Intn(3) == 0 {
			s = someContent(random, 4)
		}
		d, f := wantAsModel(t, s)
		documents, fragments = documents+d, fragments+f
		for range 6 {
			s := bend(random, s)
			if random.Intn(3) == 0 {
				s = bend(random, s)
			}
			wantAsModel(t, s)
		}
	}
	if documents < 500 || fragments < 500 {
		t.Errorf("%d documents, %d fragments were right", documents, fragments)
	}
}
