package parse

import (
	"strings"
	"unicode/utf8"

	"parchment/api"
	"parchment/chars"
)

// entities are the references that have names, and what they say.
var entities = [...]struct{ word, says string }{
	{"&lt;", "<"},
	{"&gt;", ">"},
	{"&amp;", "&"},
	{"&apos;", "'"},
	{"&quot;", "\""},
}

func (r *reader) document() {
	root := r.put(api.Root, "", "", -1)
	r.declaration()
	r.misc(root)
	r.element(root)
	r.misc(root)
	r.end()
}

func (r *reader) fragment() {
	r.content(-1)
	r.end()
}

// end refuses what is left where all is read. A < might yet have begun something: only what is behind it may not stand there.
func (r *reader) end() {
	if r.rest() != "" {
		r.word("<")
		panic(r.misplaced())
	}
}

// declaration reads one, if the text begins so: without a blank there, it is a pi, if anything.
func (r *reader) declaration() {
	const opening = "<?xml"
	if !r.stands(opening) {
		return
	}
	r.at = len(opening)
	if !r.blanks() {
		r.at = 0
		return
	}
	r.word("version")
	r.equals()
	r.quoted("1", ".", "0")
	if r.blanks() && r.stands("e") {
		r.word("encoding")
		r.equals()
		r.quoted("uU", "tT", "fF", "-", "8")
		r.blanks()
	}
	r.word("?>")
}

// quoted goes over quotes and, between them, a character of each of the rows.
func (r *reader) quoted(rows ...string) {
	quote := r.one("\"'")
	for _, row := range rows {
		r.one(row)
	}
	r.word(quote)
}

func (r *reader) misc(parent int) {
	for {
		switch {
		case r.stands("<!"):
			r.comment(parent)
		case r.stands("<?"):
			r.instruction(parent)
		case !r.blanks():
			return
		}
	}
}

func (r *reader) element(parent int) {
	start := r.at
	r.word("<")
	name := r.name()
	r.depth++
	element := r.putElement(name, parent, start)
	r.attributes(element)
	if r.stands("/") {
		r.word("/>")
	} else {
		r.word(">")
		r.content(element)
		r.word("</")
		r.word(name)
		r.blanks()
		r.word(">")
	}
	r.depth--
}

func (r *reader) attributes(element int) {
	for r.blanks() && !r.stands("/") && !r.stands(">") {
		start := r.at
		name := r.name()
		r.equals()
		r.putAttribute(name, r.value(), element, start)
	}
}

func (r *reader) value() string {
	quote := r.one("\"'")
	var said strings.Builder
	for !r.stands(quote) {
		if r.stands("&") {
			said.WriteString(r.reference())
		} else {
			said.WriteString(flat(r.characters("<&" + quote)))
		}
	}
	r.word(quote)
	return said.String()
}

// content reads up to the end of what it is in: the text's, or an element's.
func (r *reader) content(parent int) {
	for {
		r.texts(parent)
		switch {
		case r.rest() == "", r.stands("</"):
			return
		case r.stands("<!"):
			r.comment(parent)
		case r.stands("<?"):
			r.instruction(parent)
		default:
			r.element(parent)
		}
	}
}

// texts reads all that says one Text.
func (r *reader) texts(parent int) {
	var said strings.Builder
	for {
		switch {
		case r.stands("<!["):
			said.WriteString(r.cdata())
		case r.stands("&"):
			said.WriteString(r.reference())
		case r.rest() != "" && !r.stands("<"):
			said.WriteString(r.plain())
		default:
			if said.Len() > 0 {
				r.put(api.Text, "", said.String(), parent)
			}
			return
		}
	}
}

// plain reads characters of content that stand right behind each other.
func (r *reader) plain() string {
	start := r.at
	run := r.characters("<&")
	if ahead, _, found := strings.Cut(run, "]]>"); found {
		r.at = start + len(ahead) + len("]]")
		panic(r.misplaced())
	}
	return lines(run)
}

func (r *reader) cdata() string {
	r.word("<![CDATA[")
	said := r.until("]]>")
	r.word("]]>")
	return said
}

func (r *reader) comment(parent int) {
	r.word("<!--")
	value := r.until("--")
	r.word("-->")
	r.put(api.Comment, "", value, parent)
}

func (r *reader) instruction(parent int) {
	r.word("<?")
	name := r.name()
	// More of the name might have followed: it is what ends it that may not stand there.
	if strings.EqualFold(name, "xml") {
		panic(r.misplaced())
	}
	value := ""
	if r.blanks() {
		value = r.until("?>")
	}
	r.word("?>")
	r.put(api.Instruction, name, value, parent)
}

// reference reads one, and tells what it says. One that is none goes wrong where the name that it is like the longest does.
func (r *reader) reference() string {
	if r.stands("&#") {
		return r.number()
	}
	longest := 0
	for _, e := range entities {
		n := alike(r.rest(), e.word)
		if n == len(e.word) {
			r.at += n
			return e.says
		}
		longest = max(longest, n)
	}
	r.at += longest
	panic(r.misplaced())
}

// number reads a reference by digits. A number that is no character may become one by a digit more, unless it is too great; no digits say 0, which is none.
func (r *reader) number() string {
	r.word("&#")
	base := rune(10)
	if r.stands("x") {
		r.word("x")
		base = 16
	}
	said := rune(0)
	for {
		c, n := r.ahead()
		d := digit(c)
		if d < 0 || d >= base {
			break
		}
		said = said*base + d
		if said > utf8.MaxRune {
			panic(r.misplaced())
		}
		r.at += n
	}
	if !chars.Char(said) {
		panic(r.misplaced())
	}
	r.word(";")
	return string(said)
}

// digit is what a digit says, or -1.
func digit(c rune) rune {
	switch {
	case '0' <= c && c <= '9':
		return c - '0'
	case 'a' <= c && c <= 'f':
		return c - 'a' + 10
	case 'A' <= c && c <= 'F':
		return c - 'A' + 10
	}
	return -1
}

func (r *reader) equals() {
	r.blanks()
	r.word("=")
	r.blanks()
}

func (r *reader) name() string {
	start := r.at
	c, n := r.ahead()
	if !chars.NameStart(c) {
		panic(r.misplaced())
	}
	for chars.NameChar(c) {
		if r.at+n-start > api.MaxName {
			panic(r.misplaced())
		}
		r.at += n
		c, n = r.ahead()
	}
	return r.text[start:r.at]
}
