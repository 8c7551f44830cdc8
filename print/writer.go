package print

import (
	"strings"

	"parchment/api"
)

// writer is what is written so far.
type writer struct {
	strings.Builder
}

// put writes pieces, one behind the other.
func (w *writer) put(pieces ...string) {
	for _, piece := range pieces {
		w.WriteString(piece)
	}
}

// node writes a node of a row that is right, and tells the place behind its subtree. So the row is gone through once, and nobody is asked for children, who would judge the row anew for each node.
func (w *writer) node(t []api.Node, at int) int {
	switch n := t[at]; n.Kind {
	case api.Root:
		return w.kids(t, at, at+1)
	case api.Element:
		return w.element(t, at)
	case api.Attribute:
		w.put(n.Name, "=")
		w.value(n.Value)
	case api.Text:
		w.text(n.Value)
	case api.Comment:
		w.put("<!--", n.Value, "-->")
	case api.Instruction:
		w.instruction(n.Name, n.Value)
	}
	return at + 1
}

func (w *writer) element(t []api.Node, at int) int {
	name := t[at].Name
	w.put("<", name)
	next := at + 1
	for isOf(t, next, at) && t[next].Kind == api.Attribute {
		w.put(" ")
		next = w.node(t, next)
	}
	if !isOf(t, next, at) {
		w.put("/>")
		return next
	}
	w.put(">")
	next = w.kids(t, at, next)
	w.put("</", name, ">")
	return next
}

// kids writes the children of a node, the first of which would be at next, and tells the place behind them.
func (w *writer) kids(t []api.Node, parent, next int) int {
	for isOf(t, next, parent) {
		next = w.node(t, next)
	}
	return next
}

func (w *writer) instruction(name, value string) {
	w.put("<?", name)
	if value != "" {
		w.put(" ", value)
	}
	w.put("?>")
}

func (w *writer) text(s string) {
	w.escaped(s, inText)
}

func (w *writer) value(s string) {
	w.put(`"`)
	w.escaped(s, inValue)
	w.put(`"`)
}

// escaped writes bytes as they are, but those that a reference stands for.
func (w *writer) escaped(s string, reference func(byte) string) {
	start := 0
	for i := range len(s) {
		if instead := reference(s[i]); instead != "" {
			w.put(s[start:i], instead)
			start = i + 1
		}
	}
	w.put(s[start:])
}

// isOf tells whether there is a node at a place, and it is a parent's.
func isOf(t []api.Node, at, parent int) bool {
	return at < len(t) && t[at].Parent == parent
}

// inText is what stands for a byte of a text, if it does not stand there itself: a bare 13 would be read as a line's end, and a bare > might follow two ].
func inText(c byte) string {
	switch c {
	case '&':
		return "&amp;"
	case '<':
		return "&lt;"
	case '>':
		return "&gt;"
	case '\r':
		return "&#13;"
	}
	return ""
}

// inValue is what stands for a byte of a value, if it does not stand there itself: a bare blank, whichever, would be read as 32.
func inValue(c byte) string {
	switch c {
	case '&':
		return "&amp;"
	case '<':
		return "&lt;"
	case '"':
		return "&quot;"
	case '\t':
		return "&#9;"
	case '\n':
		return "&#10;"
	case '\r':
		return "&#13;"
	}
	return ""
}
