package parse

import (
	"strings"
	"unicode/utf8"

	"parchment/api"
	"parchment/chars"
)

// reader goes through a text, and puts down the nodes that it says. Faults that count only where the text keeps to the grammar to its end wait in it.
type reader struct {
	text  string
	at    int
	nodes []api.Node
	depth int            // how many elements are open
	owner map[string]int // by an attribute's name: the element that was the last to have one
	twice api.Fault      // of the first attribute whose name its element has already
	deep  api.Fault      // of the first element that is too deep
}

func newReader(s string) *reader {
	return &reader{text: s, owner: map[string]int{}}
}

// misplaced is the fault that what stands here may not.
func (r *reader) misplaced() api.Fault {
	return api.Fault{Err: api.ErrXml, At: r.at}
}

// put puts a node down, and tells its place. The node has its own copies: a piece of the text would keep all of it.
func (r *reader) put(kind api.Kind, name, value string, parent int) int {
	r.nodes = append(r.nodes, api.Node{
		Kind:   kind,
		Name:   strings.Clone(name),
		Value:  strings.Clone(value),
		Parent: parent,
	})
	return len(r.nodes) - 1
}

// putElement puts down an element that begins at a place of the text.
func (r *reader) putElement(name string, parent, at int) int {
	if r.depth > api.MaxDepth && r.deep.Err == api.OK {
		r.deep = api.Fault{Err: api.ErrDeep, At: at}
	}
	return r.put(api.Element, name, "", parent)
}

// putAttribute puts down an attribute whose name is at a place of the text.
func (r *reader) putAttribute(name, value string, parent, at int) {
	if owner, taken := r.owner[name]; taken && owner == parent && r.twice.Err == api.OK {
		r.twice = api.Fault{Err: api.ErrAttribute, At: at}
	}
	r.owner[name] = parent
	r.put(api.Attribute, name, value, parent)
}

// rest is what is not read yet.
func (r *reader) rest() string {
	return r.text[r.at:]
}

// stands tells whether a word stands here.
func (r *reader) stands(word string) bool {
	return strings.HasPrefix(r.rest(), word)
}

// ahead is the character that stands here, and how many bytes it has; at the end -1, which is no character.
func (r *reader) ahead() (rune, int) {
	if r.rest() == "" {
		return -1, 0
	}
	return utf8.DecodeRuneInString(r.rest())
}

// one goes over a character that must be one of those given.
func (r *reader) one(of string) string {
	c, n := r.ahead()
	if !strings.ContainsRune(of, c) {
		panic(r.misplaced())
	}
	r.at += n
	return string(c)
}

// word goes over characters that must be these. They are held against each other one by one, since two that differ may begin with the same bytes.
func (r *reader) word(these string) {
	for _, c := range these {
		r.one(string(c))
	}
}

// blanks goes over those that stand here, and tells whether there was one.
func (r *reader) blanks() bool {
	start := r.at
	for r.rest() != "" && chars.Blank(r.rest()[:1]) {
		r.at++
	}
	return r.at > start
}

// characters goes over those up to one of stops, or to the end: at least one must stand there.
func (r *reader) characters(stops string) string {
	run := r.rest()
	if n := strings.IndexAny(run, stops); n >= 0 {
		run = run[:n]
	}
	if run == "" {
		panic(r.misplaced())
	}
	r.at += len(run)
	return run
}

// until tells what stands ahead of an end, and goes to that end.
func (r *reader) until(end string) string {
	said, _, found := strings.Cut(r.rest(), end)
	r.at += len(said)
	if !found {
		panic(r.misplaced())
	}
	return lines(said)
}

// lines is what a text says whose lines end as they like.
func lines(s string) string {
	return strings.ReplaceAll(strings.ReplaceAll(s, "\r\n", "\n"), "\r", "\n")
}

// flat is what a value's characters say.
func flat(s string) string {
	return strings.ReplaceAll(strings.ReplaceAll(lines(s), "\n", " "), "\t", " ")
}

// alike is how many bytes two texts have in common from their beginning on.
func alike(a, b string) int {
	n := 0
	for n < min(len(a), len(b)) && a[n] == b[n] {
		n++
	}
	return n
}
