package store

import (
	"parchment/api"
	"parchment/label"
	"parchment/tree"
)

// labelled are the nodes of a right tree, each under a label: the root's is of no bytes, the others' are such as kids of one parent get.
func labelled(t []api.Node) ([]api.Held, api.Errno) {
	kids := make([][]int, len(t))
	for at, n := range t[1:] {
		kids[n.Parent] = append(kids[n.Parent], 1+at)
	}
	out := make([]api.Held, len(t))
	for at, n := range t {
		below, e := label.Kids(out[at].Label, len(kids[at]))
		if e != api.OK {
			return nil, e
		}
		out[at].Kind, out[at].Name, out[at].Value = n.Kind, n.Name, n.Value
		for i, kid := range kids[at] {
			out[kid].Label = below[i]
		}
	}
	return out, api.OK
}

// treeOf is the tree whose nodes these are, in order, and each one's label, if they are a right tree's.
func treeOf(all []api.Held) ([]api.Node, [][]byte, bool) {
	var t []api.Node
	var labels [][]byte
	places := map[string]int{}
	for at, h := range all {
		parent, is := above(places, h.Label)
		if !is {
			return nil, nil, false
		}
		places[string(h.Label)] = at
		t = append(t, api.Node{Kind: h.Kind, Name: h.Name, Value: h.Value, Parent: parent})
		labels = append(labels, h.Label)
	}
	return t, labels, tree.Check(t) == api.OK
}

// above is where the node stands whose child's label this is; -1, if it is the root's.
func above(places map[string]int, l []byte) (int, bool) {
	if len(l) == 0 {
		return -1, true
	}
	parent, _ := label.Parent(l)
	at, is := places[string(parent)]
	return at, is
}
