package trie

import (
	"strings"

	"pharos/api"
	"pharos/nibble"
	"pharos/node"
)

// part is a node, and what it names: the parts below it, an extension's child as the first of kids. Of no items it is nil.
type part struct {
	kind        int
	path, value string
	kids        [16]*part
	sum         string // "" while a change is being made
}

// leaf is the node of one item.
func leaf(path, value string) *part {
	return &part{kind: api.NLeaf, path: path, value: value}
}

// find is the value of the item of this path below p; "", which is no value, if there is none.
func (p *part) find(path string) string {
	for p != nil && strings.HasPrefix(path, p.path) {
		path = path[len(p.path):]
		switch {
		case p.kind == api.NExt:
			p = p.kids[0]
		case path == "":
			return p.value
		default:
			p, path = p.kids[path[0]], path[1:] // of a leaf this is nil
		}
	}
	return ""
}

// with is p with this item, in the place of the one of its path.
func (p *part) with(path, value string) *part {
	if p == nil {
		return leaf(path, value)
	}
	if p.kind == api.NBranch {
		q := p.open()
		if path == "" {
			q.value = value
		} else {
			q.kids[path[0]] = p.kids[path[0]].with(path[1:], value)
		}
		return q
	}
	n := nibble.Common(p.path, path)
	below := p.kids[0] // nil of a leaf: that of this path is made anew
	if n < len(p.path) || p.kind == api.NLeaf && n < len(path) {
		below = p.split(n)
	}
	return below.with(path[n:], value).behind(path[:n])
}

// without is p without the item of this path, which is there.
func (p *part) without(path string) *part {
	switch p.kind {
	case api.NLeaf:
		return nil
	case api.NExt:
		return p.kids[0].without(path[len(p.path):]).behind(p.path)
	}
	q := p.open()
	if path == "" {
		q.value = ""
	} else {
		q.kids[path[0]] = p.kids[path[0]].without(path[1:])
	}
	return q.narrow()
}

// open is a copy of p to be changed: it has no sum yet.
func (p *part) open() *part {
	q := *p
	q.sum = ""
	return &q
}

// behind is the node of p's items where path leads to p.
func (p *part) behind(path string) *part {
	if path == "" {
		return p
	}
	if p.kind == api.NBranch {
		return &part{kind: api.NExt, path: path, kids: [16]*part{p}}
	}
	q := p.open()
	q.path = path + p.path
	return q
}

// split is a branch with p's items alone, where p is none: what they have in common ends behind n half bytes.
func (p *part) split(n int) *part {
	b := &part{kind: api.NBranch}
	switch {
	case n == len(p.path):
		b.value = p.value
	case p.kind == api.NLeaf:
		b.kids[p.path[n]] = leaf(p.path[n+1:], p.value)
	default:
		b.kids[p.path[n]] = p.kids[0].behind(p.path[n+1:])
	}
	return b
}

// narrow is the node of the items of a branch that may have too few of them for one.
func (p *part) narrow() *part {
	at, has := 0, 0
	for i, k := range p.kids {
		if k != nil {
			at = i
			has++
		}
	}
	switch {
	case has == 0:
		return leaf("", p.value)
	case has == 1 && p.value == "":
		return p.kids[at].behind(halfByte(at))
	}
	return p
}

// walk goes through p and the parts below it, in order, each with its place; below one only where visit says so.
func (p *part) walk(place string, visit func(p *part, place string) bool) {
	if p == nil || !visit(p, place) {
		return
	}
	for i, k := range p.kids {
		if k != nil {
			k.walk(placeOf(p.kind, place+p.path, i), visit)
		}
	}
}

// node is p as a node alone, below which all parts have their sums.
func (p *part) node() api.Node {
	n := api.Node{Kind: p.kind, Path: p.path, Value: p.value}
	for i, k := range p.kids {
		if k != nil {
			n.Kids[i] = k.sum
		}
	}
	return n
}

// text is p's bytes.
func (p *part) text() string {
	s, _ := node.Encode(p.node()) // each part is a node that may be
	return s
}

// seal gives p and the parts below it their sums. A part that has one is in another trie, too: it is not written any more, and those below it have theirs.
func (p *part) seal() {
	if p == nil || p.sum != "" {
		return
	}
	for _, k := range p.kids {
		k.seal()
	}
	p.sum = node.Digest(p.node())
}

// placeOf is the place of the one of a node's kids that stands at i; end is the node's place and its path.
func placeOf(kind int, end string, i int) string {
	if kind == api.NBranch {
		return end + halfByte(i)
	}
	return end
}

// halfByte is a path of one half byte.
func halfByte(i int) string {
	return string([]byte{byte(i)})
}
