package trie

import (
	"strings"

	"pharos/api"
	"pharos/store"
)

// mostPath is how many half bytes lead to an item at most.
const mostPath = 2 * api.MaxKey

// loader takes parts from a store, and counts the items that they have.
type loader struct {
	from  *store.Store
	items int
}

// Load is the trie whose nodes s has, from the sum root on.
func Load(s *store.Store, root string) (*Trie, api.Code) {
	if root == "" {
		return New(), api.OK
	}
	d := &loader{from: s}
	top, e := d.part(root, "", false)
	if e != api.OK {
		return nil, e
	}
	return &Trie{top: top, items: d.items}, api.OK
}

// part is the part of this sum at the place, with those below it; inExt: an extension names it.
func (d *loader) part(sum, place string, inExt bool) (*part, api.Code) {
	n, e := d.from.Node(sum)
	if e != api.OK {
		return nil, e
	}
	end := place + n.Path
	if inExt && n.Kind != api.NBranch || len(end) > mostPath {
		return nil, api.ErrShape
	}
	if n.Value != "" {
		if e := d.item(end); e != api.OK {
			return nil, e
		}
	}
	p := &part{kind: n.Kind, path: n.Path, value: n.Value, sum: strings.Clone(sum)}
	for i, kid := range n.Kids {
		if kid == "" {
			continue
		}
		if p.kids[i], e = d.kid(n.Kind, kid, placeOf(n.Kind, end, i)); e != api.OK {
			return nil, e
		}
	}
	return p, api.OK
}

// kid is the part of this sum that a node of the kind names; what stands too deep is not even looked for.
func (d *loader) kid(kind int, sum, place string) (*part, api.Code) {
	if len(place) > mostPath {
		return nil, api.ErrShape
	}
	return d.part(sum, place, kind == api.NExt)
}

// item counts an item of this path.
func (d *loader) item(path string) api.Code {
	if path == "" || len(path)%2 != 0 {
		return api.ErrShape
	}
	if d.items == api.MaxItems {
		return api.ErrLong
	}
	d.items++
	return api.OK
}
