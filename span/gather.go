package span

import (
	"pharos/api"
	"pharos/digest"
	"pharos/nibble"
	"pharos/node"
)

// mostPath is how many half bytes lead to an item at most.
const mostPath = 2 * api.MaxKey

// spot is a place where the node of a sum is sought, and what is left of the range there.
type spot struct {
	sum, place string
	left       part
}

// gather is the items within the range that the nodes have, from the sum root on; false, if they show nothing.
func gather(root, from, end string, nodes []string) (items []api.Item, shown bool) {
	left := nodes
	take := func(sum string) (api.Node, bool) {
		if len(left) == 0 {
			return api.Node{}, false
		}
		text := left[0]
		left = left[1:]
		n, e := node.Decode(text) // ahead of the sum: a text too long for a node is not summed
		return n, e == api.OK && nodeSum(text) == sum
	}
	var sought []spot // the next one last; a list, not calls within calls: a page may have more nodes below one another than calls can be
	if root != "" {
		sought = []spot{{sum: root, left: part{from: nibble.Of(from), end: nibble.Of(end)}}}
	}
	for len(sought) > 0 {
		s := sought[len(sought)-1]
		sought = sought[:len(sought)-1]
		n, is := take(s.sum)
		if !is {
			return nil, false
		}
		if n.Value != "" {
			x, is := s.item(n)
			if !is {
				return nil, false
			}
			if s.left.has(n.Path) {
				items = append(items, x)
			}
		}
		sought = append(sought, s.below(n)...)
	}
	return items, len(left) == 0
}

// item is the one that the node at s has itself; false, if its path is that of no key.
func (s spot) item(n api.Node) (api.Item, bool) {
	key, e := nibble.Key(s.place + n.Path)
	return api.Item{Key: key, Value: n.Value}, e == api.OK && key != "" && len(key) <= api.MaxKey
}

// below is the spots of what the node at s names, as far as they play a part in the range, the first one last.
func (s spot) below(n api.Node) []spot {
	var l []spot
	for i := len(n.Kids) - 1; i >= 0; i-- {
		if n.Kids[i] == "" {
			continue
		}
		if kid, plays := s.kid(n.Kids[i], step(n, i)); plays {
			l = append(l, kid)
		}
	}
	return l
}

// kid is the spot of a sum behind more half bytes; false, if it plays no part in the range.
func (s spot) kid(sum, more string) (spot, bool) {
	left, plays := s.left.behind(more)
	place := s.place + more
	if len(place) > mostPath+1 { // too long for a key already: were all of it kept, long ways would be copied over and over
		place = place[:mostPath+1]
	}
	return spot{sum: sum, place: place, left: left}, plays
}

// step is the half bytes that lead from a node's place to the one of its kids that stands at i.
func step(n api.Node, i int) string {
	if n.Kind == api.NBranch {
		return string([]byte{byte(i)})
	}
	return n.Path
}

// nodeSum is the sum by which a node's bytes are sought.
func nodeSum(text string) string {
	sum, _ := digest.Sum(api.TNode, text) // TNode is a tag: no sum of it is refused
	return sum
}
