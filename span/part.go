package span

import (
	"strings"

	"pharos/nibble"
)

// part is what is left of a range at a place: the half bytes behind it where the range begins and ends. Without any, all behind the place is not below its beginning, or all is below its end.
type part struct {
	from, end string
}

// behind is what is left behind more half bytes; false, if that place plays no part in the range.
func (p part) behind(more string) (part, bool) {
	plays := nibble.Side(more, p.from) != -1 && (p.end == "" || nibble.Side(more, p.end) != 1)
	return part{from: rest(p.from, more), end: rest(p.end, more)}, plays
}

// has tells whether the range has the key whose path ends behind these half bytes.
func (p part) has(path string) bool {
	return path >= p.from && (p.end == "" || path < p.end)
}

// rest is what is left of a mark behind more half bytes, "" if it does not go that way: then it decides nothing any more.
func rest(mark, more string) string {
	left, is := strings.CutPrefix(mark, more)
	if !is {
		return ""
	}
	return left
}
