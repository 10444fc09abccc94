// Package nibble is layer 1: keys as half bytes, each a byte of its own. See shared/doc/01-nibble.md.
package nibble

import (
	"strings"

	"pharos/api"
)

// The bits of a packed path's first byte: its lower half carries a half byte only where isOdd is set.
const (
	isOdd  = 1 << 4
	isLeaf = 2 << 4
	lower  = 1<<4 - 1
)

// Of is the key's path.
func Of(key string) string {
	return string(spread(nil, key))
}

// Fit tells whether path is one.
func Fit(path string) bool {
	for i := range len(path) {
		if path[i] > lower {
			return false
		}
	}
	return true
}

// Key is the key whose path it is.
func Key(path string) (string, api.Code) {
	if !Fit(path) {
		return "", api.ErrForm
	}
	if len(path)%2 != 0 {
		return "", api.ErrShape
	}
	return string(join(nil, path)), api.OK
}

// Common counts the bytes with which both begin.
func Common(a, b string) int {
	most := min(len(a), len(b))
	for i := range most {
		if a[i] != b[i] {
			return i
		}
	}
	return most
}

// Side tells where the texts that begin with path stand by mark: 1, none is below it; -1, all are; 0, some may be.
func Side(path, mark string) int {
	if path >= mark {
		return 1
	}
	if strings.HasPrefix(mark, path) {
		return 0
	}
	return -1
}

// Pack is the path, two half bytes in a byte, behind one that tells what it is.
func Pack(path string, leaf bool) (string, api.Code) {
	if !Fit(path) {
		return "", api.ErrForm
	}
	first, rest := byte(0), path
	if leaf {
		first |= isLeaf
	}
	if len(path)%2 != 0 {
		first |= isOdd | path[0]
		rest = path[1:]
	}
	return string(join([]byte{first}, rest)), api.OK
}

// Unpack is the path that s packs, and whether it is a leaf's.
func Unpack(s string) (path string, leaf bool, e api.Code) {
	if s == "" || !mayLead(s[0]) {
		return "", false, api.ErrForm
	}
	var begin []byte
	if s[0]&isOdd != 0 {
		begin = []byte{s[0] & lower}
	}
	return string(spread(begin, s[1:])), s[0]&isLeaf != 0, api.OK
}

// mayLead tells whether Pack makes such a first byte: were others taken, one path would be packed in many ways.
func mayLead(first byte) bool {
	if first > isOdd|isLeaf|lower {
		return false
	}
	return first&isOdd != 0 || first&lower == 0
}

// spread puts both halves of each byte of s, the higher one first, behind path.
func spread(path []byte, s string) []byte {
	for i := range len(s) {
		path = append(path, s[i]>>4, s[i]&lower)
	}
	return path
}

// join puts the half bytes of path, an even number of them, two in a byte, behind s.
func join(s []byte, path string) []byte {
	for i := range len(path) / 2 {
		s = append(s, path[2*i]<<4|path[2*i+1])
	}
	return s
}
