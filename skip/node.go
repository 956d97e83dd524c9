package skip

import (
	"assart/api"
	"assart/ikey"
)

const (
	headSize = 2 // bytes ahead of a node's links: how many these are, and how many bytes its version has
	linkSize = 8
	offShift = 32 // a link's lower half has the node's size, its upper half where it begins
)

// place is where a node stands in the region.
type place struct {
	off, size int
}

// tower is a place for each level: of what a node, or the list's front, is linked to there.
type tower [api.MaxTower]place

// node is what the bytes of one say.
type node struct {
	links tower
	ver   api.Ver
	val   []byte
}

// none is where no node stands: it has no bytes.
func none() place { return place{} }

func (n node) cell() api.Cell {
	return api.Cell{Ver: n.ver, Val: string(n.val)}
}

// nodeBytes answers a node's bytes: its head, its links, its version, its value.
func nodeBytes(c api.Cell, links []place) []byte {
	// Whoever inserts a cell has looked whether it is one: nothing is refused.
	ver, _ := ikey.Encode(c.Ver)
	b := []byte{byte(len(links)), byte(len(ver))}
	for _, to := range links {
		b = append(b, linkBytes(to)...)
	}
	b = append(b, ver...)
	return append(b, c.Val...)
}

// nodeOf answers the node whose bytes these are. They are held to their form, since who has the pool may have changed them.
func nodeOf(b []byte) (node, api.Errno) {
	if len(b) < headSize || b[0] > api.MaxTower {
		return node{}, api.ErrForm
	}
	height, verSize := int(b[0]), int(b[1])
	if len(b) < linkAt(height)+verSize {
		return node{}, api.ErrForm
	}
	rest := b[linkAt(height):]
	ver, e := ikey.Decode(rest[:verSize])
	if e != api.OK {
		return node{}, e
	}
	n := node{ver: ver, val: rest[verSize:]}
	for level := range height {
		n.links[level] = linkOf(b[linkAt(level):])
	}
	return n, api.OK
}

// linkAt answers where a node's link of a level begins.
func linkAt(level int) int {
	return headSize + level*linkSize
}

// linkBytes, linkOf: a place as bytes, the lowest first.
func linkBytes(to place) []byte {
	n := uint64(to.off)<<offShift | uint64(to.size)
	b := make([]byte, linkSize)
	for i := range b {
		b[i] = byte(n >> (8 * i))
	}
	return b
}

func linkOf(b []byte) place {
	n := uint64(0)
	for i, c := range b[:linkSize] {
		n |= uint64(c) << (8 * i)
	}
	return place{off: int(n >> offShift), size: int(uint32(n))}
}
