package cow

import (
	"jackstay/api"
)

// node is an extent, and what lies below and above it. None is written into once it is made: trees share them.
type node struct {
	api.Extent
	lower, upper tree
	depth, count int
}

// tree is its root, or empty. The depths of a node's two trees differ by at most 1.
type tree struct {
	*node
}

func (t tree) deep() int {
	if t.node == nil {
		return 0
	}
	return t.depth
}

func (t tree) size() int {
	if t.node == nil {
		return 0
	}
	return t.count
}

// toward is the root's tree in which a block lies that is not the root's.
func (t tree) toward(off int) tree {
	if off < t.Off {
		return t.lower
	}
	return t.upper
}

// near is l, and behind it the extents that have a block from off to ahead of end, or end or begin there.
func (t tree) near(l []api.Extent, off, end int) []api.Extent {
	if t.node == nil {
		return l
	}
	if off <= t.Off {
		l = t.lower.near(l, off, end)
	}
	if off <= t.Off+t.Len && t.Off <= end {
		l = append(l, t.Extent)
	}
	if t.Off+t.Len <= end {
		l = t.upper.near(l, off, end)
	}
	return l
}

// turn is the tree with l in the place of what is near.
func (t tree) turn(off, end int, l []api.Extent) tree {
	turned := t.below(off)
	for _, x := range l {
		turned = join(turned, x, tree{})
	}
	return meet(turned, t.above(end))
}

// below is what ends ahead of off.
func (t tree) below(off int) tree {
	if t.node == nil {
		return tree{}
	}
	if t.Off+t.Len < off {
		return join(t.lower, t.Extent, t.upper.below(off))
	}
	return t.lower.below(off)
}

// above is what begins behind end.
func (t tree) above(end int) tree {
	if t.node == nil {
		return tree{}
	}
	if t.Off > end {
		return join(t.lower.above(end), t.Extent, t.upper)
	}
	return t.upper.above(end)
}

// last is a tree that is not empty without its last extent, and that one.
func (t tree) last() (tree, api.Extent) {
	if t.upper.node == nil {
		return t.lower, t.Extent
	}
	rest, x := t.upper.last()
	return level(t.lower, t.Extent, rest), x
}

// has tells whether a node is one of the tree's.
func (t tree) has(n *node) bool {
	for t.node != nil && t.Off != n.Off {
		t = t.toward(n.Off)
	}
	return t.node == n
}

// fresh is how many nodes are none of old's. With a node old has all that lies below and above it, too.
func (t tree) fresh(old tree) int {
	if t.node == nil || old.has(t.node) {
		return 0
	}
	return 1 + t.lower.fresh(old) + t.upper.fresh(old)
}

// meet is a tree of two, all of which lie below and above.
func meet(lower, upper tree) tree {
	if lower.node == nil {
		return upper
	}
	rest, x := lower.last()
	return join(rest, x, upper)
}

// join is a tree of x and two trees of any depths, that lie below and above it.
func join(lower tree, x api.Extent, upper tree) tree {
	switch apart := lower.deep() - upper.deep(); {
	case apart > 1:
		return level(lower.lower, lower.Extent, join(lower.upper, x, upper))
	case apart < -1:
		return level(join(lower, x, upper.lower), upper.Extent, upper.upper)
	}
	return grow(lower, x, upper)
}

// level is such a tree, if the depths differ by at most 2.
func level(lower tree, x api.Extent, upper tree) tree {
	switch lower.deep() - upper.deep() {
	case 2:
		if mid := lower.upper; mid.deep() > lower.lower.deep() {
			return grow(grow(lower.lower, lower.Extent, mid.lower), mid.Extent, grow(mid.upper, x, upper))
		}
		return grow(lower.lower, lower.Extent, grow(lower.upper, x, upper))
	case -2:
		if mid := upper.lower; mid.deep() > upper.upper.deep() {
			return grow(grow(lower, x, mid.lower), mid.Extent, grow(mid.upper, upper.Extent, upper.upper))
		}
		return grow(grow(lower, x, upper.lower), upper.Extent, upper.upper)
	}
	return grow(lower, x, upper)
}

// grow is such a tree, if the depths differ by at most 1.
func grow(lower tree, x api.Extent, upper tree) tree {
	return tree{&node{
		Extent: x,
		lower:  lower,
		upper:  upper,
		depth:  1 + max(lower.deep(), upper.deep()),
		count:  1 + lower.size() + upper.size(),
	}}
}
