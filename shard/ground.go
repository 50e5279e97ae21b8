package shard

import (
	"jackstay/api"
	"jackstay/blocks"
	"jackstay/cow"
	"jackstay/delta"
)

// ground is where volumes of n blocks lie: each is a tree of the forest, over the units. Neither trees nor units are written over: a volume goes on as another tree.
type ground struct {
	n      int
	forest *cow.Forest
	units  []uint64
}

// change is an op whose numbers, if it has any, lie at units.
type change struct {
	kind int
	api.Extent
}

// bare is ground on which nothing lies but the empty tree, whose blocks are all 0.
func bare(n int) ground {
	return ground{n: n, forest: cow.New()}
}

// lay lays numbers at units: it answers the first one.
func (g *ground) lay(numbers []uint64) int {
	first := len(g.units)
	g.units = append(g.units, numbers...)
	return first
}

// hold lays what an op of these volumes writes, so that nothing of the op itself is kept.
func (g *ground) hold(o api.Op) change {
	off, count := blocks.Range(o)
	return change{kind: o.Kind, Extent: api.Extent{Off: off, Len: count, Phys: g.lay(o.Data)}}
}

// do is the tree root, behind a change.
func (g *ground) do(root int, c change) int {
	// What blocks of these volumes become is never refused.
	if c.kind == api.Trim {
		root, _ = g.forest.Cut(root, c.Off, c.Len)
		return root
	}
	root, _ = g.forest.Put(root, c.Extent)
	return root
}

// show is the volume that a tree is.
func (g *ground) show(root int) []uint64 {
	l, _ := g.forest.List(root)
	v, _ := delta.View(l, g.n, g.units)
	return v
}

// plant is a tree that shows a volume, all of it in one extent.
func (g *ground) plant(v []uint64) int {
	// Of no blocks no extent is: 0 then, which is the empty tree, is right.
	root, _ := g.forest.Put(0, api.Extent{Len: len(v), Phys: g.lay(v)})
	return root
}
