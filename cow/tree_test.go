package cow

import (
	"math/rand"
	"testing"

	"jackstay/api"
)

// nodes are a tree's nodes as they are now, by where they lie.
func nodes(t tree, into map[*node]node) map[*node]node {
	if t.node != nil {
		into[t.node] = *t.node
		nodes(t.lower, into)
		nodes(t.upper, into)
	}
	return into
}

// sound asks that what each node tells of itself is so, and that no two trees differ by more than 1 in their depths; it answers how many nodes there are, and how deep.
func sound(t *testing.T, of tree) (int, int) {
	t.Helper()
	if of.node == nil {
		return 0, 0
	}
	size, deep := sound(t, of.lower)
	more, far := sound(t, of.upper)
	if far-deep > 1 || deep-far > 1 {
		t.Fatalf("trees that are %d and %d deep lie at one node", deep, far)
	}
	size, deep = 1+size+more, 1+max(deep, far)
	if of.count != size || of.depth != deep {
		t.Fatalf("a node tells of %d nodes, %d deep: want %d, %d", of.count, of.depth, size, deep)
	}
	return size, deep
}

// P7.2 to P7.4: Deep is the longest way, Size are all nodes, Fresh those that the other tree has not, and no node is ever changed.
func TestNodes(t *testing.T) {
	random := rand.New(rand.NewSource(77))
	for _, blocks := range []int{8, 60, api.MaxBlocks} {
		f := New()
		var made []map[*node]node
		for range 1000 {
			root := max(0, f.Trees()-1-random.Intn(3)*random.Intn(20))
			off := random.Intn(blocks)
			n := min(1+random.Intn(2), blocks-off)
			if random.Intn(40) == 0 {
				n = 1 + random.Intn(blocks-off)
			}
			if random.Intn(5) == 0 {
				f.Cut(root, off, n)
			} else {
				f.Put(root, api.Extent{Off: off, Len: n, Phys: random.Intn(1000), Birth: random.Intn(3)})
			}
		}
		for root := range f.Trees() {
			size, deep := sound(t, f.trees[root])
			if f.Size(root) != size || f.Deep(root) != deep {
				t.Fatalf("Size %d, Deep %d: want %d, %d", f.Size(root), f.Deep(root), size, deep)
			}
			made = append(made, nodes(f.trees[root], map[*node]node{}))
		}
		for range 2000 {
			old, root := random.Intn(f.Trees()), random.Intn(f.Trees())
			if random.Intn(2) == 0 {
				root = min(old+random.Intn(4), f.Trees()-1)
			}
			want := 0
			for n := range made[root] {
				if _, ok := made[old][n]; !ok {
					want++
				}
			}
			if got := f.Fresh(old, root); got != want {
				t.Fatalf("Fresh(%d, %d): %d, want %d", old, root, got, want)
			}
		}
		for range 400 {
			f.Put(random.Intn(f.Trees()), api.Extent{Off: random.Intn(blocks), Len: 1, Phys: 5000, Birth: 9})
			f.Cut(random.Intn(f.Trees()), random.Intn(blocks), 1)
		}
		for root := range made {
			for n, was := range made[root] {
				if *n != was {
					t.Fatalf("a node of the tree %d was %v, and is %v", root, was, *n)
				}
			}
		}
	}
}
