package cow_test

import (
	"math"
	"math/bits"
	"math/rand"
	"slices"
	"testing"

	"jackstay/api"
	"jackstay/cow"
	"jackstay/emap"
)

const (
	all = 1024
	far = 1 << 40
)

func ext(off, n, phys, birth int) api.Extent {
	return api.Extent{Off: off, Len: n, Phys: phys, Birth: birth}
}

// list are extents, four numbers each.
func list(numbers ...int) []api.Extent {
	var l []api.Extent
	for i := 0; i < len(numbers); i += 4 {
		l = append(l, ext(numbers[i], numbers[i+1], numbers[i+2], numbers[i+3]))
	}
	return l
}

// apart are so many extents of a block each, none of which is one with another.
func apart(n int) []api.Extent {
	var l []api.Extent
	for i := range n {
		l = append(l, ext(i, 1, i, i%2))
	}
	return l
}

// told is what a forest told of a tree when it was made.
type told struct {
	list       []api.Extent
	deep, size int
}

// grove is a forest with what each of its trees should be.
type grove struct {
	*cow.Forest
	trees []told
}

func plant() *grove {
	return &grove{Forest: cow.New(), trees: []told{{}}}
}

// last is the number of the youngest tree.
func (g *grove) last() int {
	return len(g.trees) - 1
}

// puts asks for layer 6's Put of a tree's list as a new tree.
func (g *grove) puts(t *testing.T, root int, x api.Extent) int {
	t.Helper()
	want, err := emap.Put(g.trees[root].list, x)
	if err != api.OK {
		t.Fatalf("Put(%v): %v of layer 6", x, err)
	}
	got, err := g.Put(root, x)
	g.grows(t, root, got, err, want)
	return got
}

// cuts asks for layer 6's Cut of a tree's list as a new tree.
func (g *grove) cuts(t *testing.T, root, off, n int) int {
	t.Helper()
	want, err := emap.Cut(g.trees[root].list, off, n)
	if err != api.OK {
		t.Fatalf("Cut(%d, %d): %v of layer 6", off, n, err)
	}
	got, err := g.Cut(root, off, n)
	g.grows(t, root, got, err, want)
	return got
}

// grows asks that a tree is a new one, with the next number and that list, and neither too deep nor too fresh.
func (g *grove) grows(t *testing.T, root, got int, err api.Errno, want []api.Extent) {
	t.Helper()
	if got != len(g.trees) || err != api.OK {
		t.Fatalf("%d, %v: want the tree %d", got, err, len(g.trees))
	}
	g.trees = append(g.trees, told{want, g.Deep(got), len(want)})
	g.stays(t, got)
	if g.Trees() != len(g.trees) {
		t.Fatalf("Trees: %d, want %d", g.Trees(), len(g.trees))
	}
	deep, size := g.Deep(got), len(want)
	if 2*deep > 3*bits.Len(uint(size+1))+2 || deep < bits.Len(uint(size)) {
		t.Fatalf("a tree of %d nodes is %d deep", size, deep)
	}
	fresh := g.Fresh(root, got)
	if fresh > 16*(g.Deep(root)+deep+2) {
		t.Fatalf("%d fresh nodes, of trees that are %d and %d deep", fresh, g.Deep(root), deep)
	}
	// An extent that the old tree has not is in a node that it has not, either.
	was, least := g.trees[root].list, 0
	for _, x := range want {
		i, ok := slices.BinarySearchFunc(was, x.Off, func(y api.Extent, off int) int { return y.Off - off })
		if !ok || was[i] != x {
			least++
		}
	}
	if fresh < least || fresh > size {
		t.Fatalf("%d fresh nodes of %d: at least %d are", fresh, size, least)
	}
}

// stays asks that a tree is as it was made.
func (g *grove) stays(t *testing.T, root int) {
	t.Helper()
	was := g.trees[root]
	got, err := g.List(root)
	if err != api.OK || !slices.Equal(got, was.list) {
		t.Fatalf("List(%d): %v, %v: want %v", root, got, err, was.list)
	}
	if g.Deep(root) != was.deep || g.Size(root) != was.size {
		t.Fatalf("the tree %d has %d nodes, %d deep: want %d, %d", root, g.Size(root), g.Deep(root), was.size, was.deep)
	}
}

// stay asks that all trees are as they were made.
func (g *grove) stay(t *testing.T) {
	t.Helper()
	for root := range g.trees {
		g.stays(t, root)
	}
	if g.Trees() != len(g.trees) {
		t.Fatalf("Trees: %d, want %d", g.Trees(), len(g.trees))
	}
}

// parts asks for layer 6's Part of a tree's list.
func (g *grove) parts(t *testing.T, root, off, n int) {
	t.Helper()
	want, _ := emap.Part(g.trees[root].list, off, n)
	got, err := g.Part(root, off, n)
	if err != api.OK || !slices.Equal(got, want) {
		t.Fatalf("Part(%d, %d, %d): %v, %v: want %v", root, off, n, got, err, want)
	}
}

// asks asks for layer 6's At of a tree's list.
func (g *grove) asks(t *testing.T, root int, offs ...int) {
	t.Helper()
	for _, off := range offs {
		unit, birth, ok := emap.At(g.trees[root].list, off)
		if u, b, is := g.At(root, off); u != unit || b != birth || is != ok {
			t.Fatalf("At(%d, %d): %d, %d, %v: want %d, %d, %v", root, off, u, b, is, unit, birth, ok)
		}
	}
}

// of is a tree of a list, put in in some order.
func (g *grove) of(t *testing.T, l []api.Extent, order []int) int {
	t.Helper()
	root := 0
	for _, i := range order {
		root = g.puts(t, root, l[i])
	}
	if got, err := g.List(root); err != api.OK || !slices.Equal(got, l) {
		t.Fatalf("List: %v, %v: want %v", got, err, l)
	}
	return root
}

// lists asks for a tree's list.
func lists(t *testing.T, f *cow.Forest, root int, want []api.Extent) {
	t.Helper()
	if got, err := f.List(root); err != api.OK || !slices.Equal(got, want) {
		t.Fatalf("List(%d): %v, %v: want %v", root, got, err, want)
	}
}

// refuses asks all calls that could answer one for an error, and the others for nothing.
func refuses(t *testing.T, f *cow.Forest, root int, x api.Extent, off, n int, want api.Errno) {
	t.Helper()
	if got, err := f.Put(root, x); got != 0 || err != want {
		t.Fatalf("Put(%d, %v): %d, %v: want 0, %v", root, x, got, err, want)
	}
	if got, err := f.Cut(root, off, n); got != 0 || err != want {
		t.Fatalf("Cut(%d, %d, %d): %d, %v: want 0, %v", root, off, n, got, err, want)
	}
	if got, err := f.Part(root, off, n); len(got) != 0 || err != want {
		t.Fatalf("Part(%d, %d, %d): %v, %v: want none, %v", root, off, n, got, err, want)
	}
}

// lacks asks that a forest has no such tree.
func lacks(t *testing.T, f *cow.Forest, root int, want api.Errno) {
	t.Helper()
	refuses(t, f, root, ext(0, 1, 0, 0), 0, 1, want)
	refuses(t, f, root, ext(-1, 1, 0, 0), -1, 1, want)
	refuses(t, f, root, ext(math.MaxInt, math.MaxInt, 0, 0), math.MaxInt, math.MaxInt, want)
	if got, err := f.List(root); len(got) != 0 || err != want {
		t.Fatalf("List(%d): %v, %v: want none, %v", root, got, err, want)
	}
	for _, off := range []int{math.MinInt, -1, 0, 1, 2, 1023, 1024, math.MaxInt} {
		if unit, birth, ok := f.At(root, off); unit != 0 || birth != 0 || ok {
			t.Fatalf("At(%d, %d): %d, %d, %v: want 0, 0, false", root, off, unit, birth, ok)
		}
	}
	if f.Deep(root) != 0 || f.Size(root) != 0 || f.Fresh(root, root) != 0 {
		t.Fatalf("of no tree %d: Deep %d, Size %d, Fresh %d", root, f.Deep(root), f.Size(root), f.Fresh(root, root))
	}
}

// The chapter's example.
func TestExample(t *testing.T) {
	f := cow.New()
	if root, err := f.Put(0, ext(0, 4, 0, 0)); root != 1 || err != api.OK {
		t.Fatal(root, err)
	}
	if root, err := f.Put(1, ext(1, 2, 9, 0)); root != 2 || err != api.OK {
		t.Fatal(root, err)
	}
	lists(t, f, 1, list(0, 4, 0, 0))
	lists(t, f, 2, list(0, 1, 0, 0, 1, 2, 9, 0, 3, 1, 3, 0))
}

// P7.1, P7.2: a forest has the empty tree, and no other one.
func TestNew(t *testing.T) {
	g := plant()
	g.stay(t)
	if g.Trees() != 1 || g.Deep(0) != 0 || g.Size(0) != 0 || g.Fresh(0, 0) != 0 {
		t.Fatal(g.Trees(), g.Deep(0), g.Size(0), g.Fresh(0, 0))
	}
	g.asks(t, 0, math.MinInt, -1, 0, 1, 1023, 1024, math.MaxInt)
	g.parts(t, 0, 0, 1)
	g.parts(t, 0, 0, all)
	g.parts(t, 0, 1023, 1)
	lacks(t, g.Forest, 1, api.ErrNone)
	lacks(t, g.Forest, -1, api.ErrNone)
}

// P7.1: each tree has the next number, whichever it was made of, and though its list is no other one.
func TestNumbers(t *testing.T) {
	g := plant()
	x := ext(3, 4, 5, 6)
	for i, call := range []func() int{
		func() int { return g.cuts(t, 0, 0, all) },
		func() int { return g.puts(t, 0, x) },
		func() int { return g.puts(t, 2, x) },
		func() int { return g.puts(t, 0, x) },
		func() int { return g.cuts(t, 2, 7, 5) },
		func() int { return g.cuts(t, 2, 0, 3) },
		func() int { return g.cuts(t, 3, 0, all) },
		func() int { return g.puts(t, 7, x) },
	} {
		if got := call(); got != i+1 {
			t.Fatalf("the tree %d, want %d", got, i+1)
		}
	}
	g.stay(t)
}

// P7.1: a Put over all, a part, the ends and the middle of an extent, and over several, beside what is one with it, and what is not.
func TestPut(t *testing.T) {
	g := plant()
	base := g.of(t, list(2, 4, 10, 1, 6, 2, 30, 2, 9, 3, 50, 1), []int{1, 0, 2})
	for _, c := range []struct {
		x    api.Extent
		want []api.Extent
	}{
		{ext(0, 1, 7, 7), list(0, 1, 7, 7, 2, 4, 10, 1, 6, 2, 30, 2, 9, 3, 50, 1)},
		{ext(20, 1, 7, 7), list(2, 4, 10, 1, 6, 2, 30, 2, 9, 3, 50, 1, 20, 1, 7, 7)},
		{ext(8, 1, 7, 7), list(2, 4, 10, 1, 6, 2, 30, 2, 8, 1, 7, 7, 9, 3, 50, 1)},
		{ext(2, 4, 7, 7), list(2, 4, 7, 7, 6, 2, 30, 2, 9, 3, 50, 1)},
		{ext(2, 1, 7, 7), list(2, 1, 7, 7, 3, 3, 11, 1, 6, 2, 30, 2, 9, 3, 50, 1)},
		{ext(5, 1, 7, 7), list(2, 3, 10, 1, 5, 1, 7, 7, 6, 2, 30, 2, 9, 3, 50, 1)},
		{ext(3, 2, 7, 7), list(2, 1, 10, 1, 3, 2, 7, 7, 5, 1, 13, 1, 6, 2, 30, 2, 9, 3, 50, 1)},
		{ext(5, 2, 7, 7), list(2, 3, 10, 1, 5, 2, 7, 7, 7, 1, 31, 2, 9, 3, 50, 1)},
		{ext(3, 7, 7, 7), list(2, 1, 10, 1, 3, 7, 7, 7, 10, 2, 51, 1)},
		{ext(0, 1024, 7, 7), list(0, 1024, 7, 7)},
		{ext(0, 1024, far-1024, far), list(0, 1024, far-1024, far)},
		{ext(1, 1, 9, 1), list(1, 5, 9, 1, 6, 2, 30, 2, 9, 3, 50, 1)},
		{ext(1, 1, 9, 2), list(1, 1, 9, 2, 2, 4, 10, 1, 6, 2, 30, 2, 9, 3, 50, 1)},
		{ext(12, 2, 53, 1), list(2, 4, 10, 1, 6, 2, 30, 2, 9, 5, 50, 1)},
		{ext(12, 2, 54, 1), list(2, 4, 10, 1, 6, 2, 30, 2, 9, 3, 50, 1, 12, 2, 54, 1)},
		{ext(6, 3, 14, 1), list(2, 7, 10, 1, 9, 3, 50, 1)},
		{ext(6, 3, 47, 1), list(2, 4, 10, 1, 6, 6, 47, 1)},
		{ext(4, 1, 12, 1), list(2, 4, 10, 1, 6, 2, 30, 2, 9, 3, 50, 1)},
		{ext(8, 1, 32, 2), list(2, 4, 10, 1, 6, 3, 30, 2, 9, 3, 50, 1)},
	} {
		lists(t, g.Forest, g.puts(t, base, c.x), c.want)
	}
	both := g.of(t, list(0, 2, 5, 3, 3, 2, 8, 3), []int{0, 1})
	lists(t, g.Forest, g.puts(t, both, ext(2, 1, 7, 3)), list(0, 5, 5, 3))
	g.stay(t)
}

// P7.1: a Cut, and a Part, of all, a part, the ends and the middle of an extent, of several, and of none.
func TestCutAndPart(t *testing.T) {
	l := list(2, 4, 10, 1, 6, 2, 30, 2, 9, 3, 50, 1)
	g := plant()
	base := g.of(t, l, []int{2, 1, 0})
	for _, c := range []struct {
		off, n    int
		cut, part []api.Extent
	}{
		{0, 2, l, nil},
		{8, 1, l, nil},
		{12, 1012, l, nil},
		{0, 1024, nil, l},
		{2, 10, nil, l},
		{2, 4, l[1:], l[:1]},
		{9, 3, l[:2], l[2:]},
		{2, 1, list(3, 3, 11, 1, 6, 2, 30, 2, 9, 3, 50, 1), list(2, 1, 10, 1)},
		{5, 1, list(2, 3, 10, 1, 6, 2, 30, 2, 9, 3, 50, 1), list(5, 1, 13, 1)},
		{3, 2, list(2, 1, 10, 1, 5, 1, 13, 1, 6, 2, 30, 2, 9, 3, 50, 1), list(3, 2, 11, 1)},
		{5, 2, list(2, 3, 10, 1, 7, 1, 31, 2, 9, 3, 50, 1), list(5, 1, 13, 1, 6, 1, 30, 2)},
		{1, 3, list(4, 2, 12, 1, 6, 2, 30, 2, 9, 3, 50, 1), list(2, 2, 10, 1)},
		{10, 5, list(2, 4, 10, 1, 6, 2, 30, 2, 9, 1, 50, 1), list(10, 2, 51, 1)},
	} {
		lists(t, g.Forest, g.cuts(t, base, c.off, c.n), c.cut)
		if got, err := g.Part(base, c.off, c.n); err != api.OK || !slices.Equal(got, c.part) {
			t.Fatalf("Part(%d, %d): %v, %v: want %v", c.off, c.n, got, err, c.part)
		}
	}
	g.stay(t)
}

// P7.1: the units of the blocks that are there, and none of others.
func TestAt(t *testing.T) {
	g := plant()
	l := list(1, 2, 10, 0, 3, 1, 0, far, 7, 1, 5, 5, 9, 600, 9, 9, 1020, 4, far-4, 3)
	g.of(t, l, []int{3, 0, 4, 1, 2})
	for root := range g.trees {
		for off := -2; off < all+3; off++ {
			g.asks(t, root, off)
		}
		g.asks(t, root, math.MinInt, math.MinInt+1, -1024, far, math.MaxInt-1, math.MaxInt)
	}
	if unit, birth, ok := g.At(g.last(), 1023); unit != far-1 || birth != 3 || !ok {
		t.Fatal(unit, birth, ok)
	}
	if unit, birth, ok := g.At(g.last(), 3); unit != 0 || birth != far || !ok {
		t.Fatal(unit, birth, ok)
	}
}

// P7.1, P7.2, R7: no tree, ahead of what may not be; no number is taken.
func TestNone(t *testing.T) {
	g := plant()
	g.of(t, list(0, 4, 0, 0, 5, 1, 5, 5), []int{0, 1})
	for _, root := range []int{math.MinInt, math.MinInt + 1, -3, -2, -1, 3, 4, 1024, far, math.MaxInt - 1, math.MaxInt} {
		lacks(t, g.Forest, root, api.ErrNone)
		for tree := range g.trees {
			if a, b := g.Fresh(root, tree), g.Fresh(tree, root); a != 0 || b != 0 {
				t.Fatalf("Fresh of no tree: %d, %d", a, b)
			}
		}
		g.stay(t)
	}
	if got := g.puts(t, 2, ext(9, 1, 9, 9)); got != 3 {
		t.Fatal(got)
	}
}

// P7.1, R7: an extent that may not be, and what are no blocks, of each tree; no number is taken.
func TestArg(t *testing.T) {
	g := plant()
	g.of(t, list(0, 4, 0, 0, 1023, 1, 5, 5), []int{0, 1})
	g.puts(t, 0, ext(0, all, 0, 0))
	xs := list(
		0, 0, 0, 0, 5, 0, 5, 5, 1024, 0, 0, 0, 0, -1, 0, 0, 5, -1, 5, 5,
		-1, 1, 0, 0, -1, 2, 0, 0, -1, 1025, 0, 0, 0, 1025, 0, 0, 1, 1024, 0, 0, 1023, 2, 0, 0, 1024, 1, 0, 0,
		math.MaxInt, 1, 0, 0, 1, math.MaxInt, 0, 0, 0, math.MaxInt, 0, 0, math.MaxInt, math.MaxInt, 0, 0,
		math.MinInt, 1, 0, 0, 0, math.MinInt, 0, 0, math.MinInt, math.MinInt, 0, 0, math.MinInt, math.MaxInt, 0, 0,
		math.MaxInt, math.MinInt, 0, 0, -1024, math.MaxInt, 0, 0,
	)
	for root := range g.trees {
		for _, x := range xs {
			refuses(t, g.Forest, root, x, x.Off, x.Len, api.ErrArg)
		}
		for _, x := range list(
			0, 1, -1, 0, 0, 9, -1, 0, 0, 1, far, 0, 0, 2, far-1, 0, 0, 1024, far-1023, 0, 0, 1, far+1, 0,
			0, 1, 0, -1, 0, 1, 0, far+1, 0, 1, math.MaxInt, 0, 0, 1, math.MinInt, 0, 0, 1, 0, math.MaxInt, 0, 1, 0, math.MinInt,
		) {
			if got, err := g.Put(root, x); got != 0 || err != api.ErrArg {
				t.Fatalf("Put(%d, %v): %d, %v: want 0, ErrArg", root, x, got, err)
			}
		}
	}
	g.stay(t)
	if got := g.cuts(t, 2, 0, 1); got != 4 {
		t.Fatal(got)
	}
}

// P7.2: a nil forest, one that New did not give, and a copy of one that it gave, ahead of all other errors.
func TestNil(t *testing.T) {
	f := cow.New()
	f.Put(0, ext(0, 4, 0, 0))
	copied := *f
	for _, bad := range []*cow.Forest{nil, {}, new(cow.Forest), &copied} {
		for _, root := range []int{math.MinInt, -1, 0, 1, 2, math.MaxInt} {
			lacks(t, bad, root, api.ErrNil)
		}
		if bad.Trees() != 0 || bad.Fresh(0, 1) != 0 {
			t.Fatal(bad.Trees(), bad.Fresh(0, 1))
		}
	}
	if f.Trees() != 2 {
		t.Fatal(f.Trees())
	}
	lists(t, f, 1, list(0, 4, 0, 0))
}

// P7.2: how many nodes there are, and how deep, of trees of few nodes, where no other depth may be.
func TestDeepAndSize(t *testing.T) {
	for _, order := range [][]int{{0, 1, 2}, {2, 1, 0}, {1, 0, 2}, {0, 2, 1}, {2, 0, 1}, {1, 2, 0}} {
		g := plant()
		g.of(t, apart(3), order)
		for root, deep := range []int{0, 1, 2} {
			if g.Deep(root) != deep || g.Size(root) != root {
				t.Fatalf("%d nodes: Size %d, Deep %d", root, g.Size(root), g.Deep(root))
			}
		}
		if g.Size(3) != 3 || g.Deep(3) < 2 || g.Deep(3) > 3 {
			t.Fatal(g.Size(3), g.Deep(3))
		}
	}
}

// P7.2: fresh nodes of a tree itself, of one of which it was made, of one beside it, and of the empty one.
func TestFresh(t *testing.T) {
	g := plant()
	base := g.of(t, apart(100), rand.New(rand.NewSource(7)).Perm(100))
	low := g.puts(t, base, ext(0, 1, 500, 5))
	high := g.puts(t, base, ext(99, 1, 500, 5))
	twin := g.of(t, apart(100), rand.New(rand.NewSource(7)).Perm(100))
	none := g.cuts(t, base, 0, all)
	for _, c := range []struct{ old, root, want int }{
		{0, base, 100}, {base, base, 0}, {base, 0, 0}, {0, 0, 0}, {none, base, 100}, {base, none, 0},
		{base, twin, 100}, {twin, base, 100}, {twin, low, 100}, {twin, twin, 0},
	} {
		if got := g.Fresh(c.old, c.root); got != c.want {
			t.Fatalf("Fresh(%d, %d): %d, want %d", c.old, c.root, got, c.want)
		}
	}
	for _, pair := range [][2]int{{base, low}, {low, base}, {base, high}, {high, base}, {low, high}, {high, low}} {
		if got := g.Fresh(pair[0], pair[1]); got < 1 || got > 40 {
			t.Fatalf("Fresh%v: %d", pair, got)
		}
	}
}

// every are all lists in their form over so many blocks, each of which is there not at all, or in one of three ways.
func every(blocks int) [][]api.Extent {
	if blocks == 0 {
		return [][]api.Extent{nil}
	}
	i := blocks - 1
	var ls [][]api.Extent
	for _, l := range every(i) {
		ls = append(ls, l)
		for _, x := range list(i, 1, i, 1, i, 1, i, 2, i, 1, i+1, 1) {
			more, _ := emap.Put(l, x)
			ls = append(ls, more)
		}
	}
	return ls
}

// P7.1 to P7.5: every Cut, Part and Put of every small list.
func TestEverySmall(t *testing.T) {
	const blocks = 4
	for i, l := range every(blocks) {
		g := plant()
		root := g.of(t, l, rand.New(rand.NewSource(int64(i))).Perm(len(l)))
		for off := range blocks + 1 {
			g.asks(t, root, off)
			for n := 1; off+n <= blocks+1; n++ {
				g.parts(t, root, off, n)
				g.cuts(t, root, off, n)
				g.puts(t, root, ext(off, n, off, 1))
				g.puts(t, root, ext(off, n, off+1, 1))
				g.puts(t, root, ext(off, n, off, 2))
			}
		}
		g.stay(t)
	}
}

// orders are ways to go over so many extents: up, down, from the ends to the middle, and back, by leaps, and mixed up.
func orders(n int) [][]int {
	var up, in, leaps []int
	for i := range n {
		up = append(up, i)
		in = append(in, []int{i / 2, n - 1 - i/2}[i%2])
		leaps = append(leaps, int(bits.Reverse16(uint16(i))>>6))
	}
	down, out := slices.Clone(up), slices.Clone(in)
	slices.Reverse(down)
	slices.Reverse(out)
	return [][]int{up, down, in, out, leaps, rand.New(rand.NewSource(4)).Perm(n)}
}

// P7.4, P7.5: trees that grow to as many extents as there may be, and go down again, in any order.
func TestDepth(t *testing.T) {
	l := apart(all)
	for _, grow := range orders(all) {
		g := plant()
		full := g.of(t, l, grow)
		if g.Size(full) != all {
			t.Fatal(g.Size(full))
		}
		for _, cut := range orders(all) {
			root := full
			for _, i := range cut[:len(cut)*3/4] {
				root = g.cuts(t, root, l[i].Off, l[i].Len)
			}
			// What is left grows again on one side.
			for _, i := range grow[:all/4] {
				root = g.puts(t, root, l[i])
			}
		}
	}
}

// P7.4, P7.5: a Cut of any blocks, and a Put over them, of a tree with an extent a block, or every other one.
func TestWide(t *testing.T) {
	for _, step := range []int{1, 2} {
		var l []api.Extent
		for i := range 64 {
			l = append(l, ext(i*step, 1, i, i%2))
		}
		for _, order := range [][]int{orders(64)[0], orders(64)[1], rand.New(rand.NewSource(1)).Perm(64)} {
			g := plant()
			root := g.of(t, l, order)
			for off := range 64 * step {
				for n := 1; off+n <= 64*step; n++ {
					g.parts(t, root, off, n)
					g.cuts(t, root, off, n)
					g.puts(t, root, ext(off, n, 500, 5))
				}
			}
			g.stays(t, root)
		}
	}
}

// P7.1 to P7.5: whatever is put and cut, in whichever trees, old ones among them, each is as layer 6 tells, and stays so.
func TestWalk(t *testing.T) {
	random := rand.New(rand.NewSource(7))
	for _, blocks := range []int{3, 12, 100, all} {
		for range 10 {
			g := plant()
			for range 250 {
				root := g.last()
				if random.Intn(4) == 0 {
					root = random.Intn(len(g.trees))
				}
				off := random.Intn(blocks)
				n := 1 + random.Intn(1+random.Intn(blocks-off))
				if random.Intn(3) > 0 {
					n = min(n, 3)
				}
				g.asks(t, root, off, off+n)
				g.parts(t, root, off, n)
				if random.Intn(4) == 0 {
					g.cuts(t, root, off, n)
				} else {
					g.puts(t, root, ext(off, n, off+random.Intn(2)*random.Intn(3), random.Intn(3)))
				}
			}
			g.stay(t)
		}
	}
}

// P7.3, R4: what was answered may be written into, and no tree is another one.
func TestAnswersAreTheCallers(t *testing.T) {
	g := plant()
	g.of(t, apart(20), rand.New(rand.NewSource(3)).Perm(20))
	root := g.last()
	write := func(l []api.Extent, err api.Errno) {
		if len(l) == 0 || err != api.OK {
			t.Fatal(l, err)
		}
		l = l[:cap(l)]
		for i := range l {
			l[i] = ext(-7, -7, -7, -7)
		}
	}
	first, _ := g.List(root)
	write(g.List(root))
	if !slices.Equal(first, g.trees[root].list) {
		t.Fatalf("two answers share memory: %v", first)
	}
	write(g.Part(root, 0, all))
	write(g.Part(root, 3, 1))
	g.stay(t)
	g.parts(t, root, 0, all)
	g.puts(t, root, ext(4, 9, 90, 9))
	g.stay(t)
}

// R3: two forests with the same calls have the same answers, and nothing of one another.
func TestForestsApart(t *testing.T) {
	a, b, idle := plant(), plant(), plant()
	random := rand.New(rand.NewSource(12))
	for range 300 {
		root := random.Intn(len(a.trees))
		x := ext(random.Intn(90), 1+random.Intn(9), random.Intn(90), random.Intn(3))
		for _, g := range []*grove{a, b} {
			if x.Birth == 0 {
				g.cuts(t, root, x.Off, x.Len)
			} else {
				g.puts(t, root, x)
			}
		}
		old, new := random.Intn(len(a.trees)), a.last()
		if a.Deep(new) != b.Deep(new) || a.Fresh(old, new) != b.Fresh(old, new) {
			t.Fatal(a.Deep(new), b.Deep(new), a.Fresh(old, new), b.Fresh(old, new))
		}
		idle.stay(t)
	}
}
