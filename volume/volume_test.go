package volume_test

import (
	"fmt"
	"math"
	"math/rand"
	"slices"
	"testing"

	"jackstay/api"
	"jackstay/smap"
	"jackstay/volume"
)

// far are numbers that are nowhere near what may be.
var far = []int{math.MinInt, math.MinInt + 1, -1 << 32, -1<<32 + 1, -1 << 16, -17, -16, -2, -1, 16, 17, 31, 32, 1 << 16, 1<<16 + 1, 1 << 32, 1<<32 + 1, math.MaxInt - 1, math.MaxInt}

// row are n numbers from first on.
func row(first uint64, n int) []uint64 {
	var v []uint64
	for i := range n {
		v = append(v, first+uint64(i))
	}
	return v
}

// times is an act, again and again.
func times(n int, a act) []act {
	return slices.Repeat([]act{a}, n)
}

// The chapter's example: what is done over two pieces is done at both nodes, and one of them is lost.
func TestExample(t *testing.T) {
	p := fresh(t, 10, 0, 1)
	p.does(t, write(0, row(1, 10)...), flush(), trim(4, 2)).shows(t, 1, 2, 3, 4, 0, 0, 7, 8, 9, 10)
	p.is(t, api.OK, crash(0)).shows(t, 1, 2, 3, 4, 5, 0, 7, 8, 9, 10)
	p.is(t, api.OK, crash(1)).shows(t, row(1, 10)...)
	p.sees(t)
}

// P18.1: New answers layer 13's error, or a volume of its map, all of whose blocks are 0.
func TestNew(t *testing.T) {
	lists := [][]int{{}, {0}, {15}, {7, 7}, {0, 1, 2}, {15, 0, 15, 0}, {16}, {-1}, {0, 16}, {0, -1, 1}, {0, 1, 2, 3, 4, 5, 6, 7, 8, 9, 10, 11, 12, 13, 14, 15}, make([]int, 16), make([]int, 17), make([]int, 40)}
	for _, node := range far {
		lists = append(lists, []int{node}, []int{3, node})
	}
	for _, n := range slices.Concat(far, []int{0, 1, 2, 3, 10, 15, 63, 64, 65, 1023, 1024, 1025}) {
		for _, nodes := range lists {
			mine := spare(nodes, 55)
			v, err := volume.New(n, mine...)
			behind("New", mine, nodes, 55)
			over(mine)
			m, want := smap.New(n, nodes...)
			if err != want || (v == nil) != (want != api.OK) {
				t.Fatalf("New(%d, %v): %v, %v, and not %v", n, nodes, v, err, want)
			}
			if want != api.OK {
				continue
			}
			if !smap.Same(v.Map(), m) {
				t.Fatalf("New(%d, %v): the map %v, and not %v", n, nodes, v.Map(), m)
			}
			pair{v, newModel(m)}.sees(t)
		}
	}
}

// P18.1: the map that is answered is the caller's.
func TestMap(t *testing.T) {
	p := fresh(t, 10, 0, 1, 2)
	m := p.v.Map()
	m.Version, m.N = 9, 9
	clear(m.Pieces)
	m.Pieces = append(m.Pieces[:2], api.Piece{From: 1, To: 2, Node: 3})
	p.sees(t).does(t, write(0, row(1, 10)...), split(2), move(3, 9), chart()).sees(t)
	if got := p.v.Map(); got.Version != 3 || got.N != 10 || len(got.Pieces) != 4 {
		t.Fatal(got)
	}
}

// P18.2: a request of another version than the map's is refused, whatever else is wrong, and nothing is done (P18.6).
func TestVersions(t *testing.T) {
	p := fresh(t, 6, 0, 1)
	p.does(t, write(0, row(1, 6)...), split(1), move(4, 2), merge(1))
	for _, more := range append([]int{-4, -3, 1, 2, 3}, far...) {
		p.is(t, api.ErrMap, op(more, api.Op{Kind: api.Write, Off: 2, Data: row(8, 3)}))
		p.is(t, api.ErrMap, op(more, api.Op{Kind: api.Trim, Off: 0, Len: 6}))
		p.is(t, api.ErrMap, op(more, api.Op{Kind: 3, Off: 0, Len: 6}))
		p.is(t, api.ErrMap, read(more, 0, 6))
		p.is(t, api.ErrMap, read(more, -1, 9))
	}
	p.does(t, freeze(0, true)).is(t, api.ErrMap, op(-1, api.Op{Kind: api.Trim, Off: 0, Len: 1}))
	p.does(t, freeze(0, false)).shows(t, row(1, 6)...)
	p.does(t, crash(0, true, true, true), crash(1, true, true, true), crash(2, true, true, true)).sees(t).shows(t, row(1, 6)...)
}

// P18.2: what is no op of the volume is layer 14's error, ahead of what the shards answer.
func TestNoOp(t *testing.T) {
	p := fresh(t, 100, 0, 1, 0)
	p.does(t, write(0, row(1, 64)...), write(64, row(65, 36)...))
	wrong := []api.Op{{}, {Kind: 3, Len: 1}, {Kind: api.Write}, {Kind: api.Write, Len: 1, Data: row(1, 1)}, {Kind: api.Write, Data: row(1, 65)}, {Kind: api.Write, Off: 99, Data: row(1, 2)}, {Kind: api.Trim}, {Kind: api.Trim, Len: 1, Data: row(1, 1)}, {Kind: api.Trim, Len: 101}, {Kind: api.Trim, Off: 100, Len: 1}, {Kind: api.Trim, Off: 50, Len: 51}}
	for _, far := range far {
		if far < 0 || far > 100 {
			wrong = append(wrong, api.Op{Kind: far, Len: 1}, api.Op{Kind: api.Write, Off: far, Data: row(1, 1)}, api.Op{Kind: api.Trim, Off: far, Len: 1}, api.Op{Kind: api.Trim, Off: 1, Len: far})
		}
	}
	for _, frozen := range []bool{false, true} {
		p.does(t, freeze(0, frozen), freeze(1, frozen))
		for _, o := range wrong {
			p.is(t, api.ErrNone, op(0, o))
		}
	}
	p.sees(t).does(t, slices.Concat(probes(100, 0, 1)...)...)
}

// filled is a volume with a piece of one block for each of the nodes, some of which have ops that are open, or are frozen.
func filled(t *testing.T, nodes []int, states ...state) pair {
	t.Helper()
	p := fresh(t, len(nodes), nodes...)
	for _, s := range states {
		block := slices.Index(nodes, s.node)
		p.does(t, times(s.open, write(block, 7))...).does(t, freeze(s.node, s.frozen))
	}
	return p
}

// state is how many ops of a node are open, and whether it is frozen.
type state struct {
	node, open int
	frozen     bool
}

// P18.2: an op is done in all its parts, or in none, whatever each of its shards would answer; what is told first is what a part by itself is answered.
func TestParts(t *testing.T) {
	for _, nodes := range [][]int{{0, 1, 0, 1}, {0, 0, 1, 0}, {1, 0, 0}} {
		for _, open0 := range []int{0, 253, 254, 255, 256} {
			for _, open1 := range []int{0, 254, 255, 256} {
				for frozen := range 4 {
					states := []state{{0, open0, frozen&1 != 0}, {1, open1, frozen&2 != 0}}
					parts(t, nodes, states)
				}
			}
		}
	}
}

// parts does all ops of a volume in some state.
func parts(t *testing.T, nodes []int, states []state) {
	t.Helper()
	p := filled(t, nodes, states...)
	for off := range nodes {
		for n := 1; n <= len(nodes)-off; n++ {
			for _, a := range []act{write(off, row(8, n)...), trim(off, n)} {
				refused := a.do(p.w.copied()).err != api.OK
				p.does(t, a)
				if refused {
					p.sees(t)
					continue
				}
				p.sees(t).does(t, slices.Concat(probes(len(nodes), 0, 1)...)...)
				p = filled(t, nodes, states...)
			}
		}
	}
	p.sees(t).does(t, slices.Concat(probes(len(nodes), 0, 1)...)...)
}

// P18.2: the errors in their order, one by one.
func TestOrder(t *testing.T) {
	p := filled(t, []int{0, 0, 1, 2}, state{0, 255, false}, state{1, 256, false}, state{2, 256, true})
	p.is(t, api.ErrMap, op(1, api.Op{}))
	p.is(t, api.ErrNone, op(0, api.Op{}))
	p.is(t, api.ErrMany, trim(0, 2))  // the second part behind the first one
	p.is(t, api.ErrMany, trim(0, 3))  // the third one by itself
	p.is(t, api.ErrMany, trim(2, 2))  // the first one by itself, and not the second one, which is frozen
	p.is(t, api.ErrState, trim(3, 1)) // frozen, and full
	p.does(t, flush(1))
	p.is(t, api.ErrState, trim(0, 4)) // the last one by itself, and not the second one behind the first one
	p.is(t, api.ErrState, trim(2, 2))
	p.is(t, api.OK, trim(1, 2))
	p.is(t, api.ErrMany, trim(1, 2))
	p.sees(t)
}

// P18.2: what is read is what the volume shows, or layer 14's error.
func TestRead(t *testing.T) {
	for _, nodes := range [][]int{{0}, {0, 1}, {2, 1, 2}, {5, 5, 4}} {
		p := fresh(t, 9, nodes...).does(t, write(0, row(1, 9)...))
		p.does(t, freeze(nodes[0], true))
		for off := -2; off <= 11; off++ {
			for n := -2; n <= 11; n++ {
				p.does(t, read(0, off, n))
			}
		}
		for _, a := range far {
			for _, b := range append([]int{0, 1, 3}, far...) {
				p.is(t, api.ErrNone, read(0, a+20*min(1, max(0, a)), b))
				p.does(t, read(0, a, b), read(0, b, a))
			}
		}
		p.sees(t)
	}
	p := fresh(t, api.MaxBlocks, 0, 1, 2, 3, 4, 5, 6, 7, 8, 9, 10, 11, 12, 13, 14, 15)
	for off := 0; off < api.MaxBlocks; off += 64 {
		p.does(t, write(off, row(uint64(off), 64)...))
	}
	p.is(t, api.OK, read(0, 0, 1024)).is(t, api.OK, read(0, 63, 700)).is(t, api.OK, read(0, 1023, 1)).is(t, api.ErrNone, read(0, 1023, 2))
}

// P18.2: what is flushed is durable, at the nodes that are told of, or at all; with one that is no node nothing is.
func TestFlush(t *testing.T) {
	full := func() pair { return fresh(t, 16, row16()...).does(t, write(0, row(1, 16)...)) }
	lists := [][]int{{}, {0}, {15}, {3, 3}, {5, 2, 9}, row16(), {7, 16}, {-1, 7}, {7, 8, 99, 9}, slices.Repeat([]int{4}, 40)}
	for _, node := range far {
		lists = append(lists, []int{node}, []int{2, node}, []int{node, 2})
	}
	for node := range 16 {
		lists = append(lists, []int{node})
	}
	for _, nodes := range lists {
		p := full().does(t, flush(nodes...)).sees(t)
		for node := range 16 {
			p.does(t, crash(node))
		}
		p.sees(t)
	}
	// What is frozen is flushed all the same, and stays frozen.
	p := full().does(t, freeze(3, true)).is(t, api.OK, flush()).is(t, api.ErrState, trim(3, 1))
	p.does(t, crash(3)).sees(t).is(t, api.OK, trim(3, 1))
}

func row16() []int {
	var l []int
	for node := range api.MaxNodes {
		l = append(l, node)
	}
	return l
}

// P18.3: the map is cut and joined as layer 13 has it, or its error is answered; nothing that is shown is turned (P18.5), nor what is open, durable or frozen.
func TestSplitMerge(t *testing.T) {
	for _, nodes := range [][]int{{0}, {0, 1}, {1, 0, 0, 1}, {2, 2, 2}} {
		for _, at := range append([]int{0, 1, 2, 3, 4, 5, 6, 7, 8, 9}, far...) {
			for _, a := range []act{split(at), merge(at)} {
				for _, probe := range probes(8, 0, 1, 2) {
					p := fresh(t, 8, nodes...)
					p.does(t, write(0, row(1, 8)...), flush(1), trim(3, 2), write(6, 9), freeze(nodes[0], true))
					p.does(t, a).sees(t).does(t, probe...).sees(t)
				}
			}
		}
	}
}

// P18.3: a map has 16 pieces, and no more.
func TestManyPieces(t *testing.T) {
	p := fresh(t, 1024, 3)
	for at := 1; at < 16; at++ {
		p.is(t, api.OK, split(at))
	}
	p.is(t, api.ErrMany, split(500)).is(t, api.ErrTwice, split(5)).is(t, api.ErrArg, split(1024)).is(t, api.ErrArg, split(0)).sees(t)
	p.is(t, api.OK, trim(0, 1024)).does(t, crash(3, row01(16, 3)...)).sees(t)
	p.is(t, api.OK, merge(7)).is(t, api.ErrNone, merge(7)).is(t, api.OK, split(500)).sees(t)
}

// row01 are n, of which each k-th is true.
func row01(n, k int) []bool {
	l := make([]bool, n)
	for i := range l {
		l[i] = i%k == 0
	}
	return l
}

// P18.3: a Move's errors: layer 13's, then frozen shards, then what is open; each ahead of the next, and of the old node and the new one alone.
func TestMoveErrors(t *testing.T) {
	opens := []int{0, 199, 200, 201, 256}
	for _, open0 := range opens {
		for _, open1 := range opens {
			for frozen := range 8 {
				states := []state{{0, open0, frozen&1 != 0}, {1, open1, frozen&2 != 0}, {2, 256, frozen&4 != 0}}
				p := filled(t, []int{0, 1, 2}, states...)
				p.is(t, api.ErrNone, move(3, 1)).is(t, api.ErrArg, move(0, 16)).is(t, api.ErrTwice, move(0, 0)).is(t, api.ErrNone, move(-1, 16))
				want := api.OK
				if open0 > 200 || open1 > 200 {
					want = api.ErrMany
				}
				if frozen&3 != 0 {
					want = api.ErrState
				}
				p.is(t, want, move(0, 1)).sees(t)
				p.does(t, slices.Concat(probes(3, 0, 1, 2)...)...)
			}
		}
	}
}

// P18.3: no block, and no node, is moved that is none.
func TestMoveFar(t *testing.T) {
	p := fresh(t, 6, 0, 1).does(t, write(0, row(1, 6)...))
	for _, a := range far {
		p.is(t, api.ErrNone, move(a, 3)).is(t, api.ErrNone, move(a, a))
		if a < 0 || a > 15 {
			p.is(t, api.ErrArg, move(0, a)).is(t, api.ErrArg, move(5, a))
		}
	}
	p.is(t, api.ErrNone, move(6, 0)).sees(t).does(t, slices.Concat(probes(6, 0, 1, 3)...)...)
}

// P18.3, P18.5, P18.7: behind a Move of a piece of any length all of it is there, and durable at both nodes; other nodes are not flushed.
func TestMove(t *testing.T) {
	for _, n := range []int{3, 4, 63, 64, 65, 127, 128, 129, 500, 1022, 1023, 1024} {
		for from := 0; from < 3; from++ {
			p := fresh(t, n, 4, 5, 6)
			for off := 0; off < n; off += 64 {
				p.does(t, write(off, row(uint64(1+off), min(64, n-off))...))
			}
			m := p.v.Map()
			piece := m.Pieces[from]
			p.does(t, trim(piece.From, 1), trim((piece.From+piece.To)/2, 1))
			to := 4 + (from+1)%3
			p.is(t, api.OK, move((piece.From+piece.To-1)/2, to)).sees(t)
			for _, node := range []int{4 + from, to, 4 + (from+2)%3} {
				p.does(t, crash(node)).sees(t)
			}
			p.does(t, snap(4, 1), snap(5, 1), snap(6, 1)).sees(t)
		}
	}
}

// P18.3: a piece that is nearly all of a volume goes also when each of both nodes has 200 open ops, and comes back.
func TestMoveGreat(t *testing.T) {
	for _, n := range []int{2, 64, 65, 66, 1023, 1024} {
		p := fresh(t, n, 4)
		for off := 0; off < n; off += 64 {
			p.does(t, write(off, row(uint64(1+off), min(64, n-off))...))
		}
		p.is(t, api.OK, move(0, 6)).sees(t).is(t, api.OK, move(n-1, 4)).sees(t)
		p.does(t, split(n-1), move(n-1, 5)).sees(t)
		p.does(t, times(200, write(0, 8))...).does(t, times(200, write(n-1, 9))...)
		p.is(t, api.OK, move(0, 5)).sees(t).does(t, crash(4), crash(5)).sees(t)
		p.does(t, snap(4, 1), snap(5, 1)).sees(t)
		p.does(t, times(200, trim(n-2, 1))...).is(t, api.OK, move(0, 4)).sees(t)
		p.does(t, crash(4), crash(5), snap(4, 2), snap(5, 2)).sees(t)
	}
}

// P18.3: what the new node had in the piece's blocks is gone, also where they are 0; what the old one had stays there, until the piece comes back.
func TestMoveBack(t *testing.T) {
	p := fresh(t, 8, 0, 1).does(t, write(0, row(1, 8)...))
	p.does(t, move(0, 2), trim(1, 2), write(3, 44)).shows(t, 1, 0, 0, 44, 5, 6, 7, 8)
	p.does(t, snap(0, 1), since(0, 0, 1), snap(2, 1)).sees(t)
	p.is(t, api.OK, move(3, 0)).shows(t, 1, 0, 0, 44, 5, 6, 7, 8)
	p.does(t, snap(0, 2), since(0, 1, 2), crash(0), crash(2), snap(2, 2)).sees(t)
	p.is(t, api.ErrArg, merge(4)).is(t, api.OK, move(0, 1)).is(t, api.ErrNone, merge(5)).is(t, api.OK, merge(4)).sees(t)
	p.does(t, trim(0, 8), crash(1)).shows(t, 1, 0, 0, 44, 5, 6, 7, 8)
	p.is(t, api.OK, move(7, 0)).shows(t, 1, 0, 0, 44, 5, 6, 7, 8).sees(t)
}

// P18.4: what there is of each node is its shard's, and of no node there is nothing.
func TestNodes(t *testing.T) {
	p := fresh(t, 6, 0, 15).does(t, write(0, row(1, 6)...), snap(0, 1), trim(2, 2), freeze(15, true))
	for _, node := range far {
		if node >= 0 && node < 16 {
			continue
		}
		for _, id := range []int{-1, 0, 1, 2, math.MaxInt} {
			p.is(t, api.ErrNone, snap(node, id)).is(t, api.ErrNone, remove(node, id)).is(t, api.ErrNone, since(node, 0, id)).is(t, api.ErrNone, since(node, id, 1))
		}
		p.is(t, api.ErrNone, crash(node)).is(t, api.ErrNone, crash(node, true, true)).is(t, api.ErrNone, freeze(node, true)).is(t, api.ErrNone, freeze(node, false)).does(t, snaps(node))
	}
	p.sees(t).does(t, slices.Concat(probes(6, 0, 15)...)...)
	for node := range 16 {
		p.is(t, api.ErrArg, snap(node, 0)).is(t, api.ErrNone, remove(node, 9)).is(t, api.OK, snap(node, 9)).is(t, api.ErrTwice, snap(node, 9)).is(t, api.OK, since(node, 0, 9)).is(t, api.ErrNone, since(node, 8, 9)).is(t, api.ErrNone, since(node, 0, 8))
	}
	p.sees(t)
}

// P18.4: a node's snapshots stay as they were taken, 32 of them.
func TestSnaps(t *testing.T) {
	p := fresh(t, 100, 0, 1, 2)
	for id := 1; id <= 32; id++ {
		p.does(t, write(3*id, row(uint64(id), 3)...)).is(t, api.OK, snap(1, 100-id))
	}
	p.is(t, api.ErrMany, snap(1, 1)).is(t, api.ErrTwice, snap(1, 99)).is(t, api.OK, snap(0, 99)).sees(t)
	p.is(t, api.OK, remove(1, 80)).is(t, api.ErrNone, remove(1, 80)).is(t, api.OK, snap(1, 80)).sees(t)
	for node := range 3 {
		p.does(t, crash(node))
	}
	p.does(t, move(0, 2), since(1, 99, 70), since(1, 70, 99), since(1, 70, 70), since(0, 0, 99)).sees(t)
}

// P18.4: a nil volume, and one that New did not give, have nothing.
func TestNotMade(t *testing.T) {
	v, _ := volume.New(4, 0, 1)
	copied := *v
	for _, w := range []*volume.Volume{nil, {}, new(volume.Volume), &copied} {
		for _, i := range append([]int{0, 1, 3}, far...) {
			errs := []api.Errno{w.Do(i, api.Op{Kind: api.Trim, Len: i}), w.Flush(), w.Flush(i), w.Split(i), w.Merge(i), w.Move(i, i), w.Move(0, 2), w.Crash(i, nil), w.Freeze(i, true), w.Snap(i, 1), w.Delete(i, 1)}
			numbers, err := w.Read(i, 0, 1)
			ops, other := w.Since(i, 0, 1)
			for _, err := range append(errs, err, other) {
				if err != api.ErrNil {
					t.Fatalf("%v: %v", errs, err)
				}
			}
			if len(numbers) != 0 || len(ops) != 0 || len(w.Snaps(i)) != 0 || !smap.Same(w.Map(), smap.Map{}) {
				t.Fatal(numbers, ops, w.Snaps(i), w.Map())
			}
		}
	}
	pair{v, newModel(v.Map())}.sees(t).does(t, slices.Concat(probes(4, 0, 1)...)...)
}

// Volumes go on apart from each other.
func TestApart(t *testing.T) {
	var l []pair
	for i := range 4 {
		l = append(l, fresh(t, 6, i, 0))
	}
	r := rand.New(rand.NewSource(18))
	for range 3000 {
		l[r.Intn(4)].does(t, chance(r, 6, 4))
	}
	for _, p := range l {
		p.sees(t).does(t, slices.Concat(probes(6, 0, 1, 2, 3)...)...)
	}
}

// few are acts at a volume of two blocks.
func few() []act {
	l := []act{write(0, 1), write(1, 2), write(0, 3, 4), trim(0, 2), op(-1, api.Op{Kind: api.Trim, Len: 1}), flush(), flush(0), flush(1), flush(1, 16), split(1), merge(1)}
	for node := range 2 {
		l = append(l, move(0, node), move(1, node), crash(node), crash(node, true), crash(node, false, true), freeze(node, true), freeze(node, false), snap(node, 1), remove(node, 1))
	}
	return l
}

// P18.1 to P18.7: behind every way of two acts all is as it should be.
func TestWays(t *testing.T) {
	acts := few()
	for _, nodes := range [][]int{{0}, {0, 1}} {
		for _, a := range acts {
			for _, b := range acts {
				for _, probe := range probes(2, 0, 1) {
					after(t, 2, nodes, write(0, 5, 6), a, b).sees(t).does(t, probe...).sees(t)
				}
			}
		}
	}
}

// P18.1 to P18.7: at every state to which some acts lead, each act does what it should.
func TestStates(t *testing.T) {
	acts := few()
	ways := [][]act{{}}
	seen := map[string]bool{}
	for at := 0; at < len(ways) && at < 700; at++ {
		for i, a := range acts {
			way := append(slices.Clone(ways[at]), a)
			p := after(t, 2, []int{0, 1}, way...).sees(t)
			p.w.m.Version %= 2
			key := p.w.key()
			p.w.m.Version = p.v.Map().Version
			p.does(t, probes(2, 0, 1)[(at+i)%4]...).sees(t)
			if !seen[key] {
				seen[key] = true
				ways = append(ways, way)
			}
		}
	}
	if len(ways) < 700 {
		t.Fatalf("%d states alone", len(ways))
	}
}

// chance is an act at a volume of n blocks, and at some nodes.
func chance(r *rand.Rand, n, nodes int) act {
	node, block := r.Intn(nodes), r.Intn(n)
	switch r.Intn(16) {
	case 0:
		return flush(slices.Repeat([]int{node}, r.Intn(3))...)
	case 1:
		return split(r.Intn(n + 1))
	case 2:
		return merge(r.Intn(n + 1))
	case 3:
		return move(block, node)
	case 4:
		return crash(node, row01(r.Intn(9), 1+r.Intn(3))...)
	case 5:
		return freeze(node, r.Intn(8) == 0)
	case 6:
		return snap(node, 1+r.Intn(40))
	case 7:
		return remove(node, 1+r.Intn(40))
	case 8:
		return since(node, r.Intn(41), 1+r.Intn(40))
	case 9:
		return read(0, block, 1+r.Intn(n))
	case 10, 11:
		return trim(block, 1+r.Intn(n-block))
	case 12:
		return op(r.Intn(3)-1, api.Op{Kind: api.Trim, Off: block, Len: 1})
	}
	return write(block, row(r.Uint64(), 1+r.Intn(min(64, n-block)))...)
}

// P18.1 to P18.7: long ways.
func TestLong(t *testing.T) {
	for i, n := range []int{1, 2, 5, 17, 64, 100, 1000, 1024} {
		r := rand.New(rand.NewSource(int64(i)))
		nodes := []int{0, 1, 2, 3}[:min(n, 4)]
		p := fresh(t, n, nodes...)
		for step := range 3000 {
			p.does(t, chance(r, n, 1+r.Intn(16)))
			if step%100 == 0 {
				p.sees(t)
			}
		}
		p.sees(t)
	}
}

// P18.2, P18.3: long ways on which nobody flushes, so that shards fill.
func TestFull(t *testing.T) {
	r := rand.New(rand.NewSource(182))
	p := fresh(t, 12, 0, 1, 2)
	full := map[api.Errno]int{}
	for step := range 6000 {
		a := chance(r, 12, 3)
		if step%300 > 0 && step%300 < 290 {
			a = []act{split(r.Intn(12)), merge(r.Intn(12)), freeze(r.Intn(3), r.Intn(20) == 0), read(0, 0, 12), trim(r.Intn(6), 1+r.Intn(6)), trim(r.Intn(6), 1+r.Intn(6)), write(r.Intn(6), row(r.Uint64(), 5)...), write(r.Intn(6), row(r.Uint64(), 5)...)}[r.Intn(8)]
		}
		full[a.do(p.w.copied()).err]++
		p.does(t, a)
	}
	if full[api.ErrMany] < 50 || full[api.ErrState] < 50 || full[api.OK] < 2000 {
		t.Fatal(full)
	}
	p.sees(t)
}

// P18.5: Split, Merge and Move turn nothing that is shown.
func TestNothingTurned(t *testing.T) {
	r := rand.New(rand.NewSource(185))
	p := fresh(t, 200, 0, 1, 2, 3)
	for range 1500 {
		p.does(t, chance(r, 200, 4))
		before, _ := p.v.Read(p.v.Map().Version, 0, 200)
		a := []act{split(r.Intn(200)), merge(r.Intn(200)), move(r.Intn(200), r.Intn(5))}[r.Intn(3)]
		p.does(t, a).shows(t, before...)
	}
}

// P18.7: a Crash of a node turns its blocks alone, and none that was flushed or moved and not done to again.
func TestCrashed(t *testing.T) {
	r := rand.New(rand.NewSource(187))
	lost := 0
	for round := range 400 {
		p := fresh(t, 30, 0, 1, 2)
		for range r.Intn(20) {
			p.does(t, chance(r, 30, 3))
		}
		node := r.Intn(3)
		m, open := p.v.Map(), p.w.nodes[node].open
		before, _ := p.v.Read(m.Version, 0, 30)
		p.does(t, crash(node, row01(r.Intn(9), 2)...))
		behind, _ := p.v.Read(m.Version, 0, 30)
		for block := range 30 {
			if before[block] == behind[block] {
				continue
			}
			lost++
			if p.w.owner(block) != node || !met(open, block) {
				t.Fatalf("round %d: the block %d of the node %d is turned by a Crash of %d", round, block, p.w.owner(block), node)
			}
		}
	}
	if lost < 100 {
		t.Fatalf("%d blocks alone were turned", lost)
	}
}

// met tells whether some ops are about a block.
func met(ops []api.Op, block int) bool {
	return slices.ContainsFunc(ops, func(o api.Op) bool {
		n := max(o.Len, len(o.Data))
		return block >= o.Off && block < o.Off+n
	})
}

// What a volume refuses is a number.
func Example() {
	v, _ := volume.New(10, 0, 1)
	v.Do(1, api.Op{Kind: api.Trim, Off: 4, Len: 2})
	fmt.Println(v.Do(2, api.Op{Kind: api.Trim, Off: 4, Len: 2}), v.Freeze(1, true), v.Do(1, api.Op{Kind: api.Trim, Off: 4, Len: 2}))
	// Output: error 13 error 0 error 11
}
