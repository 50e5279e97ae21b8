package smap_test

import (
	"fmt"
	"math"
	"math/rand"
	"slices"
	"testing"

	"jackstay/api"
	"jackstay/smap"
)

const (
	all    = 1024
	most   = 16
	newest = 1 << 40
)

// mark is a piece that no call answers.
var mark = api.Piece{From: -7, To: -7, Node: -7}

// odd are numbers that no map has blocks, nodes or cuts at.
var odd = []int{math.MinInt, math.MinInt + 1, -1025, -17, -2, -1, 1025, 1026, 1 << 20, 1 << 32, newest, math.MaxInt - 1, math.MaxInt}

// row are pieces one behind the other, two numbers each: where it ends, and its node.
func row(numbers ...int) []api.Piece {
	var pieces []api.Piece
	from := 0
	for i := 0; i < len(numbers); i += 2 {
		pieces = append(pieces, api.Piece{From: from, To: numbers[i], Node: numbers[i+1]})
		from = numbers[i]
	}
	return pieces
}

// of is the map of these pieces, as in row.
func of(version int, numbers ...int) smap.Map {
	pieces := row(numbers...)
	return smap.Map{Version: version, N: pieces[len(pieces)-1].To, Pieces: pieces}
}

// with is m of other pieces.
func with(m smap.Map, pieces ...api.Piece) smap.Map {
	m.Pieces = pieces
	return m
}

// steady is a map of n blocks in count pieces, the first ones of a block each, whose nodes go round from a node on.
func steady(version, n, count, node int) smap.Map {
	var numbers []int
	for i := range count - 1 {
		numbers = append(numbers, i+1, (node+i)%16)
	}
	return of(version, append(numbers, n, (node+count-1)%16)...)
}

// same tells whether two maps are the same, in every field.
func same(a, b smap.Map) bool {
	return a.Version == b.Version && a.N == b.N && slices.Equal(a.Pieces, b.Pieces)
}

// fill writes over pieces, also behind their end.
func fill(pieces []api.Piece) {
	pieces = pieces[:cap(pieces)]
	for i := range pieces {
		pieces[i] = mark
	}
}

// lends hands a call a map with room behind its pieces, and asks that both stay as they are, and share nothing with the answered pieces.
func lends(t *testing.T, what string, m smap.Map, call func(m smap.Map) []api.Piece) []api.Piece {
	t.Helper()
	room := append(slices.Clone(m.Pieces), mark, mark, mark)
	want := slices.Clone(room)
	got := call(with(m, room[:len(m.Pieces)]...))
	if !slices.Equal(room, want) {
		t.Fatalf("%s: %v was handed in, and is %v", what, want, room)
	}
	answer := slices.Clone(got)
	fill(room)
	if !slices.Equal(got, answer) {
		t.Fatalf("%s: the answer %v shares memory with the argument", what, answer)
	}
	copy(room, want)
	fill(got)
	if !slices.Equal(room[:len(want)], want) {
		t.Fatalf("%s: the argument %v shares memory with the answer", what, want)
	}
	return answer
}

// turns is a call that makes a map of one, asked so.
func turns(t *testing.T, what string, m smap.Map, call func(m smap.Map) (smap.Map, api.Errno)) (smap.Map, api.Errno) {
	t.Helper()
	var got smap.Map
	var err api.Errno
	pieces := lends(t, what, m, func(m smap.Map) []api.Piece {
		got, err = call(m)
		return got.Pieces
	})
	return with(got, pieces...), err
}

func split(t *testing.T, m smap.Map, at int) (smap.Map, api.Errno) {
	t.Helper()
	return turns(t, "Split", m, func(m smap.Map) (smap.Map, api.Errno) { return smap.Split(m, at) })
}

func merge(t *testing.T, m smap.Map, at int) (smap.Map, api.Errno) {
	t.Helper()
	return turns(t, "Merge", m, func(m smap.Map) (smap.Map, api.Errno) { return smap.Merge(m, at) })
}

func move(t *testing.T, m smap.Map, block, node int) (smap.Map, api.Errno) {
	t.Helper()
	return turns(t, "Move", m, func(m smap.Map) (smap.Map, api.Errno) { return smap.Move(m, block, node) })
}

func changed(t *testing.T, a, b smap.Map) ([]api.Piece, api.Errno) {
	t.Helper()
	var err api.Errno
	got := lends(t, "Changed", a, func(a smap.Map) []api.Piece {
		return lends(t, "Changed", b, func(b smap.Map) []api.Piece {
			var pieces []api.Piece
			pieces, err = smap.Changed(a, b)
			return pieces
		})
	})
	return got, err
}

// right asks Right of m for want, and that it writes nothing.
func right(t *testing.T, m smap.Map, want bool) {
	t.Helper()
	lends(t, "Right", m, func(m smap.Map) []api.Piece {
		if got := smap.Right(m); got != want {
			t.Fatalf("Right(%v): %v", m, got)
		}
		return nil
	})
}

// answers asks for a call's map, which is one.
func answers(t *testing.T, what string, got smap.Map, err api.Errno, want smap.Map) {
	t.Helper()
	if err != api.OK || !same(got, want) {
		t.Fatalf("%s: %v, %v: want %v", what, got, err, want)
	}
	right(t, got, true)
}

// refuses asks for an error, and the zero map.
func refuses(t *testing.T, what string, got smap.Map, err, want api.Errno) {
	t.Helper()
	if err != want || got.Version != 0 || got.N != 0 || len(got.Pieces) != 0 {
		t.Fatalf("%s: %v, %v: want no map, %v", what, got, err, want)
	}
}

// finds asks Find of a block for a piece and an error, and that it writes nothing.
func finds(t *testing.T, m smap.Map, block, want int, why api.Errno) {
	t.Helper()
	lends(t, "Find", m, func(m smap.Map) []api.Piece {
		if got, err := smap.Find(m, block); got != want || err != why {
			t.Fatalf("Find(%v, %d): %d, %v: want %d, %v", m, block, got, err, want, why)
		}
		return nil
	})
}

// table is of each block its node, and whether a piece begins there.
type table struct {
	nodes  []int
	begins []bool
}

// tableOf is a map's table.
func tableOf(m smap.Map) table {
	t := table{make([]int, m.N), make([]bool, m.N)}
	for _, p := range m.Pieces {
		t.begins[p.From] = true
		for i := p.From; i < p.To; i++ {
			t.nodes[i] = p.Node
		}
	}
	return t
}

// count is how many pieces begin ahead of a block, or at it, less 1: the number of its piece.
func (t table) count(block int) int {
	n := -1
	for i := 0; i <= block; i++ {
		if t.begins[i] {
			n++
		}
	}
	return n
}

func (t table) has(block int) bool {
	return block >= 0 && block < len(t.nodes)
}

// told is the map of a table.
func (t table) told(version int) smap.Map {
	var pieces []api.Piece
	for i, node := range t.nodes {
		if t.begins[i] {
			pieces = append(pieces, api.Piece{From: i, Node: node})
		}
		pieces[len(pieces)-1].To = i + 1
	}
	return smap.Map{Version: version, N: len(t.nodes), Pieces: pieces}
}

func (t table) split(at int) api.Errno {
	switch {
	case !t.has(at) || at == 0:
		return api.ErrArg
	case t.begins[at]:
		return api.ErrTwice
	case t.count(len(t.nodes)-1) == most-1:
		return api.ErrMany
	}
	t.begins[at] = true
	return api.OK
}

func (t table) merge(at int) api.Errno {
	switch {
	case !t.has(at) || at == 0 || !t.begins[at]:
		return api.ErrNone
	case t.nodes[at-1] != t.nodes[at]:
		return api.ErrArg
	}
	t.begins[at] = false
	return api.OK
}

func (t table) move(block, node int) api.Errno {
	switch {
	case !t.has(block):
		return api.ErrNone
	case node < 0 || node >= 16:
		return api.ErrArg
	case t.nodes[block] == node:
		return api.ErrTwice
	}
	number := t.count(block)
	for i := range t.nodes {
		if t.count(i) == number {
			t.nodes[i] = node
		}
	}
	return api.OK
}

// comes asks that a call has answered what it does to m's table.
func comes(t *testing.T, what string, m, got smap.Map, err api.Errno, does func(table) api.Errno) {
	t.Helper()
	was := tableOf(m)
	why := does(was)
	if why == api.OK && m.Version == newest {
		why = api.ErrMany
	}
	what = fmt.Sprint(what, " of ", m)
	if why != api.OK {
		refuses(t, what, got, err, why)
		return
	}
	answers(t, what, got, err, was.told(m.Version+1))
}

// splits, merges and moves ask that of a call each, and answer what it has answered.
func splits(t *testing.T, m smap.Map, at int) (smap.Map, api.Errno) {
	t.Helper()
	got, err := split(t, m, at)
	comes(t, fmt.Sprint("Split at ", at), m, got, err, func(t table) api.Errno { return t.split(at) })
	return got, err
}

func merges(t *testing.T, m smap.Map, at int) (smap.Map, api.Errno) {
	t.Helper()
	got, err := merge(t, m, at)
	comes(t, fmt.Sprint("Merge at ", at), m, got, err, func(t table) api.Errno { return t.merge(at) })
	return got, err
}

func moves(t *testing.T, m smap.Map, block, node int) (smap.Map, api.Errno) {
	t.Helper()
	got, err := move(t, m, block, node)
	comes(t, fmt.Sprint("Move of ", block, " to ", node), m, got, err, func(t table) api.Errno { return t.move(block, node) })
	return got, err
}

// maps are all maps of n blocks and these nodes.
func maps(version, n int, nodes ...int) []smap.Map {
	var some []smap.Map
	var longer func(pieces []api.Piece, from int)
	longer = func(pieces []api.Piece, from int) {
		if from == n {
			some = append(some, smap.Map{Version: version, N: n, Pieces: slices.Clone(pieces)})
			return
		}
		for to := from + 1; to <= n; to++ {
			for _, node := range nodes {
				longer(append(pieces, api.Piece{From: from, To: to, Node: node}), to)
			}
		}
	}
	longer(nil, 0)
	return some
}

// wrongs are maps that are none, each by one thing alone.
func wrongs() []smap.Map {
	some := []smap.Map{{}, {Version: 1}, {Version: 1, N: 1}, {Version: 1, N: 10, Pieces: []api.Piece{}}}
	base := of(3, 4, 0, 7, 1, 10, 15)
	for _, n := range append([]int{0}, odd...) {
		m := base
		m.N = n
		some = append(some, m)
		if n < 1 || n > newest {
			m = base
			m.Version = n
			some = append(some, m)
		}
		for i := range base.Pieces {
			from, to, node := slices.Clone(base.Pieces), slices.Clone(base.Pieces), slices.Clone(base.Pieces)
			to[i].To, node[i].Node = n, n
			if n != 0 || i > 0 {
				from[i].From = n
				some = append(some, with(base, from...))
			}
			some = append(some, with(base, to...))
			if n != 0 {
				some = append(some, with(base, node...))
			}
		}
	}
	for _, n := range []int{1, 4, 7, 9, 11} {
		m := base
		m.N = n
		some = append(some, m)
	}
	return append(some,
		smap.Map{Version: newest + 1, N: 10, Pieces: base.Pieces},
		of(1, 4, 0, 7, 16, 10, 2),
		of(1, 4, 16, 7, 1, 10, 2),
		of(1, 4, 0, 7, 1, 10, -1),
		of(1, 4, 0, 4, 1, 10, 2),
		of(1, 0, 0, 4, 1, 10, 2),
		of(1, 4, 0, 10, 1, 10, 2),
		of(1, 4, 0, 3, 1, 10, 2),
		of(1, 4, 0, 12, 1, 10, 2),
		of(1, 1025, 0),
		of(1, 1024, 0, 1025, 1),
		steady(1, 17, 17, 0),
		steady(1, 1024, 17, 3),
		steady(1, 1024, 100, 3),
		with(base, api.Piece{From: 1, To: 10}),
		with(base, api.Piece{From: 0, To: 4}, api.Piece{From: 5, To: 10, Node: 1}),
		with(base, api.Piece{From: 0, To: 4}, api.Piece{From: 3, To: 10, Node: 1}),
		with(base, api.Piece{From: 0, To: 4}, api.Piece{From: 7, To: 10, Node: 2}, api.Piece{From: 4, To: 7, Node: 1}),
		with(base, api.Piece{From: 4, To: 10}, api.Piece{From: 0, To: 4}),
		with(base, api.Piece{From: 0, To: 10}, api.Piece{From: 0, To: 10}),
		with(base, api.Piece{From: 0, To: 10}, api.Piece{From: 10, To: 10}),
		with(base, api.Piece{From: 0, To: 10}, api.Piece{From: 10, To: 11}),
		with(base, api.Piece{From: 0, To: 12}, api.Piece{From: 12, To: 10}),
		with(base, api.Piece{From: math.MinInt, To: 10}),
		with(base, api.Piece{From: 0, To: math.MinInt}, api.Piece{From: math.MinInt, To: 10}),
		with(base, api.Piece{From: 0, To: math.MaxInt}, api.Piece{From: math.MaxInt, To: 10}),
	)
}

// The chapter's example, and what the document's says of it.
func TestExample(t *testing.T) {
	got, err := smap.New(10, 0, 1, 2)
	answers(t, "New", got, err, of(1, 4, 0, 7, 1, 10, 2))
}

// P13.1: all numbers of blocks and nodes: the pieces are as long as each other, but the first ones, which have one block more.
func TestNew(t *testing.T) {
	for n := 1; n <= all; n++ {
		for count := 1; count <= min(n, most); count++ {
			var nodes []int
			for i := range count {
				nodes = append(nodes, (n+5*i*i)%16)
			}
			was := slices.Clone(nodes)
			got, err := smap.New(n, nodes...)
			if !slices.Equal(nodes, was) {
				t.Fatalf("New(%d, %v) has written into what it was handed", n, was)
			}
			clear(nodes)
			size, left := n/count, n-n/count*count
			var want []int
			end := 0
			for _, node := range was {
				end += size
				if left > 0 {
					end++
					left--
				}
				want = append(want, end, node)
			}
			answers(t, fmt.Sprint("New ", n, was), got, err, of(1, want...))
		}
	}
}

// P13.1: pieces of one node, nodes that fall, both ends of them, one block, and one block a piece.
func TestNewEdges(t *testing.T) {
	for _, c := range []struct {
		n     int
		nodes []int
		want  smap.Map
	}{
		{1, []int{0}, of(1, 1, 0)},
		{1, []int{15}, of(1, 1, 15)},
		{2, []int{15, 0}, of(1, 1, 15, 2, 0)},
		{3, []int{1, 2}, of(1, 2, 1, 3, 2)},
		{4, []int{7, 7, 7}, of(1, 2, 7, 3, 7, 4, 7)},
		{5, []int{7, 3, 7}, of(1, 2, 7, 4, 3, 5, 7)},
		{1024, []int{9}, of(1, 1024, 9)},
		{1024, []int{2, 1, 0}, of(1, 342, 2, 683, 1, 1024, 0)},
		{16, []int{0, 1, 2, 3, 4, 5, 6, 7, 8, 9, 10, 11, 12, 13, 14, 15}, steady(1, 16, 16, 0)},
	} {
		got, err := smap.New(c.n, c.nodes...)
		answers(t, fmt.Sprint("New ", c.n, c.nodes), got, err, c.want)
	}
}

// P13.1: ErrArg, also where there are too many nodes; then ErrMany.
func TestNewWrong(t *testing.T) {
	crowd := []int{0, 1, 2, 3, 4, 5, 6, 7, 8, 9, 10, 11, 12, 13, 14, 15, 0}
	ask := func(n int, nodes []int, want api.Errno) {
		t.Helper()
		got, err := smap.New(n, nodes...)
		refuses(t, fmt.Sprint("New ", n, nodes), got, err, want)
	}
	for _, n := range append([]int{0}, odd...) {
		for _, nodes := range [][]int{nil, {}, {0}, {0, 1}, {15}, {-1}, {16}, crowd} {
			ask(n, nodes, api.ErrArg)
		}
	}
	for _, n := range []int{1, 2, 10, 16, 17, 1024} {
		ask(n, nil, api.ErrArg)
		ask(n, []int{}, api.ErrArg)
		for _, node := range append([]int{16, 17, 1024}, odd...) {
			ask(n, []int{node}, api.ErrArg)
			ask(n, []int{node, 1}, api.ErrArg)
			ask(n, []int{1, node}, api.ErrArg)
			ask(n, []int{1, node, 2}, api.ErrArg)
			ask(n, slices.Concat(crowd, []int{node}), api.ErrArg)
			ask(n, slices.Concat([]int{node}, crowd), api.ErrArg)
			ask(n, slices.Concat(crowd[:15], []int{node}), api.ErrArg)
		}
		ask(n, crowd, api.ErrMany)
		ask(n, slices.Concat(crowd, crowd), api.ErrMany)
		ask(n, make([]int, 17), api.ErrMany)
		ask(n, make([]int, 5000), api.ErrMany)
	}
	for n := 1; n < most; n++ {
		for count := n + 1; count <= most; count++ {
			ask(n, crowd[:count], api.ErrMany)
			ask(n, make([]int, count), api.ErrMany)
		}
	}
}

// P13.1: the edges of what a map is.
func TestRight(t *testing.T) {
	for _, m := range []smap.Map{
		of(1, 1, 0),
		of(newest, 1, 15),
		of(newest-1, 1024, 0),
		of(7, 1023, 0, 1024, 0),
		of(7, 1, 15, 1024, 0),
		of(1, 4, 0, 7, 0, 10, 0),
		of(1, 4, 2, 7, 1, 10, 0),
		steady(1, 16, 16, 3),
		steady(2, 17, 16, 0),
		steady(newest, 1024, 16, 15),
		steady(3, 1024, 15, 0),
	} {
		right(t, m, true)
	}
	for _, m := range wrongs() {
		right(t, m, false)
	}
}

// P13.1: Right of all maps of up to two pieces, of a few numbers each, and of what is none: the ones that can be laid are right.
func TestRightAll(t *testing.T) {
	laid := map[string]bool{}
	for _, version := range []int{1, newest} {
		for n := 1; n <= 3; n++ {
			for _, m := range maps(version, n, 0, 15) {
				laid[fmt.Sprint(m)] = true
			}
		}
	}
	var pieces []api.Piece
	for from := -1; from <= 4; from++ {
		for to := -1; to <= 4; to++ {
			for _, node := range []int{-1, 0, 15, 16} {
				pieces = append(pieces, api.Piece{From: from, To: to, Node: node})
			}
		}
	}
	some := 0
	ask := func(pieces ...api.Piece) {
		for _, version := range []int{0, 1, newest, newest + 1} {
			for n := 0; n <= 3; n++ {
				m := smap.Map{Version: version, N: n, Pieces: pieces}
				want := false
				if version >= 1 && version <= newest {
					want = laid[fmt.Sprint(m)]
				}
				if smap.Right(m) != want {
					t.Fatalf("Right(%v): %v", m, !want)
				}
				if want {
					some++
				}
			}
		}
	}
	ask()
	for i, p := range pieces {
		ask(p)
		for j, q := range pieces {
			if i == j || q.From == p.To || q.Node == 0 {
				ask(p, q)
			}
		}
	}
	// Of two nodes: 2 maps of one piece for each n, and of two pieces 4 for each cut; each of two versions.
	if want := 2 * (3*2 + (1+2)*4); some != want {
		t.Fatalf("%d were right, want %d", some, want)
	}
}

// P13.2, P13.3: of what is no map all calls but Right and Same answer ErrArg, also where another error applies.
func TestNoMap(t *testing.T) {
	good := of(1, 4, 0, 10, 1)
	for _, m := range wrongs() {
		for _, at := range append([]int{0, 1, 3, 4, 5, 7, 9, 10, 1023, 1024}, odd...) {
			finds(t, m, at, 0, api.ErrArg)
			got, err := split(t, m, at)
			refuses(t, "Split", got, err, api.ErrArg)
			got, err = merge(t, m, at)
			refuses(t, "Merge", got, err, api.ErrArg)
			for _, node := range []int{math.MinInt, -1, 0, 1, 15, 16, math.MaxInt} {
				got, err = move(t, m, at, node)
				refuses(t, "Move", got, err, api.ErrArg)
			}
		}
		for _, pair := range [][2]smap.Map{{m, m}, {m, good}, {good, m}} {
			pieces, err := changed(t, pair[0], pair[1])
			if err != api.ErrArg || len(pieces) != 0 {
				t.Fatalf("Changed%v: %v, %v", pair, pieces, err)
			}
		}
	}
}

// P13.1: two maps are the same if all of their numbers are, whether they are maps or not.
func TestSame(t *testing.T) {
	some := append(wrongs(),
		of(1, 4, 0, 10, 1), of(2, 4, 0, 10, 1), of(1, 5, 0, 10, 1), of(1, 4, 0, 11, 1), of(1, 4, 0, 10, 2), of(1, 4, 3, 10, 1),
		of(1, 10, 0), of(1, 4, 0, 10, 0), of(1, 4, 0, 7, 0, 10, 0), of(1, 4, 0, 7, 1, 10, 1),
		smap.Map{Version: 1, N: 11, Pieces: row(4, 0, 10, 1)},
		smap.Map{Version: 1, N: 10, Pieces: row(4, 0)},
		smap.Map{Version: 1, N: 10},
		smap.Map{N: 10},
	)
	some = append(some, maps(1, 3, 0, 1)...)
	for _, a := range some {
		for _, b := range some {
			want := same(a, b)
			lends(t, "Same", a, func(a smap.Map) []api.Piece {
				return lends(t, "Same", b, func(b smap.Map) []api.Piece {
					if got := smap.Same(a, b); got != want {
						t.Fatalf("Same(%v, %v): %v", a, b, got)
					}
					return nil
				})
			})
		}
	}
	if !smap.Same(smap.Map{Version: 1, N: 1, Pieces: []api.Piece{}}, smap.Map{Version: 1, N: 1}) {
		t.Fatal("a list that is nil, and one that is empty, are not the same")
	}
}

// P13.2: Find of all blocks of small maps, and past them.
func TestFind(t *testing.T) {
	for n := 1; n <= 5; n++ {
		for _, m := range maps(7, n, 0, 15) {
			asks(t, m)
		}
	}
	asks(t, of(1, 1024, 3))
	asks(t, of(newest, 1, 0, 1023, 0, 1024, 0))
	asks(t, steady(2, 1024, 16, 5))
	m, _ := smap.New(1024, 1, 2, 3, 1, 1, 1)
	asks(t, m)
	finds(t, of(1, 4, 0, 7, 1, 10, 2), 4, 1, api.OK)
	finds(t, of(1, 4, 0, 7, 1, 10, 2), 3, 0, api.OK)
	finds(t, of(1, 4, 0, 7, 1, 10, 2), 9, 2, api.OK)
	finds(t, of(1, 4, 0, 7, 1, 10, 2), 10, 0, api.ErrNone)
}

// asks asks Find for all blocks of a map, and for others.
func asks(t *testing.T, m smap.Map) {
	t.Helper()
	was := tableOf(m)
	for block := range m.N {
		finds(t, m, block, was.count(block), api.OK)
	}
	for _, block := range append([]int{m.N, m.N + 1, 1024}, odd...) {
		finds(t, m, block, 0, api.ErrNone)
	}
}

// P13.2, P13.4, P13.5: each Split, Merge and Move of all small maps.
func TestAllSteps(t *testing.T) {
	for _, version := range []int{1, newest - 1, newest} {
		for n := 1; n <= 4; n++ {
			for _, m := range maps(version, n, 0, 7, 15) {
				for at := -2; at <= n+2; at++ {
					splits(t, m, at)
					merges(t, m, at)
					for _, node := range []int{-1, 0, 1, 7, 15, 16} {
						moves(t, m, at, node)
					}
				}
			}
		}
	}
}

// P13.2: numbers that no map has.
func TestOddSteps(t *testing.T) {
	for _, m := range []smap.Map{of(1, 1, 0), of(3, 4, 0, 7, 0, 10, 2), of(5, 1024, 3), steady(newest, 1024, 16, 0)} {
		for _, at := range append([]int{0, m.N - 1, m.N, m.N + 1}, odd...) {
			splits(t, m, at)
			merges(t, m, at)
			for _, node := range append([]int{0, 3, 5, 15, 16, 17}, odd...) {
				moves(t, m, at, node)
			}
		}
	}
}

// P13.2: Split, Merge and Move, told by their pieces.
func TestSteps(t *testing.T) {
	m := of(1, 4, 0, 7, 1, 10, 2)
	got, err := split(t, m, 5)
	answers(t, "Split", got, err, of(2, 4, 0, 5, 1, 7, 1, 10, 2))
	got, err = split(t, m, 1)
	answers(t, "Split", got, err, of(2, 1, 0, 4, 0, 7, 1, 10, 2))
	got, err = split(t, m, 9)
	answers(t, "Split", got, err, of(2, 4, 0, 7, 1, 9, 2, 10, 2))
	got, err = split(t, m, 4)
	refuses(t, "Split", got, err, api.ErrTwice)
	got, err = split(t, m, 0)
	refuses(t, "Split", got, err, api.ErrArg)
	got, err = split(t, m, 10)
	refuses(t, "Split", got, err, api.ErrArg)

	m = of(5, 2, 1, 4, 1, 7, 1, 10, 2)
	got, err = merge(t, m, 2)
	answers(t, "Merge", got, err, of(6, 4, 1, 7, 1, 10, 2))
	got, err = merge(t, m, 4)
	answers(t, "Merge", got, err, of(6, 2, 1, 7, 1, 10, 2))
	got, err = merge(t, m, 7)
	refuses(t, "Merge", got, err, api.ErrArg)
	for _, at := range []int{0, 1, 3, 10} {
		got, err = merge(t, m, at)
		refuses(t, "Merge", got, err, api.ErrNone)
	}

	got, err = move(t, m, 3, 0)
	answers(t, "Move", got, err, of(6, 2, 1, 4, 0, 7, 1, 10, 2))
	got, err = move(t, m, 0, 15)
	answers(t, "Move", got, err, of(6, 2, 15, 4, 1, 7, 1, 10, 2))
	// A piece that becomes a neighbour's node stays one by itself.
	got, err = move(t, m, 9, 1)
	answers(t, "Move", got, err, of(6, 2, 1, 4, 1, 7, 1, 10, 1))
	got, err = move(t, m, 9, 2)
	refuses(t, "Move", got, err, api.ErrTwice)
	got, err = move(t, m, 10, 16)
	refuses(t, "Move", got, err, api.ErrNone)
	got, err = move(t, m, 9, 16)
	refuses(t, "Move", got, err, api.ErrArg)
}

// P13.2: the 16th piece is the last one; what is refused ahead of that.
func TestManyPieces(t *testing.T) {
	for _, n := range []int{16, 17, 40, 1024} {
		m := steady(3, n, 15, 0)
		for at := -1; at <= n+1; at++ {
			full, err := splits(t, m, at)
			if err == api.OK {
				merges(t, full, at)
			}
		}
		m = steady(3, n, 16, 0)
		for at := -1; at <= n+1; at++ {
			splits(t, m, at)
			merges(t, m, at)
			moves(t, m, at, 4)
		}
		got, err := split(t, m, 15)
		refuses(t, "Split where a piece begins", got, err, api.ErrTwice)
		got, err = split(t, m, n)
		refuses(t, "Split at the end", got, err, api.ErrArg)
		if n > 16 {
			got, err = split(t, m, 16)
			refuses(t, "Split", got, err, api.ErrMany)
		}
	}
}

// P13.2: behind the version 2^40 there is none: ErrMany, behind all other errors.
func TestNewest(t *testing.T) {
	last := of(newest-1, 4, 0, 7, 0, 10, 2)
	got, err := split(t, last, 5)
	answers(t, "Split", got, err, of(newest, 4, 0, 5, 0, 7, 0, 10, 2))
	got, err = merge(t, last, 4)
	answers(t, "Merge", got, err, of(newest, 7, 0, 10, 2))
	got, err = move(t, last, 4, 3)
	answers(t, "Move", got, err, of(newest, 4, 0, 7, 3, 10, 2))

	m := of(newest, 4, 0, 7, 0, 10, 2)
	finds(t, m, 8, 2, api.OK)
	got, err = split(t, m, 5)
	refuses(t, "Split", got, err, api.ErrMany)
	got, err = split(t, m, 4)
	refuses(t, "Split where a piece begins", got, err, api.ErrTwice)
	got, err = split(t, m, 10)
	refuses(t, "Split at the end", got, err, api.ErrArg)
	got, err = merge(t, m, 4)
	refuses(t, "Merge", got, err, api.ErrMany)
	got, err = merge(t, m, 7)
	refuses(t, "Merge of two nodes", got, err, api.ErrArg)
	got, err = merge(t, m, 5)
	refuses(t, "Merge where no piece begins", got, err, api.ErrNone)
	got, err = move(t, m, 4, 3)
	refuses(t, "Move", got, err, api.ErrMany)
	got, err = move(t, m, 4, 0)
	refuses(t, "Move to where it is", got, err, api.ErrTwice)
	got, err = move(t, m, 4, 16)
	refuses(t, "Move to no node", got, err, api.ErrArg)
	got, err = move(t, m, 10, 3)
	refuses(t, "Move of no block", got, err, api.ErrNone)
	pieces, err := changed(t, m, last)
	if err != api.OK || len(pieces) != 0 {
		t.Fatalf("Changed: %v, %v", pieces, err)
	}
}

// differs asks that Changed answers the blocks whose node is another one in b, as long as can be, rising.
func differs(t *testing.T, a, b smap.Map) {
	t.Helper()
	got, err := changed(t, a, b)
	if err != api.OK {
		t.Fatalf("Changed(%v, %v): %v", a, b, err)
	}
	was, is := tableOf(a).nodes, tableOf(b).nodes
	for i, p := range got {
		if p.From < 0 || p.From >= p.To || p.To > b.N || i > 0 && got[i-1].To > p.From {
			t.Fatalf("Changed(%v, %v): %v does not rise", a, b, got)
		}
		if i > 0 && got[i-1].To == p.From && got[i-1].Node == p.Node {
			t.Fatalf("Changed(%v, %v): %v: two pieces are one", a, b, got)
		}
		for block := p.From; block < p.To; block++ {
			if is[block] != p.Node || was[block] == is[block] {
				t.Fatalf("Changed(%v, %v): %v: the block %d has not changed, or has another node", a, b, got, block)
			}
			// It was told of: it is not missed below.
			was[block] = is[block]
		}
	}
	if !slices.Equal(was, is) {
		t.Fatalf("Changed(%v, %v): %v does not tell of all that has changed", a, b, got)
	}
}

// P13.3: all two small maps, of other versions.
func TestChangedAll(t *testing.T) {
	for n := 1; n <= 5; n++ {
		nodes := []int{0, 7, 15}
		if n == 5 {
			nodes = nodes[:2]
		}
		for _, a := range maps(1, n, nodes...) {
			for i, b := range maps(2, n, nodes...) {
				if i%3 == 0 {
					b.Version = newest
				}
				differs(t, a, b)
			}
		}
	}
}

// P13.3: told by the pieces.
func TestChanged(t *testing.T) {
	for _, c := range []struct {
		a, b smap.Map
		want []api.Piece
	}{
		{of(1, 1, 0), of(1, 1, 0), nil},
		{of(1, 1, 0), of(1, 1, 1), row(1, 1)},
		{of(1, 1, 15), of(9, 1, 0), row(1, 0)},
		{of(1, 10, 0), of(2, 4, 0, 10, 0), nil},
		{of(1, 4, 0, 10, 0), of(2, 10, 1), row(10, 1)},
		{of(1, 10, 0), of(2, 4, 1, 10, 1), row(10, 1)},
		{of(1, 10, 0), of(2, 4, 1, 10, 2), row(4, 1, 10, 2)},
		{of(1, 4, 0, 7, 1, 10, 2), of(2, 4, 3, 7, 3, 10, 3), row(10, 3)},
		{of(1, 4, 0, 7, 1, 10, 2), of(2, 10, 1), []api.Piece{{From: 0, To: 4, Node: 1}, {From: 7, To: 10, Node: 1}}},
		{of(1, 4, 0, 7, 1, 10, 2), of(2, 5, 1, 6, 2, 10, 1), []api.Piece{{From: 0, To: 4, Node: 1}, {From: 5, To: 6, Node: 2}, {From: 7, To: 10, Node: 1}}},
		{of(9, 10, 1), of(2, 4, 0, 7, 1, 10, 2), []api.Piece{{From: 0, To: 4, Node: 0}, {From: 7, To: 10, Node: 2}}},
		{of(1, 512, 0, 1024, 1), of(2, 1024, 0), []api.Piece{{From: 512, To: 1024, Node: 0}}},
		{of(1, 1024, 3), of(newest, 1024, 4), row(1024, 4)},
		{of(1, 1, 0, 1023, 1, 1024, 0), of(2, 1024, 1), []api.Piece{{From: 0, To: 1, Node: 1}, {From: 1023, To: 1024, Node: 1}}},
		{steady(1, 16, 16, 0), steady(1, 16, 16, 1), steady(1, 16, 16, 1).Pieces},
	} {
		got, err := changed(t, c.a, c.b)
		if err != api.OK || !slices.Equal(got, c.want) {
			t.Fatalf("Changed(%v, %v): %v, %v: want %v", c.a, c.b, got, err, c.want)
		}
		differs(t, c.a, c.b)
		differs(t, c.b, c.a)
	}
}

// P13.3: more pieces than a map may have.
func TestChangedMany(t *testing.T) {
	var a, b []int
	for i := range most {
		a = append(a, 64*i+64, i%2)
		b = append(b, min(64*i+96, 1024), (i+1)%2)
	}
	m, o := of(1, a...), of(1, b...)
	got, err := changed(t, m, o)
	if err != api.OK || len(got) != most {
		t.Fatalf("Changed: %v, %v", got, err)
	}
	differs(t, m, o)
	// Every second piece of the one has within it a short piece, of its node, of the other: that has not changed.
	a, b = nil, nil
	for i := range most / 2 {
		a = append(a, 128*i+20, 9, 128*i+40, 0)
		b = append(b, 128*i+64, 0, 128*i+128, 1)
	}
	a[len(a)-2] = 1024
	m, o = of(1, a...), of(1, b...)
	got, err = changed(t, m, o)
	if err != api.OK || len(got) != 23 {
		t.Fatalf("Changed: %v, %v", got, err)
	}
	differs(t, m, o)
	differs(t, o, m)
}

// P13.3: maps of other numbers of blocks.
func TestChangedOther(t *testing.T) {
	some := []smap.Map{of(1, 1, 0), of(1, 2, 0), of(1, 1, 0, 2, 0), of(1, 10, 0), of(1, 11, 0), of(newest, 1023, 0), steady(1, 1024, 16, 0)}
	for _, a := range some {
		for _, b := range some {
			if a.N == b.N {
				differs(t, a, b)
				continue
			}
			if got, err := changed(t, a, b); err != api.ErrArg || len(got) != 0 {
				t.Fatalf("Changed(%v, %v): %v, %v", a, b, got, err)
			}
		}
	}
}

// P13.4, P13.5: long ways over maps: what each map is made of is one, and a step turns no nodes but those of the moved piece.
func TestLongWays(t *testing.T) {
	r := rand.New(rand.NewSource(13))
	for way := range 60 {
		n := 1 + r.Intn(all)
		if way%2 == 0 {
			n = 1 + r.Intn(40)
		}
		var nodes []int
		for range 1 + r.Intn(min(n, most)) {
			nodes = append(nodes, r.Intn(16))
		}
		m, err := smap.New(n, nodes...)
		if err != api.OK {
			t.Fatalf("New(%d, %v): %v", n, nodes, err)
		}
		first := m
		for range 120 {
			m = step(t, r, m)
		}
		differs(t, first, m)
		differs(t, m, first)
	}
}

// step is a map behind some step, or m, if that was refused.
func step(t *testing.T, r *rand.Rand, m smap.Map) smap.Map {
	t.Helper()
	at := r.Intn(m.N+2) - 1
	if r.Intn(2) == 0 {
		at = m.Pieces[r.Intn(len(m.Pieces))].From
	}
	was := tableOf(m).nodes
	var got smap.Map
	var err api.Errno
	kind := r.Intn(3)
	switch kind {
	case 0:
		got, err = splits(t, m, at)
	case 1:
		got, err = merges(t, m, at)
	case 2:
		got, err = moves(t, m, at, r.Intn(17))
	}
	if err != api.OK {
		return m
	}
	is := tableOf(got).nodes
	if kind < 2 && !slices.Equal(is, was) {
		t.Fatalf("%v became %v: nodes have turned", m, got)
	}
	differs(t, m, got)
	return got
}

// P13.6: Merge undoes Split: the pieces are as they were, two versions later.
func TestMergeUndoesSplit(t *testing.T) {
	some := append(maps(1, 4, 0, 7), of(9, 1024, 3), steady(newest-2, 1024, 15, 0), of(newest-2, 4, 0, 10, 0))
	for _, m := range some {
		for at := range m.N {
			cut, err := split(t, m, at)
			if err != api.OK {
				continue
			}
			got, err := merge(t, cut, at)
			answers(t, "Merge", got, err, smap.Map{Version: m.Version + 2, N: m.N, Pieces: m.Pieces})
		}
	}
}

// R3, R7: the same calls have the same answers, whatever was refused between them.
func TestAgain(t *testing.T) {
	m := of(2, 4, 0, 7, 0, 10, 2)
	for range 3 {
		got, err := split(t, m, 5)
		answers(t, "Split", got, err, of(3, 4, 0, 5, 0, 7, 0, 10, 2))
		got, err = merge(t, m, 4)
		answers(t, "Merge", got, err, of(3, 7, 0, 10, 2))
		got, err = move(t, m, 5, 2)
		answers(t, "Move", got, err, of(3, 4, 0, 7, 2, 10, 2))
		got, err = move(t, m, 5, 0)
		refuses(t, "Move", got, err, api.ErrTwice)
		got, err = smap.New(3, 0, 1, 2, 3)
		refuses(t, "New", got, err, api.ErrMany)
		got, err = smap.New(3, 0, 1)
		answers(t, "New", got, err, of(1, 2, 0, 3, 1))
	}
}
