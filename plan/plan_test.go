package plan_test

import (
	"fmt"
	"math"
	"math/rand"
	"slices"
	"testing"

	"jackstay/api"
	"jackstay/blocks"
	"jackstay/plan"
	"jackstay/smap"
)

const (
	all    = 1024
	most   = 64
	newest = 1 << 40
)

// mark is a number, and spot a piece, that no call answers.
const mark = 0xDEAD

var spot = api.Piece{From: -7, To: -7, Node: -7}

// odd are numbers that are no volume's blocks.
var odd = []int{math.MinInt, math.MinInt + 1, -1025, -1024, -65, -2, -1, 1025, 1026, 1 << 20, 1 << 32, newest, math.MaxInt - 1024, math.MaxInt - 1, math.MaxInt}

func write(off int, data ...uint64) api.Op {
	return api.Op{Kind: api.Write, Off: off, Data: data}
}

func trim(off, n int) api.Op {
	return api.Op{Kind: api.Trim, Off: off, Len: n}
}

func read(off, n int) api.Op {
	return api.Op{Off: off, Len: n}
}

func part(piece, node int, o api.Op) plan.Part {
	return plan.Part{Piece: piece, Node: node, Op: o}
}

// rising are n numbers from one on.
func rising(from uint64, n int) []uint64 {
	var numbers []uint64
	for range n {
		numbers = append(numbers, from)
		from++
	}
	return numbers
}

// of is a map of these pieces, two numbers each: where it ends, and its node.
func of(numbers ...int) smap.Map {
	m := smap.Map{Version: 3}
	for i := 0; i < len(numbers); i += 2 {
		m.Pieces = append(m.Pieces, api.Piece{From: m.N, To: numbers[i], Node: numbers[i+1]})
		m.N = numbers[i]
	}
	return m
}

// steady is a map of n blocks in count pieces, all but the last one of size blocks, whose nodes go round.
func steady(n, count, size int) smap.Map {
	var numbers []int
	for i := range count - 1 {
		numbers = append(numbers, (i+1)*size, (5*i+3)%16)
	}
	return of(append(numbers, n, (5*count-2)%16)...)
}

// maps are all maps of n blocks and these nodes.
func maps(n int, nodes ...int) []smap.Map {
	var some []smap.Map
	var longer func(pieces []api.Piece, from int)
	longer = func(pieces []api.Piece, from int) {
		if from == n {
			some = append(some, smap.Map{Version: 1, N: n, Pieces: slices.Clone(pieces)})
			return
		}
		for to := from + 1; to <= n; to++ {
			for _, node := range nodes {
				longer(append(pieces, api.Piece{From: from, To: to, Node: node}), to)
			}
		}
	}
	longer(nil, 0)
	return some
}

// small are all maps of up to four blocks and two nodes.
func small() []smap.Map {
	var some []smap.Map
	for n := 1; n <= 4; n++ {
		some = append(some, maps(n, 0, 15)...)
	}
	return some
}

// large are some maps of many blocks.
func large() []smap.Map {
	return []smap.Map{
		of(all, 9),
		of(1, 0, all, 15),
		of(all-1, 4, all, 4),
		of(500, 1, 501, 2, 502, 1, 600, 1, all, 0),
		steady(all, 16, 64),
		steady(all, 16, 1),
		steady(all, 16, 63),
		steady(all, 15, 65),
		steady(100, 7, 11),
		steady(16, 16, 1),
	}
}

// wrongs are maps that are none.
func wrongs() []smap.Map {
	base := of(4, 0, 7, 1, 10, 15)
	some := []smap.Map{{}, {Version: 1}, {Version: 1, N: 10}, {Version: 1, N: 10, Pieces: []api.Piece{}}}
	for _, version := range []int{math.MinInt, -1, 0, newest + 1, math.MaxInt} {
		m := base
		m.Version = version
		some = append(some, m)
	}
	for _, n := range append([]int{0, 1, 4, 7, 9, 11, all}, odd...) {
		m := base
		m.N = n
		some = append(some, m)
	}
	for _, p := range []api.Piece{{}, spot, {From: 4, To: 7, Node: 16}, {From: 4, To: 7, Node: -1}, {From: 5, To: 7}, {From: 3, To: 7}, {From: 4, To: 6}, {From: 4, To: 8}, {From: 4, To: 4}, {From: 4, To: 10}, {From: math.MinInt, To: math.MaxInt}} {
		m := base
		m.Pieces = []api.Piece{base.Pieces[0], p, base.Pieces[2]}
		some = append(some, m)
	}
	return append(some, of(all+1, 0), of(all, 0, all+1, 1), steady(17, 17, 1), steady(all, 17, 3))
}

// noOps are ops that a volume of n blocks has not, each by one thing alone.
func noOps(n int) []api.Op {
	some := []api.Op{
		{}, read(0, 1), write(0), trim(0, 0), trim(0, n+1), trim(1, n), trim(n, 1), write(n, 5), write(n-1, 5, 6), write(0, rising(1, n+1)...),
		write(0, rising(1, most+1)...), write(-1, 5), trim(-1, 1), trim(-1, n), write(-1, 5, 6),
		{Kind: api.Write, Len: 1, Data: []uint64{5}}, {Kind: api.Write, Len: -1, Data: []uint64{5}}, {Kind: api.Write, Len: 1},
		{Kind: api.Trim, Len: 1, Data: []uint64{5}}, {Kind: api.Trim, Data: []uint64{5}}, {Kind: api.Trim, Len: 1, Data: []uint64{0}},
	}
	for _, kind := range []int{-1, 0, 3, 4, math.MinInt, math.MaxInt} {
		some = append(some, api.Op{Kind: kind, Len: 1}, api.Op{Kind: kind, Data: []uint64{5}})
	}
	for _, x := range odd {
		some = append(some, trim(x, 1), trim(0, x), trim(x, x), write(x, 5), write(x, 5, 6), trim(1, x))
	}
	return some
}

// opsOf are all ops of a volume of n blocks, of a Write with two choices of its numbers.
func opsOf(n int) []api.Op {
	var some []api.Op
	for off := range n {
		for count := 1; count <= n-off; count++ {
			some = append(some, trim(off, count), write(off, rising(5, count)...), write(off, make([]uint64, count)...))
		}
	}
	return some
}

// sameOps tells whether two ops are the same, in every field.
func sameOps(a, b api.Op) bool {
	return a.Kind == b.Kind && a.Off == b.Off && a.Len == b.Len && slices.Equal(a.Data, b.Data)
}

// sameParts tells whether two lists are the same, in every field.
func sameParts(a, b []plan.Part) bool {
	return slices.EqualFunc(a, b, func(x, y plan.Part) bool {
		return x.Piece == y.Piece && x.Node == y.Node && sameOps(x.Op, y.Op)
	})
}

// keep is a list of its own of the same parts.
func keep(parts []plan.Part) []plan.Part {
	own := slices.Clone(parts)
	for i := range own {
		own[i].Op.Data = slices.Clone(own[i].Op.Data)
	}
	return own
}

// piece is a block's piece: how many pieces begin ahead of it, or at it, less 1.
func piece(m smap.Map, block int) int {
	n := -1
	for _, p := range m.Pieces {
		if p.From <= block {
			n++
		}
	}
	return n
}

// partsOf are the parts of an op that may be (of Kind 0: a read), block by block.
func partsOf(m smap.Map, o api.Op) []plan.Part {
	n := o.Len
	if o.Kind == api.Write {
		n = len(o.Data)
	}
	var parts []plan.Part
	was := -1
	for i := range n {
		k := piece(m, o.Off+i)
		if k != was {
			parts = append(parts, part(k, m.Pieces[k].Node, api.Op{Kind: o.Kind, Off: o.Off + i}))
			was = k
		}
		last := &parts[len(parts)-1].Op
		if o.Kind == api.Write {
			last.Data = append(last.Data, o.Data[i])
		} else {
			last.Len++
		}
	}
	return parts
}

// lends hands a call a map and numbers with room behind them, and asks that all stay as they are, share nothing with the answered parts, and these nothing with one another.
func lends(t *testing.T, what string, m smap.Map, data []uint64, call func(m smap.Map, data []uint64) ([]plan.Part, api.Errno)) ([]plan.Part, api.Errno) {
	t.Helper()
	pieces := append(slices.Clone(m.Pieces), spot, spot)
	room := append(slices.Clone(data), mark, mark)
	wantPieces, wantRoom := slices.Clone(pieces), slices.Clone(room)
	lent := m
	lent.Pieces = pieces[:len(m.Pieces)]
	got, err := call(lent, room[:len(data)])
	answer := keep(got)
	asks := func(why string) {
		t.Helper()
		if !slices.Equal(pieces, wantPieces) || !slices.Equal(room, wantRoom) || !sameParts(got, answer) {
			t.Fatalf("%s of %v: %s", what, m, why)
		}
	}
	asks("what was handed in was written into")
	for i := range got {
		full := got[i].Op.Data[:cap(got[i].Op.Data)]
		was := slices.Clone(full)
		for k := range full {
			full[k] = mark + 1
		}
		own := got[i].Op.Data
		got[i].Op.Data = answer[i].Op.Data
		asks("a part shares memory")
		got[i].Op.Data = own
		copy(full, was)
	}
	clear(pieces)
	clear(room)
	if !sameParts(got, answer) {
		t.Fatalf("%s of %v: the answer shares memory with what was handed in", what, m)
	}
	return answer, err
}

func ops(t *testing.T, m smap.Map, o api.Op) ([]plan.Part, api.Errno) {
	t.Helper()
	return lends(t, fmt.Sprint("Ops ", o), m, o.Data, func(m smap.Map, data []uint64) ([]plan.Part, api.Errno) {
		lent := o
		lent.Data = data
		return plan.Ops(m, lent)
	})
}

func reads(t *testing.T, m smap.Map, off, n int) ([]plan.Part, api.Errno) {
	t.Helper()
	return lends(t, fmt.Sprint("Reads ", off, n), m, nil, func(m smap.Map, _ []uint64) ([]plan.Part, api.Errno) {
		return plan.Reads(m, off, n)
	})
}

// join hands Join lists with room behind them, and asks that all stay as they are, and share nothing with the answer.
func join(t *testing.T, m smap.Map, off, n int, data ...[]uint64) ([]uint64, api.Errno) {
	t.Helper()
	var lent, want [][]uint64
	for _, d := range data {
		room := append(slices.Clone(d), mark, mark)
		lent = append(lent, room[:len(d)])
		want = append(want, slices.Clone(room))
	}
	stays := func(why string) {
		t.Helper()
		for i, d := range lent {
			if !slices.Equal(d[:len(d)+2], want[i]) {
				t.Fatalf("Join(%v, %d, %d): %s %v, which was %v", m, off, n, why, d[:len(d)+2], want[i])
			}
		}
	}
	var got []uint64
	var err api.Errno
	lends(t, "Join", m, nil, func(m smap.Map, _ []uint64) ([]plan.Part, api.Errno) {
		got, err = plan.Join(m, off, n, lent...)
		return nil, err
	})
	stays("wrote into")
	answer := slices.Clone(got)
	full := got[:cap(got)]
	for i := range full {
		full[i] = mark + 1
	}
	stays("shares memory with")
	return answer, err
}

// whole hands Whole parts with room behind them and their numbers, and asks that all stay as they are, and share nothing with the answer.
func whole(t *testing.T, parts ...plan.Part) (api.Op, api.Errno) {
	t.Helper()
	roomy := func(p plan.Part) plan.Part {
		n := len(p.Op.Data)
		p.Op.Data = append(slices.Clone(p.Op.Data), mark, mark)[:n]
		return p
	}
	var lent []plan.Part
	for _, p := range parts {
		lent = append(lent, roomy(p))
	}
	stays := func(why string) {
		t.Helper()
		for i, p := range lent {
			data := p.Op.Data
			if !sameOps(p.Op, parts[i].Op) || data[:len(data)+1][len(data)] != mark {
				t.Fatalf("Whole(%v) %s %v", parts, why, p)
			}
		}
	}
	got, err := plan.Whole(lent...)
	stays("wrote into")
	answer := got
	answer.Data = slices.Clone(got.Data)
	full := got.Data[:cap(got.Data)]
	for i := range full {
		full[i] = mark + 1
	}
	stays("shares memory with")
	return answer, err
}

// cuts asks for an op's parts.
func cuts(t *testing.T, m smap.Map, o api.Op, want ...plan.Part) []plan.Part {
	t.Helper()
	got, err := ops(t, m, o)
	if err != api.OK || !sameParts(got, want) {
		t.Fatalf("Ops(%v, %v): %v, %v: want %v", m, o, got, err, want)
	}
	return got
}

// cutsRead asks for a read's parts.
func cutsRead(t *testing.T, m smap.Map, off, n int, want ...plan.Part) []plan.Part {
	t.Helper()
	got, err := reads(t, m, off, n)
	if err != api.OK || !sameParts(got, want) {
		t.Fatalf("Reads(%v, %d, %d): %v, %v: want %v", m, off, n, got, err, want)
	}
	return got
}

// noParts asks for an error, and no parts.
func noParts(t *testing.T, what string, got []plan.Part, err, want api.Errno) {
	t.Helper()
	if err != want || len(got) != 0 {
		t.Fatalf("%s: %v, %v: want none, %v", what, got, err, want)
	}
}

// joins asks Join for an error, or for numbers.
func joins(t *testing.T, m smap.Map, off, n int, data [][]uint64, why api.Errno, want ...uint64) {
	t.Helper()
	got, err := join(t, m, off, n, data...)
	if err != why || !slices.Equal(got, want) {
		t.Fatalf("Join(%v, %d, %d, %v): %v, %v: want %v, %v", m, off, n, data, got, err, want, why)
	}
}

// makes asks Whole for an op.
func makes(t *testing.T, want api.Op, parts ...plan.Part) {
	t.Helper()
	got, err := whole(t, parts...)
	if err != api.OK || !sameOps(got, want) {
		t.Fatalf("Whole(%v): %v, %v: want %v", parts, got, err, want)
	}
}

// fails asks Whole for an error, and no op.
func fails(t *testing.T, want api.Errno, parts ...plan.Part) {
	t.Helper()
	got, err := whole(t, parts...)
	if err != want || !sameOps(got, api.Op{}) {
		t.Fatalf("Whole(%v): %v, %v: want none, %v", parts, got, err, want)
	}
}

// bare are parts of these ops, of nodes and pieces that no map has.
func bare(ops ...api.Op) []plan.Part {
	var parts []plan.Part
	for i, o := range ops {
		parts = append(parts, part(-3*i-1, 100-i, o))
	}
	return parts
}

// The chapter's example, and what the document's says of an op over two pieces.
func TestExample(t *testing.T) {
	m := of(4, 0, 7, 1)
	cuts(t, m, trim(3, 2), part(0, 0, trim(3, 1)), part(1, 1, trim(4, 1)))
}

// P14.1: parts of each kind, at both ends of pieces, in one of them, and over all; pieces of one node are cut, too.
func TestParts(t *testing.T) {
	m := of(4, 9, 5, 9, 7, 0, 10, 15)
	cuts(t, m, trim(0, 1), part(0, 9, trim(0, 1)))
	cuts(t, m, trim(0, 4), part(0, 9, trim(0, 4)))
	cuts(t, m, trim(0, 5), part(0, 9, trim(0, 4)), part(1, 9, trim(4, 1)))
	cuts(t, m, trim(5, 1), part(2, 0, trim(5, 1)))
	cuts(t, m, trim(9, 1), part(3, 15, trim(9, 1)))
	cuts(t, m, trim(0, 10), part(0, 9, trim(0, 4)), part(1, 9, trim(4, 1)), part(2, 0, trim(5, 2)), part(3, 15, trim(7, 3)))
	cuts(t, m, write(3, 6, 7, 0, 8), part(0, 9, write(3, 6)), part(1, 9, write(4, 7)), part(2, 0, write(5, 0, 8)))
	cuts(t, m, write(7, 1, 2, 3), part(3, 15, write(7, 1, 2, 3)))
	cuts(t, m, write(6, 0), part(2, 0, write(6, 0)))
	cutsRead(t, m, 0, 10, part(0, 9, read(0, 4)), part(1, 9, read(4, 1)), part(2, 0, read(5, 2)), part(3, 15, read(7, 3)))
	cutsRead(t, m, 4, 1, part(1, 9, read(4, 1)))
	cutsRead(t, m, 6, 2, part(2, 0, read(6, 1)), part(3, 15, read(7, 1)))
}

// P14.1, P14.2, P14.3, P14.5: all ops and reads of all small maps, and of each op the whole of its parts.
func TestAllSmall(t *testing.T) {
	for _, m := range small() {
		for _, o := range opsOf(m.N) {
			parts := cuts(t, m, o, partsOf(m, o)...)
			makes(t, o, parts...)
			lies(t, m, parts)
		}
		for off := range m.N {
			for n := 1; n <= m.N-off; n++ {
				lies(t, m, cutsRead(t, m, off, n, partsOf(m, read(off, n))...))
			}
		}
	}
}

// lies asks that each part lies in its piece, behind the one ahead, and its node is that of its blocks.
func lies(t *testing.T, m smap.Map, parts []plan.Part) {
	t.Helper()
	was := -1
	var nodes []int
	for _, p := range parts {
		n := p.Op.Len + len(p.Op.Data)
		if n < 1 || p.Piece <= was {
			t.Fatalf("%v of %v: the piece %d behind %d", parts, m, p.Piece, was)
		}
		was = p.Piece
		for i := range n {
			k, err := smap.Find(m, p.Op.Off+i)
			if err != api.OK || k != p.Piece || m.Pieces[k].Node != p.Node {
				t.Fatalf("%v of %v: the block %d lies elsewhere", parts, m, p.Op.Off+i)
			}
		}
		nodes = append(nodes, p.Node)
	}
	wantNodes(t, parts, nodes)
}

// wantNodes asks Nodes for each of these numbers once, rising.
func wantNodes(t *testing.T, parts []plan.Part, nodes []int) {
	t.Helper()
	there := map[int]int{}
	for _, node := range nodes {
		there[node]++
	}
	var want []int
	for node := range there {
		want = append(want, node)
	}
	slices.Sort(want)
	lent := append(slices.Clone(parts), part(mark, mark, api.Op{}))
	got := plan.Nodes(lent[:len(parts)]...)
	if !slices.Equal(got, want) {
		t.Fatalf("Nodes(%v): %v: want %v", parts, got, want)
	}
	if !sameParts(lent[:len(parts)], parts) || lent[len(parts)].Node != mark {
		t.Fatalf("Nodes wrote into %v: %v", parts, lent)
	}
}

// P14.1, P14.5: ops and reads of large maps, at all ends of pieces and round them.
func TestLarge(t *testing.T) {
	for _, m := range large() {
		var at []int
		for _, p := range m.Pieces {
			at = append(at, p.From-1, p.From, p.From+1, p.To-1)
		}
		for _, off := range at {
			for _, end := range append(at, m.N) {
				n := end - off
				if off < 0 || n < 1 || end > m.N {
					continue
				}
				lies(t, m, cuts(t, m, trim(off, n), partsOf(m, trim(off, n))...))
				lies(t, m, cutsRead(t, m, off, n, partsOf(m, read(off, n))...))
				if n <= most {
					o := write(off, rising(uint64(off), n)...)
					lies(t, m, cuts(t, m, o, partsOf(m, o)...))
				}
			}
		}
	}
}

// P14.1: the most that may be: all blocks, a Write of 64 numbers, and numbers of 64 bits.
func TestMost(t *testing.T) {
	m := steady(all, 16, 64)
	var trims, parts []plan.Part
	for i, p := range m.Pieces {
		trims = append(trims, part(i, p.Node, trim(64*i, 64)))
		parts = append(parts, part(i, p.Node, read(64*i, 64)))
	}
	cuts(t, m, trim(0, all), trims...)
	cutsRead(t, m, 0, all, parts...)
	data := rising(math.MaxUint64-63, most)
	cuts(t, m, write(960, data...), part(15, m.Pieces[15].Node, write(960, data...)))
	cuts(t, m, write(959, data...), part(14, m.Pieces[14].Node, write(959, data[0])), part(15, m.Pieces[15].Node, write(960, data[1:]...)))
	cuts(t, of(1, 15), write(0, math.MaxUint64), part(0, 15, write(0, math.MaxUint64)))
}

// P14.1: an op that is none is ErrNone.
func TestOpsWrong(t *testing.T) {
	for _, m := range append(small(), large()...) {
		for _, o := range noOps(m.N) {
			got, err := ops(t, m, o)
			noParts(t, fmt.Sprint("Ops ", m, o), got, err, api.ErrNone)
		}
	}
}

// P14.1: a read of no blocks, or of some that the volume has not, is ErrNone.
func TestReadsWrong(t *testing.T) {
	for _, m := range append(small(), large()...) {
		numbers := append([]int{0, 1, m.N - 1, m.N, m.N + 1}, odd...)
		for _, off := range numbers {
			for _, n := range numbers {
				if off >= 0 && off < m.N && n >= 1 && n <= m.N-off {
					continue
				}
				got, err := reads(t, m, off, n)
				noParts(t, fmt.Sprint("Reads ", m, off, n), got, err, api.ErrNone)
				joins(t, m, off, n, nil, api.ErrNone)
				joins(t, m, off, n, [][]uint64{{5}}, api.ErrNone)
				joins(t, m, off, n, [][]uint64{{}, nil}, api.ErrNone)
			}
		}
	}
}

// P14.1, P14.2: what is no map is ErrArg, ahead of all other errors.
func TestNoMap(t *testing.T) {
	for _, m := range wrongs() {
		for _, o := range append(noOps(10), trim(0, 1), write(0, 5), trim(0, 10), write(9, 5)) {
			got, err := ops(t, m, o)
			noParts(t, fmt.Sprint("Ops ", m, o), got, err, api.ErrArg)
		}
		for _, off := range append([]int{0, 1, 9, 10}, odd...) {
			for _, n := range append([]int{0, 1, 10}, odd...) {
				got, err := reads(t, m, off, n)
				noParts(t, fmt.Sprint("Reads ", m, off, n), got, err, api.ErrArg)
				joins(t, m, off, n, nil, api.ErrArg)
				joins(t, m, off, n, [][]uint64{{5}}, api.ErrArg)
			}
		}
	}
}

// P14.1: Same asks of all fields; a list that is nil is as an empty one.
func TestSame(t *testing.T) {
	base := part(2, 3, api.Op{Kind: api.Write, Off: 4, Len: 5, Data: []uint64{6, 7}})
	turned := slices.Repeat([]plan.Part{base}, 14)
	turned[0].Piece++
	turned[1].Node++
	turned[2].Op.Kind++
	turned[3].Op.Off++
	turned[4].Op.Len++
	turned[5].Op.Data = []uint64{6, 8}
	turned[6].Op.Data = []uint64{5, 7}
	turned[7].Op.Data = []uint64{6}
	turned[8].Op.Data = []uint64{6, 7, 0}
	turned[9].Op.Data = nil
	turned[10].Piece = -2
	turned[11].Node = -3
	turned[12].Piece, turned[12].Node = 3, 2
	turned[13] = plan.Part{}
	ask := func(a, b []plan.Part, want bool) {
		t.Helper()
		was, is := keep(a), keep(b)
		if plan.Same(a, b) != want || plan.Same(b, a) != want {
			t.Fatalf("Same(%v, %v): want %v", a, b, want)
		}
		if !sameParts(a, was) || !sameParts(b, is) {
			t.Fatalf("Same wrote into %v, %v", was, is)
		}
	}
	for i, x := range turned {
		ask([]plan.Part{base}, []plan.Part{x}, false)
		ask([]plan.Part{base, base}, []plan.Part{base, x}, false)
		ask([]plan.Part{base, base}, []plan.Part{x, base}, false)
		ask([]plan.Part{base, x}, []plan.Part{x, base}, false)
		for k, y := range turned {
			ask([]plan.Part{x}, []plan.Part{y}, i == k)
		}
	}
	ask([]plan.Part{base, turned[0]}, keep([]plan.Part{base, turned[0]}), true)
	ask([]plan.Part{base}, []plan.Part{base, base}, false)
	ask([]plan.Part{base}, nil, false)
	ask([]plan.Part{{}}, nil, false)
	ask(nil, nil, true)
	ask([]plan.Part{}, nil, true)
	bare, empty := part(1, 2, trim(3, 4)), part(1, 2, trim(3, 4))
	empty.Op.Data = []uint64{}
	ask([]plan.Part{bare}, []plan.Part{empty}, true)
}

// P14.2: what was read of each part, in order; ErrForm of too few, too many, and of each that has not as many numbers as its part.
func TestJoin(t *testing.T) {
	m := of(4, 0, 7, 1, 10, 0)
	joins(t, m, 3, 5, [][]uint64{{5}, {6, 0, 8}, {math.MaxUint64}}, api.OK, 5, 6, 0, 8, math.MaxUint64)
	joins(t, m, 4, 3, [][]uint64{{3, 2, 1}}, api.OK, 3, 2, 1)
	joins(t, m, 9, 1, [][]uint64{{0}}, api.OK, 0)
	for _, data := range [][][]uint64{
		nil,
		{},
		{nil},
		{{5, 6, 0, 8, 9}},
		{{5}, {6, 0, 8}},
		{{6, 0, 8}, {9}},
		{{5}, {6, 0, 8}, {}},
		{{5}, {6, 0, 8}, nil},
		{{}, {6, 0, 8}, {9}},
		{{5}, {}, {9}},
		{{5}, {6, 0}, {8, 9}},
		{{5, 6}, {0, 8}, {9}},
		{{5}, {6, 0, 8, 9}, {}},
		{{5}, {6, 0, 8, 1}, {9}},
		{{5}, {6, 0}, {9}},
		{{5, 5}, {6, 0, 8}, {9}},
		{{5}, {6, 0, 8}, {9, 9}},
		{{5}, {6, 0, 8}, {9}, {}},
		{{5}, {6, 0, 8}, {9}, nil},
		{{5}, {6, 0, 8}, {9}, {1}},
		{{}, {5}, {6, 0, 8}, {9}},
		{nil, {5}, {6, 0, 8}, {9}},
		{{5}, {6}, {0}, {8}, {9}},
		{{6, 0, 8}, {5}, {9}},
		{{5}, {6, 0, 8}, rising(0, 5000)},
	} {
		joins(t, m, 3, 5, data, api.ErrForm)
	}
	joins(t, m, 4, 3, [][]uint64{{3, 2}}, api.ErrForm)
	joins(t, m, 4, 3, [][]uint64{{3, 2, 1}, {}}, api.ErrForm)
	joins(t, m, 4, 3, [][]uint64{{3}, {2}, {1}}, api.ErrForm)
}

// P14.2: each list of up to three data of up to three numbers, of reads of one to three parts.
func TestJoinAll(t *testing.T) {
	m := of(1, 0, 3, 1, 4, 0)
	for off := range 4 {
		for n := 1; n <= 4-off; n++ {
			parts := partsOf(m, read(off, n))
			for code := range 5 * 5 * 5 {
				var data [][]uint64
				var want []uint64
				for rest := code; rest > 0; rest /= 5 {
					d := rising(uint64(10*rest), rest%5)
					data = append(data, d)
					want = append(want, d...)
				}
				fits := slices.EqualFunc(parts, data, func(p plan.Part, d []uint64) bool { return p.Op.Len == len(d) })
				if fits {
					joins(t, m, off, n, data, api.OK, want...)
				} else {
					joins(t, m, off, n, data, api.ErrForm)
				}
			}
		}
	}
}

// P14.2: nodes that rise, fall, come again, and are none.
func TestNodes(t *testing.T) {
	for _, nodes := range [][]int{
		nil, {}, {0}, {15}, {3, 1, 2}, {3, 3}, {3, 1, 3}, {1, 3, 3, 1}, {15, 0, 15, 0, 7},
		{-1, 0, 16, -1}, {math.MaxInt, math.MinInt, 0, math.MaxInt}, slices.Repeat([]int{5, 4}, 3000),
	} {
		var parts []plan.Part
		for i, node := range nodes {
			parts = append(parts, part(20-i, node, trim(i, 1)))
		}
		wantNodes(t, parts, nodes)
	}
}

// P14.3: what parts are together, whatever their pieces and nodes; a Len, or Data, that the kind has not is empty.
func TestWhole(t *testing.T) {
	makes(t, trim(3, 1), bare(trim(3, 1))...)
	makes(t, trim(3, 6), bare(trim(3, 1), trim(4, 2), trim(6, 3))...)
	makes(t, write(3, 5), bare(write(3, 5))...)
	makes(t, write(3, 5, 0, 6, 7), bare(write(3, 5), write(4, 0, 6), write(6, 7))...)
	makes(t, write(0, 0, 0), bare(write(0, 0), write(1, 0))...)
	makes(t, trim(5, 2), part(7, 7, trim(5, 1)), part(7, 7, trim(6, 1)))
	makes(t, trim(5, 2), part(math.MaxInt, math.MinInt, trim(5, 1)), part(0, -1, trim(6, 1)))
	makes(t, trim(5, 2), bare(api.Op{Kind: api.Trim, Off: 5, Len: 2, Data: []uint64{}})...)
	makes(t, write(0, rising(9, 1000)...), bare(write(0, rising(9, 400)...), write(400, rising(409, 600)...))...)
}

// P14.3: the edges: from 0 to 1024 on, and 1024 blocks in all.
func TestWholeEdges(t *testing.T) {
	makes(t, trim(0, all), bare(trim(0, all))...)
	makes(t, trim(0, all), bare(trim(0, all-1), trim(all-1, 1))...)
	makes(t, trim(all, 1), bare(trim(all, 1))...)
	makes(t, trim(all, all), bare(trim(all, all))...)
	makes(t, trim(all-1, all), bare(trim(all-1, 1), trim(all, all-1))...)
	makes(t, write(all, rising(1, all)...), bare(write(all, rising(1, all)...))...)
	makes(t, write(1000, rising(1, all)...), bare(write(1000, rising(1, 24)...), write(all, rising(25, 1000)...))...)
	for _, ops := range [][]api.Op{
		{trim(0, all+1)},
		{trim(all, all+1)},
		{trim(0, all), trim(all, 1)},
		{trim(0, all-1), trim(all-1, 2)},
		{trim(1, all-1), trim(all, 2)},
		{trim(all-1, 1), trim(all, all)},
		{trim(all+1, 1)},
		{trim(all, 1), trim(all+1, 1)},
		{trim(all-1, 2), trim(all+1, 1)},
		{write(0, rising(1, all+1)...)},
		{write(0, rising(1, all)...), write(all, 5)},
		{write(1, rising(1, all)...), write(all+1, 5)},
		{write(all+1, 5)},
		{write(all, 5), write(all+1, 5)},
	} {
		fails(t, api.ErrForm, bare(ops...)...)
	}
}

// P14.3: no part is ErrNone; gaps, parts of another kind, of none, without blocks, and numbers that no op has, are ErrForm.
func TestWholeWrong(t *testing.T) {
	fails(t, api.ErrNone)
	fails(t, api.ErrNone, []plan.Part{}...)
	for _, ops := range [][]api.Op{
		{{}},
		{{}, {}},
		{read(0, 1)},
		{read(0, 1), read(1, 1)},
		{{Kind: 3, Len: 1}},
		{{Kind: 3, Data: []uint64{5}}},
		{{Kind: -1, Len: 1}, {Kind: -1, Off: 1, Len: 1}},
		{write(0)},
		{trim(0, 0)},
		{trim(0, -1)},
		{trim(4, -1), trim(3, 2)},
		{trim(-1, 1)},
		{write(-1, 5)},
		{trim(-1, 1), trim(0, 1)},
		{trim(0, 1), trim(2, 1)},
		{trim(0, 2), trim(1, 1)},
		{trim(1, 1), trim(0, 1)},
		{trim(1, 1), trim(1, 1)},
		{write(0, 5), write(2, 6)},
		{write(0, 5, 6), write(1, 6)},
		{write(1, 5), write(0, 6)},
		{write(1, 5), write(1, 5)},
		{write(0, 5), trim(1, 1)},
		{trim(0, 1), write(1, 5)},
		{trim(0, 1), trim(1, 1), write(2, 5)},
		{trim(0, 1), {Off: 1}},
		{trim(0, 1), read(1, 1)},
		{trim(0, 1), trim(1, 0)},
		{trim(0, 1), trim(1, 0), trim(1, 1)},
		{write(0, 5), write(1)},
		{write(0, 5), write(1), write(1, 6)},
		{write(0), write(0, 5)},
		{{Kind: api.Write, Len: 1, Data: []uint64{5}}},
		{{Kind: api.Write, Len: -1, Data: []uint64{5}}},
		{{Kind: api.Write, Len: 1}},
		{{Kind: api.Trim, Len: 1, Data: []uint64{5}}},
		{{Kind: api.Trim, Len: 1, Data: []uint64{0}}},
		{{Kind: api.Trim, Data: []uint64{5}}},
		{write(0, 5), {Kind: api.Write, Off: 1, Len: 1, Data: []uint64{5}}},
		{trim(0, 1), {Kind: api.Trim, Off: 1, Len: 1, Data: []uint64{5}}},
	} {
		fails(t, api.ErrForm, bare(ops...)...)
	}
	for _, x := range odd {
		fails(t, api.ErrForm, bare(trim(x, 1))...)
		fails(t, api.ErrForm, bare(write(x, 5))...)
		fails(t, api.ErrForm, bare(trim(0, x))...)
		fails(t, api.ErrForm, bare(trim(0, 1), trim(1, x))...)
		fails(t, api.ErrForm, bare(trim(0, 1), trim(x, 1))...)
		fails(t, api.ErrForm, bare(trim(1, x), trim(1+x, 1))...)
		fails(t, api.ErrForm, bare(trim(x, -x), trim(0, 1))...)
		fails(t, api.ErrForm, bare(trim(x, x), trim(x+x, x))...)
		fails(t, api.ErrForm, bare(api.Op{Kind: x, Len: 1})...)
		fails(t, api.ErrForm, bare(trim(0, 1), api.Op{Kind: x, Off: 1, Len: 1})...)
	}
}

// oneOp is what ops are together, and whether they are something: block by block.
func oneOp(ops []api.Op) (api.Op, bool) {
	one := api.Op{Kind: ops[0].Kind, Off: ops[0].Off}
	next := one.Off
	for _, o := range ops {
		trims := o.Kind == api.Trim && o.Len > 0 && len(o.Data) == 0
		writes := o.Kind == api.Write && len(o.Data) > 0 && o.Len == 0
		if !trims && !writes || o.Kind != one.Kind || o.Off != next || o.Off < 0 || o.Off > all {
			return api.Op{}, false
		}
		for range o.Len {
			one.Len++
			next++
		}
		for _, block := range o.Data {
			one.Data = append(one.Data, block)
			next++
		}
	}
	return one, one.Len <= all && len(one.Data) <= all
}

// P14.3: all lists of up to two of many ops, and of three of some.
func TestWholeAll(t *testing.T) {
	ask := func(ops ...api.Op) {
		t.Helper()
		if want, ok := oneOp(ops); ok {
			makes(t, want, bare(ops...)...)
		} else {
			fails(t, api.ErrForm, bare(ops...)...)
		}
	}
	var many, some []api.Op
	for kind := range 4 {
		for _, off := range []int{-1, 0, 1, 2, 1024} {
			for _, n := range []int{-1, 0, 1, 2, 1023} {
				for count := range 3 {
					o := api.Op{Kind: kind, Off: off, Len: n, Data: rising(7, count)}
					many = append(many, o)
					if (kind == api.Write || kind == api.Trim) && off >= 0 && n >= 0 && count < 2 && (n == 0 || count == 0) {
						some = append(some, o)
					}
				}
			}
		}
	}
	for _, a := range many {
		ask(a)
		for _, b := range many {
			ask(a, b)
		}
	}
	for _, a := range some {
		for _, b := range some {
			for _, c := range some {
				ask(a, b, c)
			}
		}
	}
}

// orders are all orders of parts.
func orders(parts []plan.Part) [][]plan.Part {
	if len(parts) == 0 {
		return [][]plan.Part{nil}
	}
	var some [][]plan.Part
	for i, p := range parts {
		rest := slices.Concat(parts[:i], parts[i+1:])
		for _, order := range orders(rest) {
			some = append(some, append(order, p))
		}
	}
	return some
}

// P14.4: the parts, done one by one in any order, are as the op.
func TestAnyOrder(t *testing.T) {
	for _, m := range append(small(), of(1, 0, 2, 1, 3, 0, 5, 2, 9, 1)) {
		v := rising(100, m.N)
		for _, o := range opsOf(m.N) {
			want, err := blocks.Apply(v, o)
			if err != api.OK {
				t.Fatal(o, err)
			}
			parts, _ := ops(t, m, o)
			for _, order := range orders(parts) {
				got := v
				for _, p := range order {
					got, err = blocks.Apply(got, p.Op)
					if err != api.OK {
						t.Fatalf("%v of %v: %v", p, m, err)
					}
				}
				if !slices.Equal(got, want) {
					t.Fatalf("%v of %v: %v: want %v", order, o, got, want)
				}
			}
		}
	}
}

// P14.6: what is read in parts and joined is what is read at once.
func TestReadAtOnce(t *testing.T) {
	ask := func(m smap.Map, v []uint64, off, n int) {
		t.Helper()
		want, err := blocks.Read(v, off, n)
		if err != api.OK {
			t.Fatal(off, n, err)
		}
		parts, _ := reads(t, m, off, n)
		var data [][]uint64
		for _, p := range parts {
			d, err := blocks.Read(v, p.Op.Off, p.Op.Len)
			if err != api.OK {
				t.Fatalf("%v of %v: %v", p, m, err)
			}
			data = append(data, d)
		}
		joins(t, m, off, n, data, api.OK, want...)
	}
	for _, m := range small() {
		for off := range m.N {
			for n := 1; n <= m.N-off; n++ {
				ask(m, rising(100, m.N), off, n)
			}
		}
	}
	r := rand.New(rand.NewSource(14))
	for _, m := range large() {
		ask(m, rising(1, m.N), 0, m.N)
		for range 50 {
			off := r.Intn(m.N)
			ask(m, rising(1, m.N), off, 1+r.Intn(m.N-off))
		}
	}
}

// P14.1 to P14.6: maps, ops and orders by chance.
func TestChance(t *testing.T) {
	r := rand.New(rand.NewSource(41))
	for range 1500 {
		m := chance(r)
		off := r.Intn(m.N)
		o := trim(off, 1+r.Intn(m.N-off))
		if r.Intn(2) == 0 {
			o = write(off, rising(r.Uint64(), 1+r.Intn(min(most, m.N-off)))...)
		}
		parts := cuts(t, m, o, partsOf(m, o)...)
		lies(t, m, parts)
		makes(t, o, parts...)
		again, _ := ops(t, m, o)
		if !plan.Same(parts, again) || plan.Same(parts, parts[1:]) {
			t.Fatalf("Same of %v", parts)
		}
		v := rising(r.Uint64(), m.N)
		want, _ := blocks.Apply(v, o)
		r.Shuffle(len(parts), func(i, k int) { parts[i], parts[k] = parts[k], parts[i] })
		for _, p := range parts {
			v, _ = blocks.Apply(v, p.Op)
		}
		if !slices.Equal(v, want) {
			t.Fatalf("%v of %v, %v: not as the op", parts, m, o)
		}
	}
}

// chance is some map.
func chance(r *rand.Rand) smap.Map {
	n := 1 + r.Intn(200)
	if r.Intn(4) == 0 {
		n = 1 + r.Intn(all)
	}
	var ends []int
	for range r.Intn(min(n, 16)) {
		ends = append(ends, 1+r.Intn(n))
	}
	ends = append(ends, n)
	slices.Sort(ends)
	var numbers []int
	for _, end := range slices.Compact(ends) {
		numbers = append(numbers, end, r.Intn(16))
	}
	return of(numbers...)
}

// R3, R7: the same calls have the same answers, whatever was refused between them.
func TestAgain(t *testing.T) {
	m := of(4, 0, 7, 1)
	for range 3 {
		cuts(t, m, write(3, 5, 6), part(0, 0, write(3, 5)), part(1, 1, write(4, 6)))
		got, err := ops(t, m, trim(7, 1))
		noParts(t, "Ops", got, err, api.ErrNone)
		cutsRead(t, m, 3, 2, part(0, 0, read(3, 1)), part(1, 1, read(4, 1)))
		joins(t, m, 3, 2, [][]uint64{{5}}, api.ErrForm)
		joins(t, m, 3, 2, [][]uint64{{5}, {6}}, api.OK, 5, 6)
		fails(t, api.ErrForm, bare(trim(0, 1), trim(0, 1))...)
		makes(t, trim(0, 2), bare(trim(0, 1), trim(1, 1))...)
	}
}

// R4: what is answered is the caller's: to write into it turns no later answer.
func TestOwned(t *testing.T) {
	m := of(4, 0, 7, 1)
	for range 3 {
		parts := cuts(t, m, write(3, 5, 6), part(0, 0, write(3, 5)), part(1, 1, write(4, 6)))
		nodes := plan.Nodes(parts...)
		if !slices.Equal(nodes, []int{0, 1}) {
			t.Fatal(nodes)
		}
		clear(nodes)
		got, _ := plan.Ops(m, write(3, 5, 6))
		for i := range got {
			clear(got[i].Op.Data)
		}
		clear(got)
		joined, _ := plan.Join(m, 3, 2, []uint64{5}, []uint64{6})
		clear(joined)
		one, _ := plan.Whole(parts...)
		clear(one.Data)
		if !sameOps(parts[0].Op, write(3, 5)) {
			t.Fatal(parts)
		}
	}
}
