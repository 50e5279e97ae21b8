package delta_test

import (
	"math"
	"math/rand"
	"slices"
	"testing"

	"jackstay/api"
	"jackstay/blocks"
	"jackstay/delta"
	"jackstay/emap"
)

const (
	all = 1024
	far = 1 << 40
	big = math.MaxUint64
	// mark is a number that no test hands in.
	mark = 0xABCDEF
)

// gens are generations far from those that lists have.
var gens = [...]int{math.MinInt, -1, 0, 1, far - 1, far, far + 1, math.MaxInt}

func ext(off, n, phys, birth int) api.Extent {
	return api.Extent{Off: off, Len: n, Phys: phys, Birth: birth}
}

// list are extents, four numbers each.
func list(numbers ...int) []api.Extent {
	var l []api.Extent
	for i := 0; i < len(numbers); i += 4 {
		l = append(l, ext(numbers[i], numbers[i+1], numbers[i+2], numbers[i+3]))
	}
	return l
}

// some are pieces, two numbers each.
func some(numbers ...int) []api.Piece {
	var l []api.Piece
	for i := 0; i < len(numbers); i += 2 {
		l = append(l, api.Piece{From: numbers[i], To: numbers[i+1]})
	}
	return l
}

func write(off int, data ...uint64) api.Op {
	return api.Op{Kind: api.Write, Off: off, Data: data}
}

func trim(off, n int) api.Op {
	return api.Op{Kind: api.Trim, Off: off, Len: n}
}

func does(ops ...api.Op) []api.Op {
	return ops
}

// row are n numbers from first on.
func row(first uint64, n int) []uint64 {
	var v []uint64
	for i := range n {
		v = append(v, first+uint64(i))
	}
	return v
}

// room is a row with elements behind its end.
func room[E any](l []E, behind E) []E {
	return append(slices.Clone(l), behind, behind, behind)
}

var (
	noExtent = ext(-7, -7, -7, -7)
	noPiece  = api.Piece{From: -7, To: -7, Node: -7}
)

// hands runs a call with arguments that have room behind them, and asks that all of it stays as it is. It answers what writes over them, and what asks that they were not written over.
func hands(t *testing.T, a, b []api.Extent, units []uint64, call func(a, b []api.Extent, units []uint64)) (func(), func()) {
	t.Helper()
	x, y, u := room(a, noExtent), room(b, noExtent), room(units, mark)
	call(x[:len(a)], y[:len(b)], u[:len(units)])
	stays := func() {
		t.Helper()
		if !slices.Equal(x, room(a, noExtent)) || !slices.Equal(y, room(b, noExtent)) || !slices.Equal(u, room(units, mark)) {
			t.Fatalf("%v, %v and %v were handed in, and are %v, %v and %v", a, b, units, x, y, u)
		}
	}
	stays()
	return func() {
		fill(x, noExtent)
		fill(y, noExtent)
		fill(u, mark)
	}, stays
}

// fill writes over a row, also behind its end.
func fill[E any](l []E, with E) {
	l = l[:cap(l)]
	for i := range l {
		l[i] = with
	}
}

// view is View, asked that nothing that is handed in is turned, and nothing of it answered.
func view(t *testing.T, l []api.Extent, n int, units []uint64) ([]uint64, api.Errno) {
	t.Helper()
	var got []uint64
	var err api.Errno
	call := func(l, _ []api.Extent, units []uint64) { got, err = delta.View(l, n, units) }
	stir, _ := hands(t, l, nil, units, call)
	answer := slices.Clone(got)
	stir()
	if !slices.Equal(got, answer) {
		t.Fatalf("View's answer %v shares memory with an argument", answer)
	}
	_, stays := hands(t, l, nil, units, call)
	fill(got, mark)
	stays()
	return answer, err
}

// grown is Grown, asked so.
func grown(t *testing.T, a, b []api.Extent, gen int) bool {
	t.Helper()
	var got bool
	hands(t, a, b, nil, func(a, b []api.Extent, _ []uint64) { got = delta.Grown(a, b, gen) })
	return got
}

// young is Young, asked so.
func young(t *testing.T, a, b []api.Extent, gen int) ([]api.Piece, api.Errno) {
	t.Helper()
	var got []api.Piece
	var err api.Errno
	_, stays := hands(t, a, b, nil, func(a, b []api.Extent, _ []uint64) { got, err = delta.Young(a, b, gen) })
	answer := slices.Clone(got)
	fill(got, noPiece)
	stays()
	return answer, err
}

// ops is Ops, asked so, and that none of the answer's lists share memory.
func ops(t *testing.T, a, b []api.Extent, gen int, units []uint64) ([]api.Op, api.Errno) {
	t.Helper()
	var got []api.Op
	var err api.Errno
	stir, _ := hands(t, a, b, units, func(a, b []api.Extent, units []uint64) { got, err = delta.Ops(a, b, gen, units) })
	answer := deep(got)
	stir()
	if !same(got, answer) {
		t.Fatalf("Ops' answer %v shares memory with an argument", answer)
	}
	for i := range got {
		fill(got[i].Data, mark)
		for j := i + 1; j < len(got); j++ {
			if !slices.Equal(got[j].Data, answer[j].Data) {
				t.Fatalf("two lists of Ops' answer %v share memory", answer)
			}
		}
	}
	return answer, err
}

// deep is a copy of ops that shares nothing with them.
func deep(ops []api.Op) []api.Op {
	l := slices.Clone(ops)
	for i := range l {
		l[i].Data = slices.Clone(l[i].Data)
	}
	return l
}

// same tells whether two lists are the same, in every field.
func same(a, b []api.Op) bool {
	return slices.EqualFunc(a, b, func(x, y api.Op) bool {
		return x.Kind == y.Kind && x.Off == y.Off && x.Len == y.Len && slices.Equal(x.Data, y.Data)
	})
}

// shows asks for View's blocks.
func shows(t *testing.T, l []api.Extent, n int, units, want []uint64) {
	t.Helper()
	got, err := view(t, l, n, units)
	if err != api.OK || !slices.Equal(got, want) {
		t.Fatalf("View(%v, %d): %v, %v: want %v", l, n, got, err, want)
	}
}

// hides asks View for ErrArg, and no blocks.
func hides(t *testing.T, l []api.Extent, n int, units []uint64) {
	t.Helper()
	if got, err := view(t, l, n, units); err != api.ErrArg || len(got) != 0 {
		t.Fatalf("View(%v, %d): %v, %v: want none, ErrArg", l, n, got, err)
	}
}

// grows asks Grown.
func grows(t *testing.T, a, b []api.Extent, gen int, want bool) {
	t.Helper()
	if got := grown(t, a, b, gen); got != want {
		t.Fatalf("Grown(%v, %v, %d): %v", a, b, gen, got)
	}
}

// changes asks for Young's pieces.
func changes(t *testing.T, a, b []api.Extent, gen int, want []api.Piece) {
	t.Helper()
	got, err := young(t, a, b, gen)
	if err != api.OK || !slices.Equal(got, want) {
		t.Fatalf("Young(%v, %v, %d): %v, %v: want %v", a, b, gen, got, err, want)
	}
}

// makes asks for Ops' ops.
func makes(t *testing.T, a, b []api.Extent, gen int, units []uint64, want []api.Op) {
	t.Helper()
	got, err := ops(t, a, b, gen, units)
	if err != api.OK || !same(got, want) {
		t.Fatalf("Ops(%v, %v, %d): %v, %v: want %v", a, b, gen, got, err, want)
	}
}

// block is what a list has of a block.
type block struct {
	there       bool
	unit, birth int
}

// of are the blocks of a list.
func of(l []api.Extent) [all]block {
	var v [all]block
	for _, x := range l {
		for i := range x.Len {
			v[x.Off+i] = block{true, x.Phys + i, x.Birth}
		}
	}
	return v
}

// told is the list of so many blocks.
func told(v []block) []api.Extent {
	var l []api.Extent
	for i, b := range v {
		if b.there {
			l = append(l, ext(i, 1, b.unit, b.birth))
		}
	}
	l, _ = emap.Form(l)
	return l
}

// shown is what View should answer.
func shown(l []api.Extent, n int, units []uint64) []uint64 {
	v := make([]uint64, n)
	for i, b := range of(l) {
		if b.there && b.unit < len(units) {
			v[i] = units[b.unit]
		}
	}
	return v
}

// grew is what Grown should answer.
func grew(a, b []api.Extent, gen int) bool {
	x, y := of(a), of(b)
	for i := range y {
		if y[i].there && y[i].birth <= gen && (!x[i].there || x[i].unit != y[i].unit) {
			return false
		}
	}
	return true
}

// turned tells of each block whether it has changed.
func turned(a, b []api.Extent, gen int) []bool {
	x, y := of(a), of(b)
	changed := make([]bool, all)
	for i := range y {
		changed[i] = y[i].there && y[i].birth > gen || x[i].there && !y[i].there
	}
	return changed
}

// pieces is what Young should answer, by looking for where each run ends.
func pieces(changed []bool) []api.Piece {
	var l []api.Piece
	for from := 0; from < len(changed); {
		to := from
		for to < len(changed) && changed[to] == changed[from] {
			to++
		}
		if changed[from] {
			l = append(l, api.Piece{From: from, To: to})
		}
		from = to
	}
	return l
}

// shortly is what Ops should answer, by looking for where each run ends.
func shortly(v []uint64, changed []bool) []api.Op {
	var l []api.Op
	for from := 0; from < len(v); {
		to := from
		for to < len(v) && changed[to] == changed[from] && (v[to] == 0) == (v[from] == 0) {
			to++
		}
		for part := from; part < to && changed[from]; part += 64 {
			if v[from] == 0 {
				l = append(l, trim(from, to-from))
				break
			}
			l = append(l, write(part, v[part:min(part+64, to)]...))
		}
		from = to
	}
	return l
}

// holds asks all calls of two lists for what they should answer, and for what follows.
func holds(t *testing.T, a, b []api.Extent, gen int, units []uint64) {
	t.Helper()
	changed := turned(a, b, gen)
	changes(t, a, b, gen, pieces(changed))
	makes(t, a, b, gen, units, shortly(shown(b, all, units), changed))
	grows(t, a, b, gen, grew(a, b, gen))
	if grew(a, b, gen) {
		follows(t, a, b, gen, units)
	}
}

// follows asks of a list that has grown from another one that Ops makes what it shows, and that what is unlike is young.
func follows(t *testing.T, a, b []api.Extent, gen int, units []uint64) {
	t.Helper()
	was, _ := delta.View(a, all, units)
	is, _ := delta.View(b, all, units)
	l, _ := delta.Ops(a, b, gen, units)
	if got, err := blocks.Apply(was, l...); err != api.OK || !slices.Equal(got, is) {
		t.Fatalf("Ops(%v, %v, %d): %v makes %v, %v: want %v", a, b, gen, l, got, err, is)
	}
	some, _ := delta.Young(a, b, gen)
	for i := range is {
		there := slices.ContainsFunc(some, func(p api.Piece) bool { return p.From <= i && i < p.To })
		if was[i] != is[i] && !there {
			t.Fatalf("Young(%v, %v, %d): %v, but %d is unlike", a, b, gen, some, i)
		}
	}
}

// The chapter's example.
func TestExample(t *testing.T) {
	a, b := list(0, 4, 0, 1), list(0, 2, 0, 1, 2, 1, 9, 2)
	units := row(20, 10)
	grows(t, a, b, 1, true)
	changes(t, a, b, 1, some(2, 4))
	makes(t, a, b, 1, units, does(write(2, 29), trim(3, 1)))
	shows(t, a, 4, units, []uint64{20, 21, 22, 23})
	shows(t, b, 4, units, []uint64{20, 21, 29, 0})
}

// P9.1: each block is the unit at which it lies, or 0.
func TestView(t *testing.T) {
	for _, c := range []struct {
		l     []api.Extent
		n     int
		units []uint64
		want  []uint64
	}{
		{nil, 0, nil, nil},
		{nil, 0, row(1, 9), nil},
		{nil, 3, row(1, 9), []uint64{0, 0, 0}},
		{list(0, 1, 0, 0), 1, row(7, 1), []uint64{7}},
		{list(0, 1, 0, 0), 1, nil, []uint64{0}},
		{list(0, 1, 0, 0), 4, row(7, 9), []uint64{7, 0, 0, 0}},
		{list(3, 1, 0, 0), 4, row(7, 9), []uint64{0, 0, 0, 7}},
		{list(1, 2, 4, 3), 4, row(7, 9), []uint64{0, 11, 12, 0}},
		{list(1, 2, 4, far), 4, row(7, 9), []uint64{0, 11, 12, 0}},
		{list(1, 3, 4, 3), 4, row(7, 7), []uint64{0, 11, 12, 13}},
		{list(1, 3, 4, 3), 4, row(7, 6), []uint64{0, 11, 12, 0}},
		{list(1, 3, 4, 3), 4, row(7, 5), []uint64{0, 11, 0, 0}},
		{list(1, 3, 4, 3), 4, row(7, 4), []uint64{0, 0, 0, 0}},
		{list(1, 3, 4, 3), 4, nil, []uint64{0, 0, 0, 0}},
		{list(0, 1, 5, 1, 1, 1, 5, 1, 2, 1, 0, 1), 4, row(7, 9), []uint64{12, 12, 7, 0}},
		{list(0, 2, 1, 1, 2, 2, 0, 1), 4, []uint64{big, 0, 1 << 63}, []uint64{0, 1 << 63, big, 0}},
		{list(0, 1, far-1, 1, 1, 1, 0, 1), 2, row(7, 9), []uint64{0, 7}},
		{list(0, 2, far-2, far), 2, row(7, 9), []uint64{0, 0}},
		{list(0, all, 0, 1), all, row(1, 4096), row(1, all)},
		{list(0, all, 3072, 1), all, row(1, 4096), row(3073, all)},
		{list(0, all, 4000, 1), all, row(1, 5024), row(4001, all)},
		{list(all-1, 1, 2, 1), all, row(1, 3), append(make([]uint64, all-1), 3)},
		{nil, all, row(1, 3), make([]uint64, all)},
	} {
		shows(t, c.l, c.n, c.units, c.want)
	}
}

// P9.1: which numbers of blocks there are, and that no block may lie from there on.
func TestViewNumbers(t *testing.T) {
	units := row(1, 20)
	for _, n := range []int{math.MinInt, -all, -1, all + 1, 1 << 31, 1 << 40, math.MaxInt} {
		hides(t, nil, n, units)
		hides(t, nil, n, nil)
		hides(t, list(0, 1, 0, 0), n, units)
		hides(t, list(0, all, 0, 0), n, units)
	}
	for _, l := range [][]api.Extent{
		list(0, 1, 0, 0),
		list(0, 5, 0, 0),
		list(4, 1, 0, 0),
		list(2, 3, 0, 0),
		list(0, 1, 0, 0, 4, 1, 0, 0),
		list(0, 1, 0, 0, 1, 4, 5, 0),
		list(0, all, 0, 0),
		list(all-1, 1, 0, 0),
	} {
		last := l[len(l)-1]
		end := last.Off + last.Len
		for n := range end {
			hides(t, l, n, units)
		}
		for n := end; n <= min(end+9, all); n++ {
			shows(t, l, n, units, shown(l, n, units))
		}
		shows(t, l, all, units, shown(l, all, units))
	}
}

// wrong are lists that are not right.
func wrong() [][]api.Extent {
	many := make([]api.Extent, 0, all+1)
	for i := range all + 1 {
		many = append(many, ext(i, 1, 2*i, 0))
	}
	return [][]api.Extent{
		{{}},
		list(0, 0, 0, 0),
		list(0, -1, 0, 0),
		list(-1, 1, 0, 0),
		list(-1, 3, 0, 0),
		list(0, all+1, 0, 0),
		list(all, 1, 0, 0),
		list(all-1, 2, 0, 0),
		list(math.MaxInt, 1, 0, 0),
		list(1, math.MaxInt, 0, 0),
		list(math.MinInt, math.MinInt, 0, 0),
		list(0, 1, -1, 0),
		list(0, 1, far, 0),
		list(0, 2, far-1, 0),
		list(0, 1, math.MaxInt, 0),
		list(0, 1, math.MinInt, 0),
		list(0, 1, 0, -1),
		list(0, 1, 0, far+1),
		list(0, 1, 0, math.MaxInt),
		list(0, 1, 0, math.MinInt),
		list(0, 1, 0, 0, 1, 1, 1, 0),
		list(0, 1, 5, 0, 1, 1, 7, 0, 2, 1, 8, 0),
		list(0, 2, 0, 0, 1, 1, 5, 0),
		list(1, 1, 0, 0, 0, 1, 5, 0),
		list(0, 1, 0, 0, 0, 1, 0, 0),
		list(0, 1, 0, 0, 0, 1, 5, 3),
		list(0, 1, 0, 0, 2, 0, 5, 3),
		many,
	}
}

// P9.1, P9.2: lists that are not right, in either place.
func TestNoList(t *testing.T) {
	units := row(1, 20)
	for _, l := range wrong() {
		for _, n := range []int{math.MinInt, -1, 0, 1, 3, 9, all, all + 1, math.MaxInt} {
			hides(t, l, n, units)
		}
		for _, other := range append(wrong(), nil, list(0, 1, 0, 0), list(0, all, 0, 0)) {
			for _, gen := range []int{-1, 0, far} {
				for _, two := range [][2][]api.Extent{{l, other}, {other, l}} {
					grows(t, two[0], two[1], gen, false)
					if got, err := young(t, two[0], two[1], gen); err != api.ErrArg || len(got) != 0 {
						t.Fatalf("Young(%v, %v, %d): %v, %v: want none, ErrArg", two[0], two[1], gen, got, err)
					}
					if got, err := ops(t, two[0], two[1], gen, units); err != api.ErrArg || len(got) != 0 {
						t.Fatalf("Ops(%v, %v, %d): %v, %v: want none, ErrArg", two[0], two[1], gen, got, err)
					}
				}
			}
		}
	}
}

// P9.1: whether what is old lies where it lay.
func TestGrown(t *testing.T) {
	four := list(0, 4, 0, 1)
	for _, c := range []struct {
		a, b []api.Extent
		gen  int
		want bool
	}{
		{nil, nil, 0, true},
		{nil, nil, -1, true},
		{four, nil, 9, true},
		{nil, four, 0, true},
		{nil, four, 1, false},
		{nil, list(0, 1, 0, 0), 0, false},
		{nil, list(0, 1, 0, 0), -1, true},
		{four, four, 0, true},
		{four, four, 1, true},
		{four, four, far, true},
		{four, list(0, 4, 0, 2), 1, true},
		{four, list(0, 4, 0, 2), 2, true},
		{four, list(0, 4, 0, 0), 2, true},
		{four, list(0, 4, 1, 1), 0, true},
		{four, list(0, 4, 1, 1), 1, false},
		{four, list(0, 4, 1, 1), 2, false},
		{four, list(3, 1, 3, 1), 1, true},
		{four, list(3, 1, 2, 1), 1, false},
		{four, list(3, 1, 0, 1), 1, false},
		{four, list(3, 2, 3, 1), 1, false},
		{four, list(3, 1, 3, 1, 4, 1, 4, 2), 1, true},
		{four, list(3, 1, 3, 1, 4, 1, 4, 2), 2, false},
		{four, list(1, 1, 1, 1, 3, 1, 9, 1), 1, false},
		{four, list(1, 1, 9, 1, 3, 1, 3, 1), 1, false},
		{four, list(1, 1, 9, 2, 3, 1, 3, 1), 1, true},
		{four, list(5, 1, 5, 1), 1, false},
		{four, list(5, 1, 5, 1), 0, true},
		{four, list(0, 1, 0, 1, 1, 1, 1, 2, 2, 2, 2, 1), 2, true},
		{list(0, 1, 0, 1, 1, 1, 1, 2, 2, 2, 2, 1), four, 2, true},
		{list(1, 1, 0, 0), list(0, 1, 0, 0), 0, false},
		{list(0, 1, 0, 0), list(1, 1, 0, 0), 0, false},
		{list(0, 1, 7, 0), list(0, 1, 0, 0), 0, false},
		{list(0, 1, 0, 5), list(0, 1, 0, 0), 0, true},
		{list(0, all, 0, 0), list(0, all-1, 0, 0, all-1, 1, all, 0), 0, false},
		{list(0, all, 0, 0), list(0, all-1, 0, 0, all-1, 1, all, 1), 0, true},
		{list(0, all, 0, 0), list(0, all, 0, 0), 0, true},
		{list(0, 1, far-1, far), list(0, 1, far-1, far), far, true},
		{list(0, 1, far-1, far), list(0, 1, far-2, far), far, false},
		{list(0, 1, far-1, far), list(0, 1, far-2, far), far - 1, true},
	} {
		grows(t, c.a, c.b, c.gen, c.want)
	}
}

// P9.2: what is younger, and what is gone, as long as can be.
func TestYoung(t *testing.T) {
	four := list(0, 4, 0, 1)
	for _, c := range []struct {
		a, b []api.Extent
		gen  int
		want []api.Piece
	}{
		{nil, nil, 0, nil},
		{nil, nil, math.MinInt, nil},
		{nil, four, 0, some(0, 4)},
		{nil, four, 1, nil},
		{nil, four, -1, some(0, 4)},
		{four, nil, 0, some(0, 4)},
		{four, nil, 1, some(0, 4)},
		{four, nil, math.MaxInt, some(0, 4)},
		{four, four, 1, nil},
		{four, four, 2, nil},
		{four, four, 0, some(0, 4)},
		{four, list(0, 4, 9, 1), 1, nil},
		{four, list(0, 4, 9, 2), 1, some(0, 4)},
		{four, list(0, 4, 0, 2), 1, some(0, 4)},
		{four, list(0, 4, 0, 0), 1, nil},
		{list(0, 4, 0, 7), list(0, 4, 0, 1), 1, nil},
		{four, list(1, 2, 1, 1), 1, some(0, 1, 3, 4)},
		{four, list(1, 3, 1, 1), 1, some(0, 1)},
		{four, list(0, 3, 0, 1), 1, some(3, 4)},
		{four, list(0, 1, 0, 1, 2, 2, 2, 1), 1, some(1, 2)},
		{four, list(0, 1, 8, 2, 2, 2, 2, 1), 1, some(0, 2)},
		{four, list(0, 1, 0, 1, 2, 1, 9, 2), 1, some(1, 4)},
		{four, list(0, 1, 9, 2, 1, 1, 1, 1, 2, 1, 9, 2, 3, 1, 3, 1), 1, some(0, 1, 2, 3)},
		{four, list(0, 2, 9, 2, 2, 2, 19, 3), 1, some(0, 4)},
		{four, list(0, 2, 9, 2, 2, 2, 19, 3), 2, some(2, 4)},
		{four, list(0, 2, 9, 2, 2, 2, 19, 3), 3, nil},
		{four, list(4, 2, 9, 2), 1, some(0, 6)},
		{four, list(5, 2, 9, 2), 1, some(0, 4, 5, 7)},
		{four, list(5, 2, 9, 1), 1, some(0, 4)},
		{list(5, 2, 9, 1), four, 1, some(5, 7)},
		{list(5, 2, 9, 1), four, 0, some(0, 4, 5, 7)},
		{list(all-1, 1, 0, 0), nil, 0, some(all-1, all)},
		{nil, list(all-1, 1, 0, 1), 0, some(all-1, all)},
		{list(0, all, 0, 0), nil, 0, some(0, all)},
		{nil, list(0, all, 0, far), far - 1, some(0, all)},
		{nil, list(0, all, 0, far), far, nil},
		{list(0, 1, 0, 0, all-1, 1, 0, 0), nil, 0, some(0, 1, all-1, all)},
	} {
		changes(t, c.a, c.b, c.gen, c.want)
	}
}

// P9.2: Writes of what there is, Trims of what is 0, of what is gone and of what lies at no unit.
func TestOps(t *testing.T) {
	four := list(0, 4, 0, 1)
	units := []uint64{5, 6, 0, 7, 8, 0}
	for _, c := range []struct {
		a, b []api.Extent
		gen  int
		want []api.Op
	}{
		{nil, nil, 0, nil},
		{four, four, 1, nil},
		{four, four, 0, does(write(0, 5, 6), trim(2, 1), write(3, 7))},
		{nil, four, 0, does(write(0, 5, 6), trim(2, 1), write(3, 7))},
		{nil, four, 1, nil},
		{four, nil, 1, does(trim(0, 4))},
		{four, list(0, 4, 2, 2), 1, does(trim(0, 1), write(1, 7, 8), trim(3, 1))},
		{four, list(0, 4, 4, 2), 1, does(write(0, 8), trim(1, 3))},
		{four, list(0, 4, 6, 2), 1, does(trim(0, 4))},
		{four, list(0, 4, far-4, 2), 1, does(trim(0, 4))},
		{four, list(0, 4, 3, 1), 1, nil},
		{four, list(1, 2, 0, 2), 1, does(trim(0, 1), write(1, 5, 6), trim(3, 1))},
		{four, list(1, 2, 1, 2), 1, does(trim(0, 1), write(1, 6), trim(2, 2))},
		{four, list(1, 2, 1, 1), 1, does(trim(0, 1), trim(3, 1))},
		{four, list(0, 1, 4, 2, 1, 1, 4, 2, 2, 2, 2, 1), 1, does(write(0, 8, 8))},
		{four, list(0, 1, 4, 2, 1, 1, 4, 3, 2, 2, 2, 1), 1, does(write(0, 8, 8))},
		{four, list(0, 1, 4, 2, 1, 1, 1, 1, 2, 2, 3, 2), 1, does(write(0, 8), write(2, 7, 8))},
		{four, list(0, 4, 0, 1, 7, 1, 3, 2), 1, does(write(7, 7))},
		{list(9, 3, 0, 1), list(7, 1, 3, 2), 1, does(write(7, 7), trim(9, 3))},
		{list(8, 3, 0, 1), list(7, 1, 3, 2), 1, does(write(7, 7), trim(8, 3))},
		{list(8, 3, 0, 1), list(7, 1, 5, 2), 1, does(trim(7, 4))},
		{nil, list(all-1, 1, 3, 2), 1, does(write(all-1, 7))},
		{list(all-1, 1, 3, 2), nil, 1, does(trim(all-1, 1))},
		{nil, list(0, all, 6, 2), 1, does(trim(0, all))},
	} {
		makes(t, c.a, c.b, c.gen, units, c.want)
		if c.want != nil {
			var gone []api.Op
			for _, p := range pieces(turned(c.a, c.b, c.gen)) {
				gone = append(gone, trim(p.From, p.To-p.From))
			}
			makes(t, c.a, c.b, c.gen, nil, gone)
		}
	}
}

// P9.2: Writes are cut behind each 64 blocks of a run, wherever it begins and however many extents it has; Trims are not.
func TestOpsCuts(t *testing.T) {
	units := row(1, 2*all)
	for _, off := range []int{0, 1, 63, 64, 65, 100} {
		for _, n := range []int{63, 64, 65, 128, 129, 200, all - off} {
			var want []api.Op
			for i := off; i < off+n; i += 64 {
				want = append(want, write(i, row(uint64(i+8), min(64, off+n-i))...))
			}
			whole := list(off, n, off+7, 3)
			makes(t, nil, whole, 2, units, want)
			makes(t, nil, list(off, n-40, off+7, 3, off+n-40, 40, off+7+n-40, 4), 2, units, want)
			makes(t, whole, nil, 2, units, does(trim(off, n)))
			makes(t, whole, whole, 3, units, nil)
		}
	}
}

// P9.1, P9.2: generations far from what lists have.
func TestFarGenerations(t *testing.T) {
	a, b := list(0, 2, 0, 0, 4, 2, 4, far), list(0, 1, 0, 0, 1, 1, 9, far-1, 4, 1, 4, far, 5, 1, 9, 1)
	units := row(1, 12)
	for _, gen := range gens {
		holds(t, a, b, gen, units)
		holds(t, b, a, gen, units)
		holds(t, a, a, gen, units)
		holds(t, nil, b, gen, units)
		holds(t, a, nil, gen, units)
	}
}

// every are all lists of so many blocks, each of which is not there, or lies at one of three units with one of so many births.
func every(n, births int) [][]api.Extent {
	vs := [][]block{{}}
	for range n {
		var more [][]block
		for _, v := range vs {
			more = append(more, append(slices.Clone(v), block{}))
			for unit := range 3 {
				for birth := range births {
					more = append(more, append(slices.Clone(v), block{true, unit, birth}))
				}
			}
		}
		vs = more
	}
	var ls [][]api.Extent
	for _, v := range vs {
		ls = append(ls, told(v))
	}
	return ls
}

// P9.1 to P9.4: of every two lists of a few blocks.
func TestEveryTwo(t *testing.T) {
	units := []uint64{0, 7}
	for _, a := range every(2, 3) {
		for _, b := range every(2, 3) {
			for gen := range 3 {
				holds(t, a, b, gen, units)
			}
		}
	}
	for _, a := range every(3, 1) {
		for _, b := range every(3, 2) {
			holds(t, a, b, 0, row(4, 3))
		}
	}
}

// P9.1: View of every list of a few blocks.
func TestEveryView(t *testing.T) {
	for _, l := range every(3, 2) {
		for n := range 5 {
			for count := range 4 {
				units := row(4, count)
				if slices.ContainsFunc(l, func(x api.Extent) bool { return x.Off+x.Len > n }) {
					hides(t, l, n, units)
				} else {
					shows(t, l, n, units, shown(l, n, units))
				}
			}
		}
	}
}

// apart are so many extents of a block each, none of which is one with another.
func apart(n int) []api.Extent {
	var l []api.Extent
	for i := range n {
		l = append(l, ext(i, 1, i, i%2))
	}
	return l
}

// R1: lists with as many extents as there may be.
func TestLongLists(t *testing.T) {
	l := apart(all)
	odd := make([]bool, all)
	for i := range odd {
		odd[i] = i%2 == 1
	}
	units := row(1, all)
	shows(t, l, all, units, units)
	hides(t, l, all-1, units)
	grows(t, l, l, 1, true)
	grows(t, nil, l, 0, false)
	changes(t, l, l, 0, pieces(odd))
	makes(t, l, l, 0, units, shortly(units, odd))
	makes(t, l, l, -1, units, shortly(units, slices.Repeat([]bool{true}, all)))
	changes(t, l, l, 1, nil)
	makes(t, l, nil, 0, units, does(trim(0, all)))
}

// youngest is the youngest generation of a list, 0 of the empty one.
func youngest(l []api.Extent) int {
	gen := 0
	for _, x := range l {
		gen = max(gen, x.Birth)
	}
	return gen
}

// P9.5: a list and itself.
func TestItself(t *testing.T) {
	units := row(1, 40)
	lists := append(every(3, 2), nil, apart(all), list(0, all, 0, far), list(2, 3, 4, 5, 9, 1, 20, 8))
	for _, l := range lists {
		for gen := -1; gen < 10; gen++ {
			grows(t, l, l, gen, true)
		}
		for _, gen := range gens {
			grows(t, l, l, gen, true)
		}
		for _, gen := range []int{youngest(l), youngest(l) + 1, math.MaxInt} {
			changes(t, l, l, gen, nil)
			makes(t, l, l, gen, units, nil)
		}
		if len(l) == 0 {
			continue
		}
		if got, err := young(t, l, l, youngest(l)-1); len(got) == 0 || err != api.OK {
			t.Fatalf("Young(%v, itself, %d): %v, %v", l, youngest(l)-1, got, err)
		}
	}
}

// age is l with blocks that were put and cut in a generation, each at units that were free.
func age(random *rand.Rand, l []api.Extent, n, gen int, unit *int) []api.Extent {
	for range random.Intn(6) {
		off := random.Intn(n)
		count := 1 + random.Intn(n-off)
		if random.Intn(3) > 0 {
			count = min(count, 3)
		}
		if random.Intn(3) == 0 {
			l, _ = emap.Cut(l, off, count)
			continue
		}
		l, _ = emap.Put(l, ext(off, count, *unit, gen))
		*unit += count
	}
	return l
}

// P9.3 to P9.5: a list that grows by generations has grown from all that it was, since each of them.
func TestGenerations(t *testing.T) {
	random := rand.New(rand.NewSource(9))
	for _, n := range []int{1, 4, 30, 200, all} {
		for range 12 {
			unit, past := 0, [][]api.Extent{nil}
			for gen := 1; gen < 9; gen++ {
				past = append(past, age(random, past[gen-1], n, gen, &unit))
			}
			units := row(1, unit+1)
			for i := range random.Intn(len(units)) {
				units[i] *= uint64(random.Intn(2))
			}
			units = units[:len(units)-random.Intn(min(len(units), 9))]
			for then := range past {
				for now := then; now < len(past); now++ {
					grows(t, past[then], past[now], then, true)
					holds(t, past[then], past[now], then, units)
				}
				shows(t, past[then], n, units, shown(past[then], n, units))
			}
		}
	}
}

// P9.1 to P9.4: whichever two lists there are, grown from one another or not.
func TestWalk(t *testing.T) {
	random := rand.New(rand.NewSource(99))
	for _, n := range []int{2, 9, 70, all} {
		for range 60 {
			unit, same := 0, 0
			a := age(random, nil, n, random.Intn(4), &unit)
			a = age(random, a, n, random.Intn(4), &same)
			b := a
			if random.Intn(3) == 0 {
				b = nil
			}
			b = age(random, b, n, random.Intn(4), &same)
			units := row(uint64(random.Intn(2)), random.Intn(unit+2))
			for gen := -1; gen < 5; gen++ {
				holds(t, a, b, gen, units)
				holds(t, b, a, gen, units)
			}
		}
	}
}

// R3: the same call has the same answer, whatever was called between, and what was answered ahead stays.
func TestAgain(t *testing.T) {
	a, b, units := list(0, 4, 0, 1), list(0, 2, 0, 1, 2, 1, 9, 2), row(20, 10)
	v, _ := delta.View(b, 4, units)
	some, _ := delta.Young(a, b, 1)
	l, _ := delta.Ops(a, b, 1, units)
	shows(t, a, 4, units, row(20, 4))
	changes(t, b, a, 0, pieces(turned(b, a, 0)))
	makes(t, b, a, 0, units, does(write(0, row(20, 4)...)))
	shows(t, b, 4, units, v)
	changes(t, a, b, 1, some)
	makes(t, a, b, 1, units, l)
	if !slices.Equal(v, []uint64{20, 21, 29, 0}) || !slices.Equal(some, []api.Piece{{From: 2, To: 4}}) || !same(l, does(write(2, 29), trim(3, 1))) {
		t.Fatal(v, some, l)
	}
}
