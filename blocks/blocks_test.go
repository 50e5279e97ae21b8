package blocks_test

import (
	"math"
	"math/rand"
	"slices"
	"testing"

	"jackstay/api"
	"jackstay/blocks"
)

const (
	all = 1024
	big = math.MaxUint64
	// mark is a number that no test writes.
	mark = 0xABCDEF
)

func write(off int, data ...uint64) api.Op {
	return api.Op{Kind: api.Write, Off: off, Data: data}
}

func trim(off, n int) api.Op {
	return api.Op{Kind: api.Trim, Off: off, Len: n}
}

func list(ops ...api.Op) []api.Op {
	return ops
}

// row are n numbers from first on.
func row(first uint64, n int) []uint64 {
	var v []uint64
	for i := range n {
		v = append(v, first+uint64(i))
	}
	return v
}

// room is v with numbers behind its end.
func room(v []uint64) []uint64 {
	return append(slices.Clone(v), mark, mark, mark)
}

// hand is a copy of ops whose lists, and whose numbers' lists, have room behind them.
func hand(ops []api.Op) []api.Op {
	var l []api.Op
	for _, o := range ops {
		data := room(o.Data)
		o.Data = data[:len(data)-3]
		l = append(l, o)
	}
	return append(l, write(mark, mark), trim(mark, mark), write(mark, mark))[:len(ops)]
}

// deep is a copy of ops that shares nothing with them.
func deep(ops []api.Op) []api.Op {
	l := slices.Clone(ops)
	for i := range l {
		l[i].Data = slices.Clone(l[i].Data)
	}
	return l
}

// same tells whether two lists are the same, in every field.
func same(a, b []api.Op) bool {
	if len(a) != len(b) {
		return false
	}
	for i, x := range a {
		y := b[i]
		if x.Kind != y.Kind || x.Off != y.Off || x.Len != y.Len || !slices.Equal(x.Data, y.Data) {
			return false
		}
	}
	return true
}

// stir writes over all numbers, also over those behind the end.
func stir(v []uint64) {
	v = v[:cap(v)]
	for i := range v {
		v[i] = ^v[i]
	}
}

// stirOps writes over all ops and their numbers, also over those behind the end.
func stirOps(ops []api.Op) {
	ops = ops[:cap(ops)]
	for i := range ops {
		stir(ops[i].Data)
		ops[i].Kind, ops[i].Off, ops[i].Len = ^ops[i].Kind, ^ops[i].Off, ^ops[i].Len
	}
}

// stays asks that a list that was handed in is as it was, and what lies behind it, too.
func stays(t *testing.T, ops, want []api.Op) {
	t.Helper()
	if !same(ops, want) {
		t.Fatalf("%v was handed in, and is %v", want, ops)
	}
	for _, o := range ops {
		for _, b := range o.Data[len(o.Data):cap(o.Data)][:3] {
			if b != mark {
				t.Fatalf("%v was handed in, and behind it %v is written", want, b)
			}
		}
	}
	behind := ops[len(ops) : len(ops)+3]
	if !same(behind, list(write(mark, mark), trim(mark, mark), write(mark, mark))) {
		t.Fatalf("%v was handed in, and behind it %v is written", want, behind)
	}
}

// apply is Apply, asked that nothing that is handed in is turned, and nothing of it answered.
func apply(t *testing.T, v []uint64, ops ...api.Op) ([]uint64, api.Errno) {
	t.Helper()
	at, l := room(v), hand(ops)
	got, err := blocks.Apply(at[:len(v)], l...)
	if !slices.Equal(at, room(v)) {
		t.Fatalf("Apply has turned %v, and it is %v", v, at)
	}
	stays(t, l, ops)
	answer := slices.Clone(got)
	stir(at)
	stirOps(l)
	if !slices.Equal(got, answer) {
		t.Fatalf("Apply's answer %v shares memory with an argument", answer)
	}
	at, l = room(v), hand(ops)
	got, _ = blocks.Apply(at[:len(v)], l...)
	stir(got)
	if !slices.Equal(at, room(v)) {
		t.Fatalf("%v shares memory with Apply's answer", v)
	}
	stays(t, l, ops)
	return answer, err
}

// read is Read, asked so.
func read(t *testing.T, v []uint64, off, n int) ([]uint64, api.Errno) {
	t.Helper()
	at := room(v)
	got, err := blocks.Read(at[:len(v)], off, n)
	answer := slices.Clone(got)
	stir(at)
	if !slices.Equal(got, answer) {
		t.Fatalf("Read's answer %v shares memory with the argument", answer)
	}
	stir(at)
	stir(got)
	if !slices.Equal(at, room(v)) {
		t.Fatalf("Read has turned %v, or shares memory with it: %v", v, at)
	}
	return answer, err
}

// apart asks that none of an answer's lists share memory, and answers a copy.
func apart(t *testing.T, ops []api.Op) []api.Op {
	t.Helper()
	want := deep(ops)
	for i := range ops {
		stir(ops[i].Data)
		got := deep(ops)
		got[i].Data = want[i].Data
		if !same(got, want) {
			t.Fatalf("the numbers of two ops of %v share memory", want)
		}
		stir(ops[i].Data)
	}
	return want
}

// squash is Squash, asked so.
func squash(t *testing.T, n int, ops ...api.Op) ([]api.Op, api.Errno) {
	t.Helper()
	l := hand(ops)
	got, err := blocks.Squash(n, l...)
	stays(t, l, ops)
	answer := apart(t, got)
	stirOps(l)
	if !same(got, answer) {
		t.Fatalf("Squash's answer %v shares memory with an argument", answer)
	}
	stirOps(l)
	stirOps(got)
	stays(t, l, ops)
	return answer, err
}

// diff is Diff, asked so.
func diff(t *testing.T, a, b []uint64) ([]api.Op, api.Errno) {
	t.Helper()
	x, y := room(a), room(b)
	got, err := blocks.Diff(x[:len(a)], y[:len(b)])
	answer := apart(t, got)
	stir(x)
	stir(y)
	if !same(got, answer) {
		t.Fatalf("Diff's answer %v shares memory with an argument", answer)
	}
	stir(x)
	stir(y)
	stirOps(got)
	if !slices.Equal(x, room(a)) || !slices.Equal(y, room(b)) {
		t.Fatalf("Diff has turned %v or %v, or shares memory with them", a, b)
	}
	return answer, err
}

// answers asks for a call's ops.
func answers(t *testing.T, what string, got []api.Op, err api.Errno, want []api.Op) {
	t.Helper()
	if err != api.OK || !same(got, want) {
		t.Fatalf("%s: %v, %v: want %v", what, got, err, want)
	}
}

// shows asks for a call's blocks.
func shows(t *testing.T, what string, got []uint64, err api.Errno, want []uint64) {
	t.Helper()
	if err != api.OK || !slices.Equal(got, want) {
		t.Fatalf("%s: %v, %v: want %v", what, got, err, want)
	}
}

// refuses asks for an error, and an empty answer.
func refuses[E any](t *testing.T, what string, got []E, err, want api.Errno) {
	t.Helper()
	if err != want || len(got) != 0 {
		t.Fatalf("%s: %v, %v: want none, %v", what, got, err, want)
	}
}

// after are the blocks of v behind an op, one by one.
func after(v []uint64, o api.Op) []uint64 {
	v = slices.Clone(v)
	if o.Kind == api.Trim {
		for i := range o.Len {
			v[o.Off+i] = 0
		}
		return v
	}
	for i, b := range o.Data {
		v[o.Off+i] = b
	}
	return v
}

// told is what P8.3 asks of the touched blocks of v, by looking for where each run ends.
func told(v []uint64, touched []bool) []api.Op {
	var ops []api.Op
	for from := 0; from < len(v); {
		to := from
		for to < len(v) && touched[to] == touched[from] && (v[to] == 0) == (v[from] == 0) {
			to++
		}
		for part := from; part < to && touched[from]; part += 64 {
			if v[from] == 0 {
				ops = append(ops, trim(from, to-from))
				break
			}
			ops = append(ops, write(part, v[part:min(part+64, to)]...))
		}
		from = to
	}
	return ops
}

// wanted is what Squash should answer.
func wanted(n int, ops ...api.Op) []api.Op {
	v, touched := make([]uint64, n), make([]bool, n)
	for _, o := range ops {
		v = after(v, o)
		for i := range max(o.Len, len(o.Data)) {
			touched[o.Off+i] = true
		}
	}
	return told(v, touched)
}

// unlike is what Diff should answer.
func unlike(a, b []uint64) []api.Op {
	touched := make([]bool, len(a))
	for i := range a {
		touched[i] = a[i] != b[i]
	}
	return told(b, touched)
}

// volumes are all volumes of n blocks, each of which is 0, 1 or 2.
func volumes(n int) [][]uint64 {
	vs := [][]uint64{{}}
	for range n {
		var more [][]uint64
		for _, v := range vs {
			for b := range uint64(3) {
				more = append(more, append(slices.Clone(v), b))
			}
		}
		vs = more
	}
	return vs
}

// every are all ops of a volume of n blocks that write 0, 1 or 2.
func every(n int) []api.Op {
	var ops []api.Op
	for off := range n {
		for count := 1; count <= n-off; count++ {
			ops = append(ops, trim(off, count))
			for _, data := range volumes(count) {
				ops = append(ops, write(off, data...))
			}
		}
	}
	return ops
}

// may is any op of a volume of n blocks, that writes 0 often.
func may(random *rand.Rand, n int) api.Op {
	off := random.Intn(n)
	count := 1 + random.Intn(n-off)
	if random.Intn(2) == 0 {
		count = 1 + random.Intn(min(n-off, 5))
	}
	if random.Intn(3) == 0 {
		return trim(off, count)
	}
	return write(off, some(random, min(count, 64))...)
}

// some are n numbers, some of which are 0.
func some(random *rand.Rand, n int) []uint64 {
	var v []uint64
	zeros := 1 + random.Intn(60)
	for range n {
		b := uint64(1 + random.Intn(2))
		if random.Intn(zeros) == 0 {
			b = 0
		}
		v = append(v, b)
	}
	return v
}

// The chapter's example.
func TestExample(t *testing.T) {
	got, err := squash(t, 9, write(1, 5, 6), trim(2, 1))
	answers(t, "Squash", got, err, list(write(1, 5), trim(2, 1)))
}

// wrong are ops of no volume of 8 blocks, and of none with fewer.
func wrong() []api.Op {
	return []api.Op{
		{},
		{Off: 1, Len: 1},
		{Off: 1, Data: row(1, 1)},
		{Kind: -1, Off: 1, Len: 1},
		{Kind: 3, Off: 1, Len: 1},
		{Kind: 3, Off: 1, Data: row(1, 1)},
		{Kind: math.MaxInt, Off: 1, Len: 1},
		{Kind: math.MinInt, Off: 1, Data: row(1, 1)},
		write(0),
		write(3),
		write(8),
		write(8, 1),
		write(9, 1),
		write(7, 1, 2),
		write(0, row(1, 9)...),
		write(1, row(1, 8)...),
		write(0, row(1, 65)...),
		write(-1, 1),
		write(-1, 1, 2),
		write(math.MaxInt, 1),
		write(math.MaxInt, 1, 2),
		write(math.MinInt, 1),
		{Kind: api.Write, Off: 1, Len: 1},
		{Kind: api.Write, Off: 1, Len: 1, Data: row(1, 1)},
		{Kind: api.Write, Off: 1, Len: 2, Data: row(1, 1)},
		{Kind: api.Write, Off: 1, Len: -1, Data: row(1, 1)},
		trim(0, 0),
		trim(3, 0),
		trim(8, 0),
		trim(8, 1),
		trim(9, 1),
		trim(9, -1),
		trim(7, 2),
		trim(0, 9),
		trim(1, 8),
		trim(-1, 1),
		trim(-1, 2),
		trim(-1, 9),
		trim(3, -1),
		trim(math.MaxInt, 1),
		trim(math.MaxInt, math.MaxInt),
		trim(math.MaxInt, math.MinInt),
		trim(1, math.MaxInt),
		trim(0, math.MaxInt),
		trim(1, math.MinInt),
		trim(math.MinInt, 1),
		trim(math.MinInt, math.MaxInt),
		trim(math.MinInt, math.MinInt),
		{Kind: api.Trim, Off: 1, Len: 1, Data: row(1, 1)},
		{Kind: api.Trim, Off: 1, Len: 1, Data: row(0, 1)},
		{Kind: api.Trim, Off: 1, Data: row(1, 1)},
	}
}

// P8.1 to P8.3: what is no op of a volume, alone and among others.
func TestNoOp(t *testing.T) {
	for _, o := range wrong() {
		for n := range 9 {
			if blocks.Right(n, o) {
				t.Fatalf("Right(%d, %v)", n, o)
			}
		}
		v := row(1, 8)
		for _, ops := range [][]api.Op{{o}, {o, write(0, 1)}, {trim(0, 8), o}, {write(0, 1), o, trim(1, 1)}} {
			got, err := apply(t, v, ops...)
			refuses(t, "Apply", got, err, api.ErrArg)
			told, err := squash(t, 8, ops...)
			refuses(t, "Squash", told, err, api.ErrArg)
		}
	}
}

// P8.1: of each op of a few numbers whether it is one, by the chapter's words.
func TestRight(t *testing.T) {
	for n := -1; n <= 4; n++ {
		for kind := -1; kind <= 3; kind++ {
			for off := -2; off <= 5; off++ {
				for length := -2; length <= 5; length++ {
					for numbers := range 6 {
						o := api.Op{Kind: kind, Off: off, Len: length, Data: row(0, numbers)}
						written := kind == 1 && length == 0 && numbers > 0 && off+numbers <= n
						trimmed := kind == 2 && numbers == 0 && length > 0 && off+length <= n
						want := n >= 0 && off >= 0 && (written || trimmed)
						if got := blocks.Right(n, o); got != want {
							t.Fatalf("Right(%d, %v): %v", n, o, got)
						}
					}
				}
			}
		}
	}
}

// P8.1: the edges of what a Write has, and of what a volume is.
func TestRightEdges(t *testing.T) {
	for _, c := range []struct {
		n    int
		o    api.Op
		want bool
	}{
		{1024, write(0, row(1, 63)...), true},
		{1024, write(0, row(1, 64)...), true},
		{1024, write(0, row(1, 65)...), false},
		{1024, write(960, row(1, 64)...), true},
		{1024, write(961, row(1, 64)...), false},
		{1024, write(1023, 0), true},
		{1024, write(1024, 0), false},
		{64, write(0, row(1, 64)...), true},
		{63, write(0, row(1, 64)...), false},
		{1024, trim(0, 65), true},
		{1024, trim(0, 1024), true},
		{1024, trim(0, 1025), false},
		{1024, trim(1, 1023), true},
		{1024, trim(1, 1024), false},
		{1024, trim(1023, 1), true},
		{1023, trim(1023, 1), false},
		{1024, api.Op{Kind: api.Trim, Off: 3, Len: 2, Data: []uint64{}}, true},
		{1024, api.Op{Kind: api.Write, Off: 3, Data: []uint64{}}, false},
		{1025, trim(0, 1), false},
		{1025, write(0, 1), false},
		{-1, trim(0, 1), false},
		{-1, trim(-2, 1), false},
		{-1, write(-2, 1), false},
		{0, trim(0, 1), false},
		{0, write(0, 1), false},
		{1, write(0, 1), true},
		{1, trim(0, 1), true},
		{math.MaxInt, trim(0, 1), false},
		{math.MaxInt, write(0, 1), false},
		{math.MinInt, trim(0, 1), false},
		{math.MinInt, trim(math.MaxInt, 1), false},
		{math.MinInt, write(math.MaxInt, 1), false},
	} {
		if got := blocks.Right(c.n, c.o); got != c.want {
			t.Fatalf("Right(%d, %v): %v", c.n, c.o, got)
		}
	}
}

// P8.1: where an op begins, and how many blocks it is about, whether it may be or not.
func TestRange(t *testing.T) {
	for _, c := range []struct {
		o      api.Op
		off, n int
	}{
		{write(3, 7, 8), 3, 2},
		{write(0, row(1, 64)...), 0, 64},
		{write(2000, row(1, 100)...), 2000, 100},
		{write(5), 5, 0},
		{write(-5, 1), -5, 1},
		{write(math.MaxInt, 1, 2), math.MaxInt, 2},
		{api.Op{Kind: api.Write, Off: 3, Len: 9, Data: row(1, 2)}, 3, 2},
		{api.Op{Kind: api.Write, Off: 3, Len: 9}, 3, 0},
		{trim(3, 2), 3, 2},
		{trim(0, 1024), 0, 1024},
		{trim(7, 0), 7, 0},
		{trim(-3, 9), -3, 9},
		{trim(math.MaxInt, math.MaxInt), math.MaxInt, math.MaxInt},
		{api.Op{Kind: api.Trim, Off: 3, Len: 9, Data: row(1, 2)}, 3, 9},
		{api.Op{}, 0, 0},
		{api.Op{Off: 3, Len: 9, Data: row(1, 2)}, 0, 0},
		{api.Op{Kind: 3, Off: 3, Len: 9, Data: row(1, 2)}, 0, 0},
		{api.Op{Kind: -1, Off: 3, Len: 9}, 0, 0},
		{api.Op{Kind: math.MaxInt, Off: 3, Len: 9}, 0, 0},
		{api.Op{Kind: math.MinInt, Off: 3, Data: row(1, 2)}, 0, 0},
	} {
		if off, n := blocks.Range(c.o); off != c.off || n != c.n {
			t.Fatalf("Range(%v): %d, %d: want %d, %d", c.o, off, n, c.off, c.n)
		}
	}
}

// meets asks for Meet, whichever op is named first.
func meets(t *testing.T, a, b api.Op, want bool) {
	t.Helper()
	if blocks.Meet(a, b) != want || blocks.Meet(b, a) != want {
		t.Fatalf("Meet(%v, %v): %v, and turned %v: want %v", a, b, blocks.Meet(a, b), blocks.Meet(b, a), want)
	}
}

// P8.1: of every two small ops whether they are about one block, by asking of each block.
func TestMeet(t *testing.T) {
	var ops []api.Op
	for off := -1; off <= 5; off++ {
		for n := -1; n <= 6; n++ {
			ops = append(ops, trim(off, n))
			if n >= 0 {
				ops = append(ops, write(off, row(0, n)...), api.Op{Kind: api.Write, Off: off, Len: 3, Data: row(1, n)})
			}
			ops = append(ops, api.Op{Kind: 3, Off: off, Len: n, Data: row(1, 2)}, api.Op{Off: off, Len: n})
		}
	}
	has := func(o api.Op, i int) bool {
		off, n := blocks.Range(o)
		return off <= i && i < off+n
	}
	for _, a := range ops {
		for _, b := range ops {
			want := false
			for i := -1; i <= 11; i++ {
				want = want || has(a, i) && has(b, i)
			}
			meets(t, a, b, want)
		}
	}
}

// P8.1: ops whose beginnings and ends are the farthest numbers.
func TestMeetFar(t *testing.T) {
	for _, c := range []struct {
		a, b api.Op
		want bool
	}{
		{trim(0, 1024), trim(1023, 1), true},
		{trim(0, 1023), trim(1023, 1), false},
		{trim(math.MaxInt, 1), trim(math.MaxInt, 1), true},
		{trim(math.MaxInt, 2), write(math.MaxInt, 1), true},
		{trim(math.MaxInt-1, 1), trim(math.MaxInt, 1), false},
		{trim(math.MaxInt-1, 2), trim(math.MaxInt, 1), true},
		{trim(math.MaxInt, math.MaxInt), trim(0, 1), false},
		{trim(math.MaxInt, math.MaxInt), trim(math.MinInt, 1), false},
		{trim(math.MaxInt, 1), trim(math.MinInt, math.MaxInt), false},
		{trim(math.MaxInt, 1), trim(-1, math.MaxInt), false},
		{trim(0, math.MaxInt), trim(math.MaxInt, 1), false},
		{trim(1, math.MaxInt), trim(math.MaxInt, 1), true},
		{trim(5, math.MaxInt), write(7, 1), true},
		{trim(5, math.MaxInt), write(4, 1), false},
		{trim(5, math.MaxInt), write(4, 1, 2), true},
		{trim(5, math.MinInt), trim(0, 9), false},
		{trim(5, -1), trim(5, 1), false},
		{trim(5, -1), trim(4, 1), false},
		{trim(math.MinInt, math.MaxInt), trim(-2, 1), true},
		{trim(math.MinInt, math.MaxInt), trim(-1, 1), false},
		{trim(math.MinInt, math.MinInt), trim(math.MinInt, 1), false},
		{trim(math.MinInt, 1), trim(math.MinInt, 1), true},
		{trim(5, 0), trim(0, 9), false},
		{write(5), trim(0, 9), false},
		{api.Op{}, trim(0, 1), false},
		{api.Op{}, api.Op{}, false},
	} {
		meets(t, c.a, c.b, c.want)
	}
}

// P8.1: lists that are the same, and ones that are unlike in one thing.
func TestSame(t *testing.T) {
	base := list(write(1, 5, 6), trim(3, 2), write(9, 7))
	for _, c := range [][2][]api.Op{
		{nil, nil},
		{nil, {}},
		{{}, {}},
		{base, deep(base)},
		{{{}}, {{}}},
		{{{}}, {{Data: []uint64{}}}},
		{{trim(3, 2)}, {{Kind: api.Trim, Off: 3, Len: 2, Data: []uint64{}}}},
		{{{Kind: 9, Off: -9, Len: 9, Data: row(0, 1)}}, {{Kind: 9, Off: -9, Len: 9, Data: row(0, 1)}}},
		{{write(0, big)}, {write(0, big)}},
	} {
		if !blocks.Same(c[0], c[1]) || !blocks.Same(c[1], c[0]) {
			t.Fatalf("%v and %v are not the same", c[0], c[1])
		}
	}
	for _, l := range [][]api.Op{
		nil,
		base[:2],
		base[1:],
		append(deep(base), trim(0, 1)),
		append(deep(base), api.Op{}),
		{base[1], base[0], base[2]},
		{base[0], base[2], base[1]},
		{{Kind: 3, Off: 1, Data: row(5, 2)}, base[1], base[2]},
		{write(2, 5, 6), base[1], base[2]},
		{{Kind: api.Write, Off: 1, Len: 2, Data: row(5, 2)}, base[1], base[2]},
		{write(1, 5, 7), base[1], base[2]},
		{write(1, 4, 6), base[1], base[2]},
		{write(1, 5), base[1], base[2]},
		{write(1, 5, 6, 0), base[1], base[2]},
		{write(1), base[1], base[2]},
		{base[0], trim(3, 3), base[2]},
		{base[0], trim(4, 2), base[2]},
		{base[0], {Kind: api.Trim, Off: 3, Len: 2, Data: row(0, 1)}, base[2]},
		{base[0], base[1], write(9, 7|1<<63)},
		{base[0], base[1], write(8, 7)},
	} {
		if blocks.Same(base, l) || blocks.Same(l, base) {
			t.Fatalf("%v and %v are the same", base, l)
		}
	}
}

// P8.2: ops, in order, at the ends of a volume and over all of it.
func TestApply(t *testing.T) {
	for _, c := range []struct {
		v    []uint64
		ops  []api.Op
		want []uint64
	}{
		{nil, nil, nil},
		{row(1, 4), nil, row(1, 4)},
		{row(1, 4), list(write(1, 8, 9)), []uint64{1, 8, 9, 4}},
		{row(1, 4), list(write(0, 8)), []uint64{8, 2, 3, 4}},
		{row(1, 4), list(write(3, big)), []uint64{1, 2, 3, big}},
		{row(1, 4), list(write(2, 0)), []uint64{1, 2, 0, 4}},
		{row(1, 4), list(trim(1, 2)), []uint64{1, 0, 0, 4}},
		{row(1, 4), list(trim(0, 1)), []uint64{0, 2, 3, 4}},
		{row(1, 4), list(trim(3, 1)), []uint64{1, 2, 3, 0}},
		{row(1, 4), list(trim(0, 4)), []uint64{0, 0, 0, 0}},
		{row(1, 4), list(write(0, 7, 7, 7, 7), trim(2, 1)), []uint64{7, 7, 0, 7}},
		{row(1, 4), list(trim(2, 1), write(0, 7, 7, 7, 7)), []uint64{7, 7, 7, 7}},
		{row(1, 4), list(write(1, 5), write(1, 6), trim(0, 1), write(1, 7)), []uint64{0, 7, 3, 4}},
		{row(1, 4), list(trim(0, 4), trim(0, 4), write(1, 2)), []uint64{0, 2, 0, 0}},
		{row(1, 70), list(write(3, row(1000, 64)...)), slices.Concat(row(1, 3), row(1000, 64), row(68, 3))},
		{row(1, all), list(write(960, row(5000, 64)...), trim(0, 1)), slices.Concat([]uint64{0}, row(2, 959), row(5000, 64))},
		{row(1, all), list(trim(0, all)), make([]uint64, all)},
	} {
		got, err := apply(t, c.v, c.ops...)
		shows(t, "Apply", got, err, c.want)
	}
}

// P8.2, P8.3: more than 1024 blocks, whatever else is wrong.
func TestMany(t *testing.T) {
	for _, n := range []int{1025, 1026, 5000} {
		v := row(1, n)
		for _, ops := range [][]api.Op{nil, {trim(0, 1)}, {write(0, 1)}, {trim(0, n)}, {trim(1024, 1)}, wrong()} {
			got, err := apply(t, v, ops...)
			refuses(t, "Apply", got, err, api.ErrMany)
			told, err := squash(t, n, ops...)
			refuses(t, "Squash", told, err, api.ErrArg)
		}
		for _, c := range [][2]int{{0, 0}, {0, 1}, {0, n}, {1024, 1}, {-1, 1}, {0, -1}, {n, 1}, {math.MaxInt, math.MaxInt}} {
			got, err := read(t, v, c[0], c[1])
			refuses(t, "Read", got, err, api.ErrMany)
		}
		for _, w := range [][]uint64{nil, row(1, 1), row(1, 1024), v, row(2, n), row(1, n+1)} {
			got, err := diff(t, v, w)
			refuses(t, "Diff", got, err, api.ErrMany)
			got, err = diff(t, w, v)
			refuses(t, "Diff", got, err, api.ErrMany)
		}
	}
}

// P8.2: blocks that are there, and none of them.
func TestRead(t *testing.T) {
	for _, n := range []int{0, 1, 5, all - 1, all} {
		v := row(7, n)
		for _, off := range []int{0, 1, 2, 3, n - 2, n - 1, n} {
			for _, count := range []int{0, 1, 2, n - off, n - off - 1, n} {
				if off < 0 || count < 0 || off+count > n {
					continue
				}
				got, err := read(t, v, off, count)
				shows(t, "Read", got, err, row(uint64(7+off), count))
			}
		}
	}
	got, err := read(t, nil, 0, 0)
	shows(t, "Read of none", got, err, nil)
}

// P8.2: blocks that are not there.
func TestReadNoBlocks(t *testing.T) {
	for _, n := range []int{0, 1, 5, all - 1, all} {
		v := row(7, n)
		for _, c := range [][2]int{
			{0, n + 1}, {1, n}, {n, 1}, {n + 1, 0}, {n + 1, 1}, {n + 9, 0}, {n + 1, -1}, {n, -1}, {n + 5, -5},
			{-1, 0}, {-1, 1}, {-1, n}, {-1, n + 1}, {0, -1}, {1, -1}, {-1, -1}, {-n - 5, 2},
			{0, math.MaxInt}, {1, math.MaxInt}, {n, math.MaxInt}, {math.MaxInt, 0}, {math.MaxInt, 1}, {math.MaxInt, math.MaxInt},
			{0, math.MinInt}, {math.MinInt, 0}, {math.MinInt, math.MaxInt}, {math.MaxInt, math.MinInt}, {math.MinInt, math.MinInt},
		} {
			got, err := read(t, v, c[0], c[1])
			refuses(t, "Read", got, err, api.ErrArg)
		}
	}
}

// P8.3: runs of numbers and of zeros, over the ops' own cuts.
func TestSquash(t *testing.T) {
	for _, c := range []struct {
		n    int
		ops  []api.Op
		want []api.Op
	}{
		{0, nil, nil},
		{9, nil, nil},
		{all, nil, nil},
		{9, list(write(1, 5)), list(write(1, 5))},
		{9, list(write(1, 0)), list(trim(1, 1))},
		{9, list(write(1, 5, 0, 6)), list(write(1, 5), trim(2, 1), write(3, 6))},
		{9, list(write(1, 0, 0, 6)), list(trim(1, 2), write(3, 6))},
		{9, list(write(0, 5), write(1, 6)), list(write(0, 5, 6))},
		{9, list(write(1, 6), write(0, 5)), list(write(0, 5, 6))},
		{9, list(write(0, 5), write(2, 6)), list(write(0, 5), write(2, 6))},
		{9, list(write(8, 6), write(0, 5)), list(write(0, 5), write(8, 6))},
		{9, list(trim(0, 1), trim(1, 2)), list(trim(0, 3))},
		{9, list(trim(1, 2), write(3, 0)), list(trim(1, 3))},
		{9, list(trim(0, 1), trim(2, 1)), list(trim(0, 1), trim(2, 1))},
		{9, list(trim(0, 9), write(4, 5)), list(trim(0, 4), write(4, 5), trim(5, 4))},
		{9, list(write(4, 5), trim(0, 9)), list(trim(0, 9))},
		{9, list(write(4, 5), write(4, 6)), list(write(4, 6))},
		{9, list(write(4, 5), write(4, 0), write(4, 5)), list(write(4, 5))},
		{9, list(write(0, row(1, 9)...), write(3, 0, 0)), list(write(0, 1, 2, 3), trim(3, 2), write(5, 6, 7, 8, 9))},
		{9, list(write(8, big), write(0, big)), list(write(0, big), write(8, big))},
	} {
		got, err := squash(t, c.n, c.ops...)
		answers(t, "Squash", got, err, c.want)
	}
}

// P8.3: numbers of blocks that are none.
func TestSquashNoNumber(t *testing.T) {
	for _, n := range []int{math.MinInt, -1024, -1, 1025, 1 << 31, math.MaxInt} {
		for _, ops := range [][]api.Op{nil, {trim(0, 1)}, {write(0, 1)}, {trim(-1, 1)}} {
			got, err := squash(t, n, ops...)
			refuses(t, "Squash", got, err, api.ErrArg)
		}
	}
}

// P8.3: Writes are cut behind each 64 blocks from where a run begins, wherever that is and however it came about; Trims are not.
func TestCuts(t *testing.T) {
	for _, off := range []int{0, 1, 10, 63, 64, 65} {
		for _, n := range []int{63, 64, 65, 127, 128, 129, 192, 200, all - off} {
			a, b := make([]uint64, all), make([]uint64, all)
			var want []api.Op
			for i := off; i < off+n; i += 64 {
				want = append(want, write(i, row(uint64(i+1), min(64, off+n-i))...))
			}
			copy(b[off:], row(uint64(off+1), n))
			got, err := diff(t, a, b)
			answers(t, "Diff", got, err, want)
			got, err = diff(t, b, a)
			answers(t, "Diff", got, err, list(trim(off, n)))
			for _, step := range []int{1, 7, 63, 64} {
				var ops, trims []api.Op
				for i := off; i < off+n; i += step {
					ops = append(ops, write(i, b[i:min(i+step, off+n)]...))
					trims = append(trims, trim(i, min(step, off+n-i)))
				}
				slices.Reverse(ops)
				got, err = squash(t, all, ops...)
				answers(t, "Squash", got, err, want)
				got, err = squash(t, all, trims...)
				answers(t, "Squash", got, err, list(trim(off, n)))
			}
		}
	}
}

// P8.3: a run ends, and the count of 64 begins anew, where blocks were not touched or are 0.
func TestCutsBeginAnew(t *testing.T) {
	got, err := squash(t, 300, write(0, row(1, 60)...), write(61, row(1, 64)...), write(125, 9))
	answers(t, "Squash", got, err, list(write(0, row(1, 60)...), write(61, row(1, 64)...), write(125, 9)))
	got, err = squash(t, 300, write(0, row(1, 64)...), write(64, row(1, 64)...), write(10, 0))
	want := list(write(0, row(1, 10)...), trim(10, 1), write(11, append(row(12, 53), row(1, 11)...)...), write(75, row(12, 53)...))
	answers(t, "Squash", got, err, want)
}

// P8.3: what is unlike, and nothing else.
func TestDiff(t *testing.T) {
	for _, c := range []struct {
		a, b []uint64
		want []api.Op
	}{
		{nil, nil, nil},
		{row(1, 4), row(1, 4), nil},
		{row(1, 4), []uint64{1, 2, 3, 5}, list(write(3, 5))},
		{row(1, 4), []uint64{9, 2, 3, 4}, list(write(0, 9))},
		{row(1, 4), []uint64{9, 2, 3, 9}, list(write(0, 9), write(3, 9))},
		{row(1, 4), []uint64{9, 9, 3, 0}, list(write(0, 9, 9), trim(3, 1))},
		{row(1, 4), []uint64{0, 0, 0, 0}, list(trim(0, 4))},
		{row(1, 4), []uint64{0, 8, 0, 9}, list(trim(0, 1), write(1, 8), trim(2, 1), write(3, 9))},
		{[]uint64{0, 0, 0, 0}, row(1, 4), list(write(0, 1, 2, 3, 4))},
		{[]uint64{0, 1, 0, 1}, []uint64{0, 0, 0, 0}, list(trim(1, 1), trim(3, 1))},
		{[]uint64{1 << 63, big, 1, 1 << 32}, []uint64{0, big - 1, 1 | 1<<63, 1}, list(trim(0, 1), write(1, big-1, 1|1<<63, 1))},
		{make([]uint64, all), append(make([]uint64, all-1), 7), list(write(all-1, 7))},
	} {
		got, err := diff(t, c.a, c.b)
		answers(t, "Diff", got, err, c.want)
	}
}

// P8.3: volumes that have not as many blocks.
func TestDiffUnlikeNumbers(t *testing.T) {
	for _, c := range [][2]int{{0, 1}, {1, 0}, {3, 4}, {4, 3}, {0, all}, {all, 0}, {all - 1, all}, {all, all - 1}} {
		got, err := diff(t, make([]uint64, c[0]), make([]uint64, c[1]))
		refuses(t, "Diff", got, err, api.ErrArg)
		got, err = diff(t, row(1, c[0]), row(1, c[1]))
		refuses(t, "Diff", got, err, api.ErrArg)
	}
}

// P8.2, P8.3, P8.5: every op, and every two, of small volumes.
func TestEveryTwo(t *testing.T) {
	for n := range 4 {
		vs := volumes(n)
		for _, a := range every(n) {
			got, err := squash(t, n, a)
			answers(t, "Squash", got, err, wanted(n, a))
			for _, b := range every(n) {
				got, err := squash(t, n, a, b)
				answers(t, "Squash", got, err, wanted(n, a, b))
				for _, v := range vs {
					want := after(after(v, a), b)
					behind, err := blocks.Apply(v, a, b)
					shows(t, "Apply", behind, err, want)
					behind, err = blocks.Apply(v, got...)
					shows(t, "Apply of Squash", behind, err, want)
				}
			}
		}
	}
}

// P8.4: of every two ops that do not meet either may be done first.
func TestEitherOrder(t *testing.T) {
	const n = 4
	vs := volumes(n)
	for _, a := range every(n) {
		for _, b := range every(n) {
			if blocks.Meet(a, b) {
				continue
			}
			for _, v := range [][]uint64{vs[0], vs[len(vs)-1], row(5, n)} {
				first, err := blocks.Apply(v, a, b)
				if err != api.OK {
					t.Fatal(err)
				}
				then, err := blocks.Apply(v, b, a)
				shows(t, "Apply", then, err, first)
			}
		}
	}
}

// P8.3, P8.6: of every two small volumes.
func TestEveryDiff(t *testing.T) {
	for n := range 5 {
		for _, a := range volumes(n) {
			for _, b := range volumes(n) {
				got, err := diff(t, a, b)
				answers(t, "Diff", got, err, unlike(a, b))
				behind, err := blocks.Apply(a, got...)
				shows(t, "Apply of Diff", behind, err, b)
				if (len(got) == 0) != slices.Equal(a, b) {
					t.Fatalf("Diff(%v, %v): %v", a, b, got)
				}
			}
		}
	}
}

// P8.2 to P8.6: whatever is done to volumes of any size.
func TestWalk(t *testing.T) {
	random := rand.New(rand.NewSource(8))
	for _, n := range []int{1, 5, 64, 65, 200, all} {
		for range 60 {
			begin := some(random, n)
			var ops []api.Op
			want := begin
			for range random.Intn(30) {
				o := may(random, n)
				ops = append(ops, o)
				want = after(want, o)
			}
			v, err := apply(t, begin, ops...)
			shows(t, "Apply", v, err, want)
			short, err := squash(t, n, ops...)
			answers(t, "Squash", short, err, wanted(n, ops...))
			behind, err := apply(t, begin, short...)
			shows(t, "Apply of Squash", behind, err, want)
			turned, err := diff(t, begin, v)
			answers(t, "Diff", turned, err, unlike(begin, v))
			behind, err = apply(t, begin, turned...)
			shows(t, "Apply of Diff", behind, err, want)
			none, err := diff(t, v, want)
			answers(t, "Diff of the same", none, err, nil)
			// No two of a list that is told shortly meet: any order does the same.
			random.Shuffle(len(short), func(i, j int) { short[i], short[j] = short[j], short[i] })
			behind, err = apply(t, begin, short...)
			shows(t, "Apply of Squash in another order", behind, err, want)
			off := random.Intn(n + 1)
			count := random.Intn(n - off + 1)
			part, err := read(t, v, off, count)
			shows(t, "Read", part, err, want[off:off+count])
		}
	}
}

// R1: a call with as many ops as blocks, and more.
func TestManyOps(t *testing.T) {
	var ops []api.Op
	want := make([]uint64, all)
	for i := range 5 * all {
		ops = append(ops, write(i%all, uint64(i)))
		want[i%all] = uint64(i)
	}
	v, err := apply(t, row(1, all), ops...)
	shows(t, "Apply", v, err, want)
	short, err := squash(t, all, ops...)
	answers(t, "Squash", short, err, wanted(all, ops...))
	if len(short) != 16 {
		t.Fatalf("%d ops: want 16", len(short))
	}
}

// R3: the same call has the same answer, whatever was called between.
func TestAgain(t *testing.T) {
	v, ops := row(1, 9), list(write(1, 5, 6), trim(2, 1))
	short, _ := blocks.Squash(9, ops...)
	kept := deep(short)
	blocks.Squash(9, write(0, row(1, 9)...))
	blocks.Apply(v, trim(0, 9))
	blocks.Diff(v, make([]uint64, 9))
	again, err := blocks.Squash(9, ops...)
	answers(t, "Squash", again, err, kept)
	answers(t, "the first answer", short, api.OK, kept)
	shows(t, "the volume", v, api.OK, row(1, 9))
}
