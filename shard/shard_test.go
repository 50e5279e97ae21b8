package shard_test

import (
	"fmt"
	"math"
	"math/rand"
	"slices"
	"testing"

	"jackstay/api"
	"jackstay/blocks"
	"jackstay/shard"
)

const (
	all  = 1024
	most = 256
	big  = math.MaxUint64
	// mark lies behind lists that are handed in; what is written over lists is one more.
	mark = 0xABCDEF
)

func write(off int, data ...uint64) api.Op {
	return api.Op{Kind: api.Write, Off: off, Data: data}
}

func trim(off, n int) api.Op {
	return api.Op{Kind: api.Trim, Off: off, Len: n}
}

func list(ops ...api.Op) []api.Op {
	return ops
}

// row are n numbers from first on.
func row(first uint64, n int) []uint64 {
	var v []uint64
	for i := range n {
		v = append(v, first+uint64(i))
	}
	return v
}

// fill writes over a row, also behind its end.
func fill(v []uint64) {
	v = v[:cap(v)]
	for i := range v {
		v[i] = mark + 1
	}
}

// fillOps writes over ops and their numbers, also behind their ends.
func fillOps(ops []api.Op) {
	ops = ops[:cap(ops)]
	for i := range ops {
		fill(ops[i].Data)
		ops[i].Kind, ops[i].Off, ops[i].Len = mark, mark, mark
	}
}

// same tells whether two lists are the same, in every field.
func same(a, b []api.Op) bool {
	return slices.EqualFunc(a, b, func(x, y api.Op) bool {
		return x.Kind == y.Kind && x.Off == y.Off && x.Len == y.Len && slices.Equal(x.Data, y.Data)
	})
}

func fresh(t *testing.T, n int) *shard.Shard {
	t.Helper()
	s, err := shard.New(n)
	if s == nil || err != api.OK {
		t.Fatalf("New(%d): %v, %v", n, s, err)
	}
	return s
}

// do is Do, asked that it neither writes into the op's numbers, or behind them, nor keeps them.
func do(t *testing.T, s *shard.Shard, o api.Op) api.Errno {
	t.Helper()
	whole := append(slices.Clone(o.Data), mark, mark, mark)
	was := slices.Clone(whole)
	o.Data = whole[:len(o.Data)]
	err := s.Do(o)
	if !slices.Equal(whole, was) {
		t.Fatalf("Do(%v) has written into what it was handed", o)
	}
	fill(whole)
	return err
}

// crash is Crash, asked so.
func crash(t *testing.T, s *shard.Shard, keep ...bool) {
	t.Helper()
	whole := append(slices.Clone(keep), true, true, true)
	was := slices.Clone(whole)
	s.Crash(whole[:len(keep)])
	if !slices.Equal(whole, was) {
		t.Fatalf("Crash(%v) has written into what it was handed", keep)
	}
	for i := range whole {
		whole[i] = !whole[i]
	}
}

// does asks for an error of Do, api.OK among them.
func does(t *testing.T, s *shard.Shard, o api.Op, want api.Errno) {
	t.Helper()
	if got := do(t, s, o); got != want {
		t.Fatalf("Do(%v): %v, want %v", o, got, want)
	}
}

// goes does ops, all of which are done.
func goes(t *testing.T, s *shard.Shard, ops ...api.Op) {
	t.Helper()
	for _, o := range ops {
		does(t, s, o, api.OK)
	}
}

// is asks for a call's error, api.OK among them.
func is(t *testing.T, what string, got, want api.Errno) {
	t.Helper()
	if got != want {
		t.Fatalf("%s: %v, want %v", what, got, want)
	}
}

// snaps takes snapshots.
func snaps(t *testing.T, s *shard.Shard, ids ...int) {
	t.Helper()
	for _, id := range ids {
		is(t, fmt.Sprintf("Snap(%d)", id), s.Snap(id), api.OK)
	}
}

// shows asks what the volume is.
func shows(t *testing.T, s *shard.Shard, want ...uint64) {
	t.Helper()
	if got, err := s.Read(0, len(want)); err != api.OK || !slices.Equal(got, want) {
		t.Fatalf("Read: %v, %v: want %v", got, err, want)
	}
	if got, err := s.Read(0, len(want)+1); len(got) != 0 || err != api.ErrArg {
		t.Fatalf("there are more than %d blocks: %v, %v", len(want), got, err)
	}
}

// looks asks what a snapshot is.
func looks(t *testing.T, s *shard.Shard, id int, want ...uint64) {
	t.Helper()
	if got, err := s.Look(id, 0, len(want)); err != api.OK || !slices.Equal(got, want) {
		t.Fatalf("Look(%d): %v, %v: want %v", id, got, err, want)
	}
	if got, err := s.Look(id, 0, len(want)+1); len(got) != 0 || err != api.ErrArg {
		t.Fatalf("the snapshot %d has more than %d blocks: %v, %v", id, len(want), got, err)
	}
}

// since asks what makes one snapshot of another one.
func since(t *testing.T, s *shard.Shard, base, id int, want ...api.Op) {
	t.Helper()
	if got, err := s.Since(base, id); err != api.OK || !same(got, want) {
		t.Fatalf("Since(%d, %d): %v, %v: want %v", base, id, got, err, want)
	}
}

// stands asks which snapshots there are, how many ops are open, and whether it is frozen.
func stands(t *testing.T, s *shard.Shard, ids []int, dirty int, frozen bool) {
	t.Helper()
	if got := s.Snaps(); !slices.Equal(got, ids) || s.Dirty() != dirty || s.Frozen() != frozen {
		t.Fatalf("%v, %d, %v: want %v, %d, %v", got, s.Dirty(), s.Frozen(), ids, dirty, frozen)
	}
}

// taken is a snapshot as a model has it.
type taken struct {
	id     int
	volume []uint64
}

// model is what a shard should be. No list of it is written into, so that copies of a model go on apart.
type model struct {
	now, durable []uint64
	open         []api.Op
	snaps        []taken
	frozen       bool
}

func imagine(n int) model {
	return model{now: make([]uint64, n), durable: make([]uint64, n)}
}

// behind is v behind ops.
func behind(v []uint64, ops ...api.Op) []uint64 {
	v = slices.Clone(v)
	for _, o := range ops {
		for i := range o.Len {
			v[o.Off+i] = 0
		}
		for i, b := range o.Data {
			v[o.Off+i] = b
		}
	}
	return v
}

// may tells whether an op is one of n blocks.
func may(n int, o api.Op) bool {
	switch o.Kind {
	case api.Write:
		return o.Len == 0 && len(o.Data) > 0 && len(o.Data) <= 64 && o.Off >= 0 && o.Off < n && len(o.Data) <= n-o.Off
	case api.Trim:
		return len(o.Data) == 0 && o.Len > 0 && o.Off >= 0 && o.Off < n && o.Len <= n-o.Off
	}
	return false
}

// find is the place of a snapshot among those there are, or -1.
func (m *model) find(id int) int {
	return slices.IndexFunc(m.snaps, func(x taken) bool { return x.id == id })
}

// settle makes a volume the one that is, durable.
func (m *model) settle(v []uint64) {
	m.now, m.durable, m.open = v, v, nil
}

// step is a call, by its name, with what it is handed.
type step struct {
	name string
	o    api.Op
	id   int
	keep []bool
	yes  bool
}

// imagined does a step to a model, and answers what should be answered.
func (m *model) imagined(s step) api.Errno {
	at := m.find(s.id)
	switch s.name {
	case "Do":
		if !may(len(m.now), s.o) {
			return api.ErrArg
		}
		if m.frozen {
			return api.ErrState
		}
		if len(m.open) == most {
			return api.ErrMany
		}
		m.now, m.open = behind(m.now, s.o), append(slices.Clone(m.open), s.o)
	case "Flush":
		m.settle(m.now)
	case "Freeze":
		m.frozen = s.yes
	case "Snap":
		if s.id < 1 {
			return api.ErrArg
		}
		if at >= 0 {
			return api.ErrTwice
		}
		if len(m.snaps) == 32 {
			return api.ErrMany
		}
		m.settle(m.now)
		m.snaps = append(slices.Clone(m.snaps), taken{s.id, m.now})
	case "Delete":
		if at < 0 {
			return api.ErrNone
		}
		m.snaps = slices.Delete(slices.Clone(m.snaps), at, at+1)
	case "Rollback":
		if at < 0 {
			return api.ErrNone
		}
		if m.frozen {
			return api.ErrState
		}
		m.settle(m.snaps[at].volume)
	case "Crash":
		v := m.durable
		for i, o := range m.open {
			if i < len(s.keep) && s.keep[i] {
				v = behind(v, o)
			}
		}
		m.settle(v)
		m.frozen = false
	}
	return api.OK
}

// done does it to a shard.
func done(t *testing.T, s *shard.Shard, x step) api.Errno {
	t.Helper()
	switch x.name {
	case "Do":
		return do(t, s, x.o)
	case "Flush":
		return s.Flush()
	case "Freeze":
		return s.Freeze(x.yes)
	case "Snap":
		return s.Snap(x.id)
	case "Delete":
		return s.Delete(x.id)
	case "Rollback":
		return s.Rollback(x.id)
	}
	crash(t, s, x.keep...)
	return api.OK
}

// alike asks that a shard shows what its model does.
func alike(t *testing.T, s *shard.Shard, m *model) {
	t.Helper()
	var ids []int
	for _, x := range m.snaps {
		ids = append(ids, x.id)
		looks(t, s, x.id, x.volume...)
	}
	stands(t, s, ids, len(m.open), m.frozen)
	shows(t, s, m.now...)
}

// steps does steps to a shard and its model, and asks that both answer the same.
func steps(t *testing.T, s *shard.Shard, m *model, l ...step) {
	t.Helper()
	for k, x := range l {
		got, want := done(t, s, x), m.imagined(x)
		if got != want {
			t.Fatalf("%v: the last one answers %v, want %v", l[:k+1], got, want)
		}
	}
}

// P12.1: which shards there are, and how they are at first.
func TestNew(t *testing.T) {
	for _, n := range []int{-1, -2, all + 1, all + 2, math.MinInt, math.MaxInt} {
		if s, err := shard.New(n); s != nil || err != api.ErrArg {
			t.Errorf("New(%d): %v, %v: want nil, ErrArg", n, s, err)
		}
	}
	for _, n := range []int{0, 1, 2, 63, 64, all - 1, all} {
		s := fresh(t, n)
		stands(t, s, nil, 0, false)
		shows(t, s, make([]uint64, n)...)
		crash(t, s)
		stands(t, s, nil, 0, false)
		shows(t, s, make([]uint64, n)...)
	}
}

// The chapter's example.
func TestExample(t *testing.T) {
	s := fresh(t, 4)
	goes(t, s, write(1, 5))
	snaps(t, s, 1)
	goes(t, s, write(1, 6))
	crash(t, s)
	shows(t, s, 0, 5, 0, 0)
	looks(t, s, 1, 0, 5, 0, 0)
}

// P12.1: a shard without blocks: no op is one of it, all else goes on.
func TestNone(t *testing.T) {
	s := fresh(t, 0)
	for _, o := range list(write(0, 1), write(0), trim(0, 1), trim(0, 0), api.Op{}) {
		does(t, s, o, api.ErrArg)
	}
	snaps(t, s, 3)
	is(t, "Rollback", s.Rollback(3), api.OK)
	since(t, s, 0, 3)
	since(t, s, 3, 3)
	looks(t, s, 3)
	shows(t, s)
	stands(t, s, []int{3}, 0, false)
}

// odd are ops that are none of nine blocks.
func odd() []api.Op {
	return list(
		api.Op{}, api.Op{Kind: 3, Data: row(1, 1)}, api.Op{Kind: 3, Len: 1}, api.Op{Kind: -1, Len: 1}, api.Op{Kind: math.MaxInt, Len: 1}, api.Op{Len: 1}, api.Op{Data: row(1, 1)},
		write(0), write(9), write(9, 1), write(8, 1, 2), write(-1, 1), write(-1, 1, 2), write(0, row(1, 10)...), write(0, row(1, 65)...), write(math.MaxInt, 1), write(math.MinInt, 1),
		api.Op{Kind: api.Write, Len: 1, Data: row(1, 1)}, api.Op{Kind: api.Write, Len: -1, Data: row(1, 1)}, api.Op{Kind: api.Write, Len: 1},
		trim(0, 0), trim(9, 0), trim(9, 1), trim(8, 2), trim(0, 10), trim(-1, 1), trim(-1, 2), trim(0, -1), trim(math.MaxInt, 1), trim(1, math.MaxInt), trim(math.MinInt, 1), trim(0, math.MinInt), trim(math.MaxInt, math.MaxInt),
		api.Op{Kind: api.Trim, Len: 1, Data: row(1, 1)}, api.Op{Kind: api.Trim, Data: row(1, 1)},
	)
}

// P12.1: what may not be done is ErrArg, ahead of ErrState and ErrMany, and ErrState ahead of ErrMany; none of it does anything.
func TestDoErrors(t *testing.T) {
	s := fresh(t, 9)
	v := row(1, 9)
	refuse := func(dirty int, frozen bool, right api.Errno) {
		t.Helper()
		for _, o := range odd() {
			does(t, s, o, api.ErrArg)
		}
		if right != api.OK {
			for _, o := range list(write(0, 9), write(8, 9), write(0, row(11, 9)...), trim(0, 9), trim(8, 1)) {
				does(t, s, o, right)
			}
		}
		shows(t, s, v...)
		stands(t, s, nil, dirty, frozen)
	}
	goes(t, s, write(0, v...))
	refuse(1, false, api.OK)
	is(t, "Freeze", s.Freeze(true), api.OK)
	refuse(1, true, api.ErrState)
	is(t, "Freeze", s.Freeze(false), api.OK)
	for range most - 1 {
		refuse(s.Dirty(), false, api.OK)
		goes(t, s, write(4, 5))
	}
	refuse(most, false, api.ErrMany)
	is(t, "Freeze", s.Freeze(true), api.OK)
	refuse(most, true, api.ErrState)
	is(t, "Flush", s.Flush(), api.OK)
	refuse(0, true, api.ErrState)
	crash(t, s)
	refuse(0, false, api.OK)
}

// P12.1: 256 ops may be open, and no more, whatever made room for them.
func TestDoMany(t *testing.T) {
	s := fresh(t, 4)
	snaps(t, s, 1)
	for k, room := range []func(){
		func() { is(t, "Flush", s.Flush(), api.OK) },
		func() { snaps(t, s, 2) },
		func() { is(t, "Rollback", s.Rollback(1), api.OK) },
		func() { crash(t, s) },
		func() { crash(t, s, slices.Repeat([]bool{true}, most)...) },
	} {
		for i := range most {
			stands(t, s, s.Snaps(), i, false)
			goes(t, s, write(i%4, uint64(1000*k+i)))
		}
		does(t, s, write(0, 1), api.ErrMany)
		does(t, s, trim(0, 4), api.ErrMany)
		first := uint64(1000*k + most - 4)
		shows(t, s, row(first, 4)...)
		stands(t, s, s.Snaps(), most, false)
		room()
		stands(t, s, s.Snaps(), 0, false)
		switch k {
		case 2:
			shows(t, s, 0, 0, 0, 0)
		case 3:
			shows(t, s, 0, 0, 0, 0)
		default:
			shows(t, s, row(first, 4)...)
		}
	}
	looks(t, s, 1, 0, 0, 0, 0)
	looks(t, s, 2, row(1252, 4)...)
}

// P12.1: the greatest ops, at both ends of a volume.
func TestDoGreatest(t *testing.T) {
	s := fresh(t, all)
	goes(t, s, write(0, row(1, 64)...), write(all-64, row(101, 64)...), write(500, big, 0, big))
	want := make([]uint64, all)
	copy(want, row(1, 64))
	copy(want[all-64:], row(101, 64))
	want[500], want[502] = big, big
	shows(t, s, want...)
	goes(t, s, trim(1, all-2))
	clear(want[1 : all-1])
	shows(t, s, want...)
	goes(t, s, trim(0, all))
	shows(t, s, make([]uint64, all)...)
	crash(t, s, true, true)
	want[63] = 64
	copy(want, row(1, 64))
	copy(want[all-64:], row(101, 64))
	shows(t, s, want...)
}

// P12.1, P12.3: blocks of the volume, and of a snapshot, are read as layer 8 does.
func TestRead(t *testing.T) {
	s := fresh(t, 9)
	goes(t, s, write(0, row(1, 9)...))
	snaps(t, s, 5)
	goes(t, s, write(0, row(11, 9)...), trim(4, 1))
	now, was := []uint64{11, 12, 13, 14, 0, 16, 17, 18, 19}, row(1, 9)
	ask := func(off, n int) {
		t.Helper()
		got, err := s.Read(off, n)
		want, wrong := blocks.Read(now, off, n)
		if err != wrong || !slices.Equal(got, want) {
			t.Fatalf("Read(%d, %d): %v, %v: want %v, %v", off, n, got, err, want, wrong)
		}
		got, err = s.Look(5, off, n)
		want, wrong = blocks.Read(was, off, n)
		if err != wrong || !slices.Equal(got, want) {
			t.Fatalf("Look(5, %d, %d): %v, %v: want %v, %v", off, n, got, err, want, wrong)
		}
		for _, id := range []int{0, -5, 4, 6, math.MaxInt, math.MinInt} {
			if got, err := s.Look(id, off, n); len(got) != 0 || err != api.ErrNone {
				t.Fatalf("Look(%d, %d, %d): %v, %v", id, off, n, got, err)
			}
		}
	}
	for off := -2; off <= 11; off++ {
		for n := -2; n <= 11; n++ {
			ask(off, n)
		}
	}
	for _, off := range []int{math.MinInt, 1, math.MaxInt} {
		for _, n := range []int{math.MinInt, math.MaxInt} {
			ask(off, n)
			ask(n, off)
		}
	}
}

// R4: what is answered is the caller's, and none of it the shard's.
func TestOwn(t *testing.T) {
	s := fresh(t, 4)
	goes(t, s, write(0, 1, 2, 3, 4))
	snaps(t, s, 1)
	goes(t, s, trim(1, 1), write(3, 8))
	snaps(t, s, 2)
	goes(t, s, write(0, 9))
	for range 3 {
		shows(t, s, 9, 0, 3, 8)
		looks(t, s, 1, 1, 2, 3, 4)
		looks(t, s, 2, 1, 0, 3, 8)
		since(t, s, 0, 1, write(0, 1, 2, 3, 4))
		since(t, s, 1, 2, trim(1, 1), write(3, 8))
		stands(t, s, []int{1, 2}, 1, false)
		for _, n := range []int{1, 4} {
			v, _ := s.Read(0, n)
			fill(v)
			for id := 1; id <= 2; id++ {
				v, _ = s.Look(id, 0, n)
				fill(v)
			}
		}
		for base := range 3 {
			for id := 1; id <= 2; id++ {
				ops, _ := s.Since(base, id)
				fillOps(ops)
			}
		}
		ids := s.Snaps()
		ids = ids[:cap(ids)]
		for i := range ids {
			ids[i] = mark
		}
	}
	// What was appended to an answer is none of the shard's, either.
	ids := s.Snaps()
	_ = append(ids, mark)
	snaps(t, s, 3)
	_ = append(ids, mark)
	stands(t, s, []int{1, 2, 3}, 0, false)
}

// R4: no two ops of an answer have numbers in one place.
func TestSinceApart(t *testing.T) {
	s := fresh(t, 200)
	for at := 0; at < 200; at += 50 {
		goes(t, s, write(at, row(uint64(at+1), 50)...))
	}
	snaps(t, s, 1)
	want := list(write(0, row(1, 64)...), write(64, row(65, 64)...), write(128, row(129, 64)...), write(192, row(193, 8)...))
	for k := range want {
		ops, err := s.Since(0, 1)
		if err != api.OK || !same(ops, want) {
			t.Fatal(ops, err)
		}
		fill(ops[k].Data)
		for i := range ops {
			if i != k && !slices.Equal(ops[i].Data, want[i].Data) {
				t.Fatalf("the numbers of the ops %d and %d share memory", i, k)
			}
		}
	}
}

// P12.1: what was flushed is durable, also while it is frozen.
func TestFlush(t *testing.T) {
	s := fresh(t, 4)
	is(t, "Flush", s.Flush(), api.OK)
	goes(t, s, write(0, 1, 2), trim(1, 1))
	stands(t, s, nil, 2, false)
	is(t, "Flush", s.Flush(), api.OK)
	stands(t, s, nil, 0, false)
	shows(t, s, 1, 0, 0, 0)
	goes(t, s, write(3, 4))
	crash(t, s)
	shows(t, s, 1, 0, 0, 0)
	goes(t, s, write(3, 5))
	is(t, "Freeze", s.Freeze(true), api.OK)
	is(t, "Flush", s.Flush(), api.OK)
	stands(t, s, nil, 0, true)
	crash(t, s)
	stands(t, s, nil, 0, false)
	shows(t, s, 1, 0, 0, 5)
	is(t, "Flush", s.Flush(), api.OK)
	crash(t, s, true, true)
	shows(t, s, 1, 0, 0, 5)
}

// P12.1, P12.2: a frozen shard refuses Do and Rollback alone.
func TestFreeze(t *testing.T) {
	s := fresh(t, 2)
	goes(t, s, write(0, 1))
	snaps(t, s, 1)
	goes(t, s, write(1, 2))
	for range 2 {
		is(t, "Freeze", s.Freeze(true), api.OK)
		stands(t, s, []int{1}, 1, true)
	}
	does(t, s, write(0, 9), api.ErrState)
	is(t, "Rollback", s.Rollback(1), api.ErrState)
	is(t, "Rollback", s.Rollback(2), api.ErrNone)
	stands(t, s, []int{1}, 1, true)
	shows(t, s, 1, 2)
	snaps(t, s, 2)
	stands(t, s, []int{1, 2}, 0, true)
	looks(t, s, 2, 1, 2)
	since(t, s, 1, 2, write(1, 2))
	is(t, "Rollback", s.Rollback(1), api.ErrState)
	is(t, "Delete", s.Delete(1), api.OK)
	is(t, "Delete", s.Delete(1), api.ErrNone)
	stands(t, s, []int{2}, 0, true)
	for range 2 {
		is(t, "Freeze", s.Freeze(false), api.OK)
		stands(t, s, []int{2}, 0, false)
	}
	goes(t, s, write(0, 9))
	is(t, "Rollback", s.Rollback(2), api.OK)
	shows(t, s, 1, 2)
}

// P12.2: a snapshot is the volume as it is, and that is durable; others are refused, and nothing is durable by that.
func TestSnap(t *testing.T) {
	s := fresh(t, 3)
	goes(t, s, write(0, 1))
	for _, id := range []int{0, -1, math.MinInt} {
		is(t, "Snap", s.Snap(id), api.ErrArg)
	}
	stands(t, s, nil, 1, false)
	snaps(t, s, 7)
	stands(t, s, []int{7}, 0, false)
	goes(t, s, write(1, 2))
	is(t, "Snap", s.Snap(7), api.ErrTwice)
	stands(t, s, []int{7}, 1, false)
	looks(t, s, 7, 1, 0, 0)
	crash(t, s)
	shows(t, s, 1, 0, 0)
	goes(t, s, write(2, 3))
	snaps(t, s, math.MaxInt, 1)
	crash(t, s)
	shows(t, s, 1, 0, 3)
	looks(t, s, math.MaxInt, 1, 0, 3)
	looks(t, s, 1, 1, 0, 3)
	looks(t, s, 7, 1, 0, 0)
	stands(t, s, []int{7, math.MaxInt, 1}, 0, false)
}

// P12.2: 32 snapshots may be there; one that goes makes room for one more.
func TestSnapMany(t *testing.T) {
	s := fresh(t, 1)
	var ids []int
	for i := range 32 {
		id := 1000 - 7*i
		ids = append(ids, id)
		goes(t, s, write(0, uint64(id)))
		snaps(t, s, id)
	}
	goes(t, s, write(0, 5))
	full := func() {
		t.Helper()
		is(t, "Snap(1)", s.Snap(1), api.ErrMany)
		is(t, "Snap(MaxInt)", s.Snap(math.MaxInt), api.ErrMany)
		is(t, "Snap(0)", s.Snap(0), api.ErrArg)
		is(t, "Snap(-1)", s.Snap(-1), api.ErrArg)
		for _, id := range ids {
			is(t, "Snap", s.Snap(id), api.ErrTwice)
		}
		stands(t, s, ids, 1, false)
		for _, id := range ids {
			if id > 9 {
				looks(t, s, id, uint64(id))
			}
		}
		shows(t, s, 5)
	}
	full()
	is(t, "Delete(1)", s.Delete(1), api.ErrNone)
	full()
	for _, at := range []int{0, 31, 15} {
		id := ids[at]
		is(t, "Delete", s.Delete(id), api.OK)
		ids = append(slices.Delete(slices.Clone(ids), at, at+1), 2+at%7)
		snaps(t, s, 2+at%7)
		goes(t, s, write(0, 5))
		if _, err := s.Look(id, 0, 1); err != api.ErrNone {
			t.Fatalf("the snapshot %d is there: %v", id, err)
		}
		full()
	}
}

// P12.2: what is deleted is nowhere, the others stay, in order; its number may be taken once more, and stands last then.
func TestDelete(t *testing.T) {
	s := fresh(t, 2)
	is(t, "Delete", s.Delete(1), api.ErrNone)
	for i, id := range []int{4, 2, 9, 1} {
		goes(t, s, write(0, uint64(10+i)))
		snaps(t, s, id)
	}
	goes(t, s, write(1, 3))
	for _, id := range []int{0, -4, 3, 5, 10, math.MaxInt, math.MinInt} {
		is(t, "Delete", s.Delete(id), api.ErrNone)
	}
	stands(t, s, []int{4, 2, 9, 1}, 1, false)
	is(t, "Delete", s.Delete(2), api.OK)
	stands(t, s, []int{4, 9, 1}, 1, false)
	is(t, "Delete", s.Delete(2), api.ErrNone)
	is(t, "Rollback", s.Rollback(2), api.ErrNone)
	if v, err := s.Look(2, 0, 1); len(v) != 0 || err != api.ErrNone {
		t.Fatal(v, err)
	}
	for _, c := range [][2]int{{0, 2}, {2, 4}, {4, 2}, {2, 2}} {
		if ops, err := s.Since(c[0], c[1]); len(ops) != 0 || err != api.ErrNone {
			t.Fatal(c, ops, err)
		}
	}
	shows(t, s, 13, 3)
	looks(t, s, 4, 10, 0)
	looks(t, s, 9, 12, 0)
	looks(t, s, 1, 13, 0)
	snaps(t, s, 2)
	stands(t, s, []int{4, 9, 1, 2}, 0, false)
	looks(t, s, 2, 13, 3)
	is(t, "Delete", s.Delete(4), api.OK)
	is(t, "Delete", s.Delete(2), api.OK)
	stands(t, s, []int{9, 1}, 0, false)
	is(t, "Delete", s.Delete(9), api.OK)
	is(t, "Delete", s.Delete(1), api.OK)
	stands(t, s, nil, 0, false)
	crash(t, s)
	stands(t, s, nil, 0, false)
	shows(t, s, 13, 3)
}

// P12.2: Rollback makes the volume the snapshot, durable, with no op open; all snapshots stay, also later ones.
func TestRollback(t *testing.T) {
	s := fresh(t, 2)
	is(t, "Rollback", s.Rollback(1), api.ErrNone)
	is(t, "Rollback", s.Rollback(0), api.ErrNone)
	goes(t, s, write(0, 1))
	snaps(t, s, 1)
	goes(t, s, write(0, 2))
	snaps(t, s, 2)
	goes(t, s, write(0, 3), write(1, 3))
	for _, id := range []int{0, -1, 3, math.MaxInt, math.MinInt} {
		is(t, "Rollback", s.Rollback(id), api.ErrNone)
	}
	stands(t, s, []int{1, 2}, 2, false)
	shows(t, s, 3, 3)
	is(t, "Rollback", s.Rollback(1), api.OK)
	stands(t, s, []int{1, 2}, 0, false)
	shows(t, s, 1, 0)
	crash(t, s, true, true)
	shows(t, s, 1, 0)
	goes(t, s, write(1, 7))
	shows(t, s, 1, 7)
	looks(t, s, 1, 1, 0)
	is(t, "Rollback", s.Rollback(2), api.OK)
	shows(t, s, 2, 0)
	crash(t, s)
	shows(t, s, 2, 0)
	goes(t, s, trim(0, 2))
	snaps(t, s, 3)
	looks(t, s, 1, 1, 0)
	looks(t, s, 2, 2, 0)
	looks(t, s, 3, 0, 0)
	is(t, "Delete", s.Delete(2), api.OK)
	is(t, "Rollback", s.Rollback(1), api.OK)
	is(t, "Delete", s.Delete(1), api.OK)
	shows(t, s, 1, 0)
	stands(t, s, []int{3}, 0, false)
}

// P12.3: layer 8's Diff of any two snapshots, and of all 0.
func TestSince(t *testing.T) {
	s := fresh(t, 8)
	goes(t, s, write(1, 5, 6, 0, 7))
	snaps(t, s, 3)
	goes(t, s, write(1, 5), trim(2, 2), write(4, 8), write(7, 9))
	snaps(t, s, 1)
	goes(t, s, trim(0, 8), write(6, 1))
	since(t, s, 0, 3, write(1, 5, 6), write(4, 7))
	since(t, s, 0, 1, write(1, 5), write(4, 8), write(7, 9))
	since(t, s, 3, 1, trim(2, 1), write(4, 8), write(7, 9))
	since(t, s, 1, 3, write(2, 6), write(4, 7), trim(7, 1))
	since(t, s, 1, 1)
	since(t, s, 3, 3)
	for _, c := range [][2]int{
		{0, 0}, {3, 0}, {1, 0}, {0, 2}, {0, -3}, {0, math.MaxInt}, {0, math.MinInt},
		{2, 3}, {-1, 3}, {-3, 3}, {4, 1}, {math.MaxInt, 1}, {math.MinInt, 1}, {2, 2}, {2, 4}, {-1, -1}, {2, 0},
	} {
		if ops, err := s.Since(c[0], c[1]); len(ops) != 0 || err != api.ErrNone {
			t.Fatalf("Since(%v): %v, %v", c, ops, err)
		}
	}
	is(t, "Rollback", s.Rollback(3), api.OK)
	goes(t, s, write(0, 4), write(1, 5, 6))
	snaps(t, s, 2)
	since(t, s, 3, 2, write(0, 4))
	since(t, s, 2, 3, trim(0, 1))
	since(t, s, 1, 2, write(0, 4), write(2, 6), write(4, 7), trim(7, 1))
}

// P12.4: of open ops just those are done, in order, of which keep has a true, whichever these are.
func TestCrash(t *testing.T) {
	ops := list(write(0, 1, 2), trim(1, 2), write(2, 3), write(0, 4, 5, 6), trim(0, 1), write(3, 7), write(1, 8, 9), trim(2, 2))
	at := []uint64{11, 12, 13, 14}
	for choice := range 1 << len(ops) {
		var keep []bool
		want := at
		for i, o := range ops {
			keep = append(keep, choice>>i&1 == 1)
			if keep[i] {
				want = behind(want, o)
			}
		}
		last := len(keep)
		for last > 0 && !keep[last-1] {
			last--
		}
		for _, k := range [][]bool{keep, keep[:last], append(slices.Clone(keep), true, false, true)} {
			s := fresh(t, 4)
			goes(t, s, write(0, at...))
			is(t, "Flush", s.Flush(), api.OK)
			goes(t, s, ops...)
			if choice%2 == 0 {
				is(t, "Freeze", s.Freeze(true), api.OK)
			}
			crash(t, s, k...)
			shows(t, s, want...)
			stands(t, s, nil, 0, false)
			crash(t, s, true, true, true)
			shows(t, s, want...)
			snaps(t, s, 1)
			looks(t, s, 1, want...)
			goes(t, s, write(0, 99))
			crash(t, s)
			shows(t, s, want...)
		}
	}
}

// P12.4: what a Crash has kept is durable, and none of it open: the next one's numbers begin anew.
func TestCrashAgain(t *testing.T) {
	s := fresh(t, 4)
	goes(t, s, write(0, 1), write(1, 2), write(2, 3))
	crash(t, s, false, true)
	shows(t, s, 0, 2, 0, 0)
	goes(t, s, write(0, 4), write(3, 5))
	stands(t, s, nil, 2, false)
	crash(t, s, false, true, true)
	shows(t, s, 0, 2, 0, 5)
	crash(t, s, true, true, true)
	shows(t, s, 0, 2, 0, 5)
	crash(t, s, slices.Repeat([]bool{true}, 5000)...)
	shows(t, s, 0, 2, 0, 5)
}

// P12.4: of a nil shard, one that New did not give, and a copy, which would have the same snapshots.
func TestNil(t *testing.T) {
	made := fresh(t, 2)
	goes(t, made, write(0, 1))
	snaps(t, made, 1)
	goes(t, made, write(1, 2))
	is(t, "Freeze", made.Freeze(true), api.OK)
	c := *made
	for _, s := range []*shard.Shard{nil, {}, new(shard.Shard), &c} {
		for range 2 {
			for _, o := range list(write(0, 1), trim(0, 1), api.Op{}, write(-1)) {
				does(t, s, o, api.ErrNil)
			}
			is(t, "Flush", s.Flush(), api.ErrNil)
			is(t, "Freeze", s.Freeze(true), api.ErrNil)
			is(t, "Freeze", s.Freeze(false), api.ErrNil)
			for _, id := range []int{-1, 0, 1, 2} {
				is(t, "Snap", s.Snap(id), api.ErrNil)
				is(t, "Delete", s.Delete(id), api.ErrNil)
				is(t, "Rollback", s.Rollback(id), api.ErrNil)
				for _, n := range []int{-1, 0, 1} {
					if v, err := s.Look(id, 0, n); len(v) != 0 || err != api.ErrNil {
						t.Fatal(v, err)
					}
					if v, err := s.Read(id, n); len(v) != 0 || err != api.ErrNil {
						t.Fatal(v, err)
					}
					if ops, err := s.Since(n, id); len(ops) != 0 || err != api.ErrNil {
						t.Fatal(ops, err)
					}
				}
			}
			stands(t, s, nil, 0, false)
			crash(t, s)
			crash(t, s, true)
		}
	}
	stands(t, made, []int{1}, 1, true)
	shows(t, made, 1, 2)
	looks(t, made, 1, 1, 0)
}

// R3: shards have nothing in common.
func TestApart(t *testing.T) {
	a, b := fresh(t, 2), fresh(t, 2)
	goes(t, a, write(0, 1))
	snaps(t, a, 1)
	stands(t, b, nil, 0, false)
	goes(t, b, write(1, 2), write(0, 3))
	snaps(t, b, 2, 1)
	goes(t, b, write(0, 9))
	is(t, "Freeze", b.Freeze(true), api.OK)
	stands(t, a, []int{1}, 0, false)
	is(t, "Delete", b.Delete(1), api.OK)
	looks(t, a, 1, 1, 0)
	crash(t, a)
	stands(t, b, []int{2}, 1, true)
	shows(t, a, 1, 0)
	shows(t, b, 9, 2)
	looks(t, b, 2, 3, 2)
}

// alphabet are the steps that are tried in every order, of a shard of two blocks, right ones and wrong ones.
func alphabet() []step {
	l := []step{
		{name: "Flush"}, {name: "Freeze", yes: true}, {name: "Freeze"},
		{name: "Snap", id: 1}, {name: "Delete", id: 1}, {name: "Rollback", id: 1},
		{name: "Crash"}, {name: "Crash", keep: []bool{true}}, {name: "Crash", keep: []bool{false, true}}, {name: "Crash", keep: []bool{true, true, true}},
	}
	for _, o := range list(write(0, 5), write(0, 6, 7), trim(1, 1), write(1, 1, 1)) {
		l = append(l, step{name: "Do", o: o})
	}
	return l
}

// key tells models apart.
func (m *model) key() string {
	return fmt.Sprint(m.now, m.durable, m.open, m.snaps, m.frozen)
}

// P12.1 to P12.4, R7: every state, with at most two open ops, to which steps lead, and in each of them every step.
func TestEveryState(t *testing.T) {
	type state struct {
		m   model
		way []step
	}
	first := state{m: imagine(2)}
	seen := map[string]bool{first.m.key(): true}
	for open := []state{first}; len(open) > 0; open = open[1:] {
		at := open[0]
		for _, x := range alphabet() {
			way := append(slices.Clone(at.way), x)
			s, m := fresh(t, 2), imagine(2)
			steps(t, s, &m, way...)
			alike(t, s, &m)
			if !seen[m.key()] && len(m.open) <= 2 {
				seen[m.key()] = true
				open = append(open, state{m: m, way: way})
			}
			// What lies behind it shows what is durable, and what is open.
			steps(t, s, &m, step{name: "Crash", keep: []bool{false, true, true}})
			alike(t, s, &m)
		}
	}
	if len(seen) < 600 {
		t.Fatalf("%d states alone", len(seen))
	}
}

// P12.1 to P12.4, R7: all short ways, of two snapshots.
func TestEveryWay(t *testing.T) {
	const long = 4
	l := append(alphabet(), step{name: "Snap", id: 2}, step{name: "Delete", id: 2}, step{name: "Rollback", id: 2})
	var walk func(way []step)
	walk = func(way []step) {
		if len(way) == long {
			s, m := fresh(t, 2), imagine(2)
			steps(t, s, &m, way...)
			alike(t, s, &m)
			return
		}
		for _, x := range l {
			walk(append(slices.Clone(way), x))
		}
	}
	walk(nil)
}

// some is a step; of a shard of many blocks it is an op more often.
func some(r *rand.Rand, m *model) step {
	n, id := len(m.now), r.Intn(40)
	k := r.Intn(40 + n)
	switch k {
	case 0, 1, 2:
		return step{name: "Flush"}
	case 3, 4, 5:
		return step{name: "Freeze", yes: k == 3}
	case 6, 7, 8:
		return step{name: "Snap", id: id}
	case 9, 10:
		return step{name: "Delete", id: id}
	case 11, 12:
		return step{name: "Rollback", id: id}
	case 13, 14:
		var keep []bool
		for range r.Intn(len(m.open) + 2) {
			keep = append(keep, r.Intn(2) == 0)
		}
		return step{name: "Crash", keep: keep}
	}
	off := r.Intn(n+2) - r.Intn(2)
	if r.Intn(4) == 0 {
		return step{name: "Do", o: trim(off, 1+r.Intn(1+n/3))}
	}
	data := row(uint64(r.Intn(50)), 1+r.Intn(1+min(n, 70)))
	if r.Intn(8) == 0 {
		data = make([]uint64, len(data))
	}
	return step{name: "Do", o: write(off, data...)}
}

// P12.1 to P12.4, R7: long ways of shards of several sizes.
func TestLongWays(t *testing.T) {
	for seed := range 40 {
		r := rand.New(rand.NewSource(int64(seed)))
		n := []int{0, 1, 2, 5, 20, 64, 200, all}[seed%8]
		s, m := fresh(t, n), imagine(n)
		for k := range 3000 {
			steps(t, s, &m, some(r, &m))
			if k%(1+n/4) == 0 {
				alike(t, s, &m)
			}
		}
		alike(t, s, &m)
		turns(t, s, &m)
	}
}

// turns asks that Since makes each snapshot of each other one, and of all 0.
func turns(t *testing.T, s *shard.Shard, m *model) {
	t.Helper()
	for _, base := range append([]taken{{0, make([]uint64, len(m.now))}}, m.snaps...) {
		for _, x := range m.snaps {
			ops, err := s.Since(base.id, x.id)
			want, _ := blocks.Diff(base.volume, x.volume)
			if err != api.OK || !same(ops, want) {
				t.Fatalf("Since(%d, %d): %v, %v: want %v", base.id, x.id, ops, err, want)
			}
			made, err := blocks.Apply(base.volume, ops...)
			if err != api.OK || !slices.Equal(made, x.volume) {
				t.Fatalf("Since(%d, %d) makes %v, %v: want %v", base.id, x.id, made, err, x.volume)
			}
		}
	}
}

// P12.5, P12.7: 32 snapshots of the most blocks, each of which changes between them, stay as they were taken, whatever is done then.
func TestStay(t *testing.T) {
	r := rand.New(rand.NewSource(12))
	s, m := fresh(t, all), imagine(all)
	for id := 1; id <= 32; id++ {
		for range 30 {
			steps(t, s, &m, step{name: "Do", o: write(r.Intn(all-64), row(r.Uint64(), 1+r.Intn(64))...)})
		}
		steps(t, s, &m, step{name: "Do", o: trim(r.Intn(all-40), 1+r.Intn(40))}, step{name: "Snap", id: id})
	}
	alike(t, s, &m)
	turns(t, s, &m)
	for round := range 30 {
		for range 200 {
			off := r.Intn(all)
			steps(t, s, &m, step{name: "Do", o: write(off, r.Uint64())}, step{name: "Do", o: trim(r.Intn(all), 1)})
			if r.Intn(100) == 0 {
				steps(t, s, &m, step{name: "Flush"})
			}
		}
		switch round % 3 {
		case 0:
			steps(t, s, &m, step{name: "Crash", keep: slices.Repeat([]bool{true, false, true}, 80)})
		case 1:
			steps(t, s, &m, step{name: "Rollback", id: 1 + r.Intn(32)})
		default:
			id := 1 + r.Intn(32)
			steps(t, s, &m, step{name: "Delete", id: id}, step{name: "Snap", id: id})
		}
		alike(t, s, &m)
	}
	turns(t, s, &m)
}

// P12.6: what was flushed, at any op, is there behind a Crash with any choice, but where a block was done to again.
func TestFlushed(t *testing.T) {
	ops := list(write(0, 1, 2, 3), trim(1, 1), write(4, 5), write(2, 6, 7), trim(3, 2), write(5, 8))
	for first := range len(ops) + 1 {
		for choice := range 1 << len(ops) {
			s := fresh(t, 6)
			goes(t, s, ops[:first]...)
			is(t, "Flush", s.Flush(), api.OK)
			flushed, _ := s.Read(0, 6)
			goes(t, s, ops[first:]...)
			var keep []bool
			for i := range len(ops) - first {
				keep = append(keep, choice>>i&1 == 1)
			}
			crash(t, s, keep...)
			got, err := s.Read(0, 6)
			for at, b := range flushed {
				again := slices.ContainsFunc(ops[first:], func(o api.Op) bool {
					return o.Off <= at && at < o.Off+o.Len+len(o.Data)
				})
				if err != api.OK || got[at] != b && !again {
					t.Fatalf("%v flushed, %v kept: the block %d is %v, %v: want %d", ops[:first], keep, at, got, err, b)
				}
			}
		}
	}
}
