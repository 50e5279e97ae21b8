package land_test

import (
	"fmt"
	"math"
	"math/rand"
	"slices"
	"testing"

	"jackstay/api"
	"jackstay/land"
	"jackstay/stream"
)

const (
	most = 1 << 31
	big  = math.MaxUint64
	// mark lies behind lists that are handed in; what is written over lists is one more.
	mark = 0xABCDEF
)

func based(shard, snap, base, version, n int) api.Record {
	return api.Record{Kind: api.Head, Shard: shard, Snap: snap, Base: base, Map: version, Len: n}
}

// head is one of the shard 0 and the map 0.
func head(snap, base, n int) api.Record {
	return based(0, snap, base, 0, n)
}

func written(off int, data ...uint64) api.Record {
	return api.Record{Kind: api.Written, Off: off, Data: data}
}

func trimmed(off, n int) api.Record {
	return api.Record{Kind: api.Trimmed, Off: off, Len: n}
}

func tail(n int) api.Record {
	return api.Record{Kind: api.Tail, Len: n}
}

func list(l ...api.Record) []api.Record {
	return l
}

// row are n numbers from first on.
func row(first uint64, n int) []uint64 {
	var v []uint64
	for i := range n {
		v = append(v, first+uint64(i))
	}
	return v
}

// fill writes over a row, also behind its end.
func fill(l []uint64) {
	l = l[:cap(l)]
	for i := range l {
		l[i] = mark + 1
	}
}

func fresh(t *testing.T, shard, version, n int) *land.Berth {
	t.Helper()
	b, err := land.New(shard, version, n)
	if b == nil || err != api.OK {
		t.Fatalf("New(%d, %d, %d): %v, %v", shard, version, n, b, err)
	}
	return b
}

// take is Take, asked that it neither writes into the record's numbers, or behind them, nor keeps them.
func take(t *testing.T, b *land.Berth, i int, r api.Record) api.Errno {
	t.Helper()
	whole := append(slices.Clone(r.Data), mark, mark, mark)
	was := slices.Clone(whole)
	r.Data = whole[:len(r.Data)]
	err := b.Take(i, r)
	if !slices.Equal(whole, was) {
		t.Fatalf("Take(%d, %v) has written into what it was handed", i, r)
	}
	fill(whole)
	return err
}

// takes asks for an error, api.OK among them.
func takes(t *testing.T, b *land.Berth, i int, r api.Record, want api.Errno) {
	t.Helper()
	if got := take(t, b, i, r); got != want {
		t.Fatalf("Take(%d, %v): %v, want %v", i, r, got, want)
	}
}

// goes hands in records, the first one as the record from, all of which are taken.
func goes(t *testing.T, b *land.Berth, from int, l ...api.Record) {
	t.Helper()
	for i, r := range l {
		takes(t, b, from+i, r, api.OK)
	}
}

// lands hands in a whole stream.
func lands(t *testing.T, b *land.Berth, h api.Record, between ...api.Record) {
	t.Helper()
	goes(t, b, 0, append(append(list(h), between...), tail(len(between)))...)
}

func syncs(t *testing.T, b *land.Berth, want int) {
	t.Helper()
	if got := b.Sync(); got != want {
		t.Fatalf("Sync: %d, want %d", got, want)
	}
}

// stands asks what is there, and what comes.
func stands(t *testing.T, b *land.Berth, snap int, volume []uint64, comes, taken int) {
	t.Helper()
	got, err := b.Read(0, len(volume))
	if b.Snap() != snap || err != api.OK || !slices.Equal(got, volume) {
		t.Fatalf("there is %d, %v (%v): want %d, %v", b.Snap(), got, err, snap, volume)
	}
	if _, err := b.Read(0, len(volume)+1); err != api.ErrArg {
		t.Fatalf("there are more than %d blocks: %v", len(volume), err)
	}
	if s, n := b.Coming(); s != comes || n != taken {
		t.Fatalf("there comes %d, %d: want %d, %d", s, n, comes, taken)
	}
}

// model is what a berth should be: it keeps the records of what comes, and makes the volume of them anew.
type model struct {
	shard, version int
	snap           int
	volume         []uint64
	comes, synced  []api.Record
}

func imagine(shard, version, n int) model {
	return model{shard: shard, version: version, volume: make([]uint64, n)}
}

// span is from where to where, of n blocks, a record is about, and whether these are some of them.
func span(r api.Record, n int) (int, int, bool) {
	switch r.Kind {
	case api.Written:
		return r.Off, r.Off + len(r.Data), r.Off+len(r.Data) <= n
	case api.Trimmed:
		return r.Off, r.Off + r.Len, r.Off+r.Len <= n
	}
	return 0, 0, false
}

// made is the volume that the records of what comes have made.
func (m *model) made() []uint64 {
	v := make([]uint64, len(m.volume))
	if m.comes[0].Base != 0 {
		copy(v, m.volume)
	}
	for _, r := range m.comes[1:] {
		from, to, _ := span(r, len(v))
		for i := from; i < to; i++ {
			v[i] = 0
			if r.Kind == api.Written {
				v[i] = r.Data[i-from]
			}
		}
	}
	return v
}

// take is what Take should answer; no list is written into, so that copies of a model go on apart.
func (m *model) take(i int, r api.Record) api.Errno {
	if i < 0 || !stream.May(r) {
		return api.ErrArg
	}
	n := len(m.volume)
	if len(m.comes) == 0 {
		for _, c := range []struct {
			when bool
			err  api.Errno
		}{
			{i != 0, api.ErrWait},
			{r.Kind != api.Head, api.ErrOrder},
			{r.Shard != m.shard, api.ErrArg},
			{r.Len != n, api.ErrArg},
			{r.Map != m.version, api.ErrMap},
			{r.Snap == m.snap, api.ErrTwice},
			{r.Snap == 0, api.ErrTwice},
			{r.Base != 0 && r.Base != m.snap, api.ErrBase},
		} {
			if c.when {
				return c.err
			}
		}
		m.comes = list(r)
		return api.OK
	}
	if i < len(m.comes) {
		return api.ErrTwice
	}
	if i > len(m.comes) {
		return api.ErrWait
	}
	if r.Kind == api.Tail && r.Len == len(m.comes)-1 {
		m.snap, m.volume = m.comes[0].Snap, m.made()
		m.comes, m.synced = nil, nil
		return api.OK
	}
	from, _, ok := span(r, n)
	_, end, _ := span(m.comes[len(m.comes)-1], n)
	if !ok || from < end {
		return api.ErrForm
	}
	m.comes = append(slices.Clone(m.comes), r)
	return api.OK
}

// coming is what Coming should answer.
func (m *model) coming() (int, int) {
	if len(m.comes) == 0 {
		return 0, 0
	}
	return m.comes[0].Snap, len(m.comes)
}

// step is a call: of Sync, Crash or Drop, if it has such a name; else of Take.
type step struct {
	name string
	i    int
	r    api.Record
}

// imagined does a step to a model, and answers what should be answered.
func (m *model) imagined(s step) int {
	switch s.name {
	case "Sync":
		m.synced = m.comes
		return len(m.comes)
	case "Crash":
		m.comes = m.synced
		return 0
	case "Drop":
		m.comes, m.synced = nil, nil
		return 0
	}
	return int(m.take(s.i, s.r))
}

// done does it to a berth.
func done(t *testing.T, b *land.Berth, s step) int {
	t.Helper()
	switch s.name {
	case "Sync":
		return b.Sync()
	case "Crash":
		b.Crash()
		return 0
	case "Drop":
		b.Drop()
		return 0
	}
	return int(take(t, b, s.i, s.r))
}

// alike asks that a berth shows what its model does.
func alike(t *testing.T, b *land.Berth, m *model) {
	t.Helper()
	comes, taken := m.coming()
	stands(t, b, m.snap, m.volume, comes, taken)
}

// steps does steps to a berth and its model, and asks that both answer the same.
func steps(t *testing.T, b *land.Berth, m *model, l ...step) {
	t.Helper()
	for k, s := range l {
		got, want := done(t, b, s), m.imagined(s)
		if got != want {
			t.Fatalf("%v: the last one answers %d, want %d", l[:k+1], got, want)
		}
	}
	alike(t, b, m)
}

// P11.1: which berths there are, and how they are at first.
func TestNew(t *testing.T) {
	for _, c := range [][3]int{
		{-1, 0, 4}, {math.MinInt, 0, 4}, {0, -1, 4}, {0, math.MinInt, 4},
		{0, 0, -1}, {0, 0, math.MinInt}, {0, 0, 1025}, {0, 0, math.MaxInt}, {-1, -1, -1},
	} {
		if b, err := land.New(c[0], c[1], c[2]); b != nil || err != api.ErrArg {
			t.Errorf("New(%v): %v, %v: want nil, ErrArg", c, b, err)
		}
	}
	for _, shard := range []int{0, 1, 15, 16, most, math.MaxInt} {
		for _, version := range []int{0, 1, most, 1 << 40, math.MaxInt} {
			for _, n := range []int{0, 1, 2, 63, 1023, 1024} {
				stands(t, fresh(t, shard, version, n), 0, make([]uint64, n), 0, 0)
			}
		}
	}
}

// The chapter's example.
func TestExample(t *testing.T) {
	b := fresh(t, 0, 0, 4)
	goes(t, b, 0, head(1, 0, 4), written(2, 5), tail(1))
	if v, err := b.Read(2, 1); b.Snap() != 1 || err != api.OK || !slices.Equal(v, row(5, 1)) {
		t.Fatal(b.Snap(), v, err)
	}
}

// P11.1: what is there is read, as layer 8 does.
func TestRead(t *testing.T) {
	b := fresh(t, 0, 0, 9)
	lands(t, b, head(1, 0, 9), written(0, row(1, 9)...))
	goes(t, b, 0, head(2, 1, 9), trimmed(0, 9))
	for off := -2; off <= 11; off++ {
		for n := -2; n <= 11; n++ {
			got, err := b.Read(off, n)
			if off < 0 || n < 0 || off+n > 9 {
				if len(got) != 0 || err != api.ErrArg {
					t.Fatalf("Read(%d, %d): %v, %v", off, n, got, err)
				}
			} else if err != api.OK || !slices.Equal(got, row(1, 9)[off:off+n]) {
				t.Fatalf("Read(%d, %d): %v, %v", off, n, got, err)
			}
		}
	}
	for _, c := range [][2]int{{math.MaxInt, 1}, {1, math.MaxInt}, {math.MaxInt, math.MaxInt}, {math.MinInt, 1}, {1, math.MinInt}, {math.MinInt, math.MinInt}} {
		if got, err := b.Read(c[0], c[1]); len(got) != 0 || err != api.ErrArg {
			t.Fatalf("Read(%v): %v, %v", c, got, err)
		}
	}
}

// R4: what is read is the caller's, and none of it what is there, or the base of what comes.
func TestReadOwn(t *testing.T) {
	b := fresh(t, 0, 0, 4)
	spoil := func(want ...uint64) {
		t.Helper()
		v, err := b.Read(0, 4)
		if err != api.OK || !slices.Equal(v, want) {
			t.Fatalf("%v, %v: want %v", v, err, want)
		}
		fill(v)
	}
	spoil(0, 0, 0, 0)
	goes(t, b, 0, head(1, 0, 4))
	spoil(0, 0, 0, 0)
	goes(t, b, 1, written(1, 6))
	spoil(0, 0, 0, 0)
	goes(t, b, 2, tail(1))
	spoil(0, 6, 0, 0)
	goes(t, b, 0, head(2, 1, 4))
	spoil(0, 6, 0, 0)
	syncs(t, b, 1)
	spoil(0, 6, 0, 0)
	goes(t, b, 1, written(2, 7))
	spoil(0, 6, 0, 0)
	b.Crash()
	spoil(0, 6, 0, 0)
	goes(t, b, 1, tail(0))
	spoil(0, 6, 0, 0)
	stands(t, b, 2, []uint64{0, 6, 0, 0}, 0, 0)
}

// P11.2: what may not be is ErrArg ahead of all else, whether something comes or not.
func TestTakeMay(t *testing.T) {
	odd := list(
		api.Record{}, api.Record{Kind: 5}, api.Record{Kind: -1}, api.Record{Kind: math.MaxInt},
		api.Record{Kind: api.Head, Snap: 1, Off: 1, Len: 4},
		api.Record{Kind: api.Head, Snap: 1, Len: 4, Data: row(1, 1)},
		api.Record{Kind: api.Head, Snap: -1, Len: 4}, api.Record{Kind: api.Head, Snap: most + 1, Len: 4},
		api.Record{Kind: api.Head, Snap: 1, Base: -1, Len: 4}, api.Record{Kind: api.Head, Snap: 1, Base: most + 1, Len: 4},
		api.Record{Kind: api.Head, Snap: 1, Shard: -1, Len: 4}, api.Record{Kind: api.Head, Snap: 1, Map: -1, Len: 4},
		api.Record{Kind: api.Head, Snap: 1, Len: -4},
		written(0), written(-1, 1), written(0, row(1, 65)...), written(most+1, 1),
		api.Record{Kind: api.Written, Len: 1, Data: row(1, 1)}, api.Record{Kind: api.Written, Snap: 1, Data: row(1, 1)},
		trimmed(0, 0), trimmed(0, -1), trimmed(-1, 1),
		api.Record{Kind: api.Trimmed, Len: 1, Data: row(1, 1)}, api.Record{Kind: api.Trimmed, Len: 1, Base: 1},
		tail(-1), tail(most+1), api.Record{Kind: api.Tail, Off: 1}, api.Record{Kind: api.Tail, Map: 1}, api.Record{Kind: api.Tail, Data: row(1, 1)},
	)
	right := list(head(1, 0, 4), head(2, 0, 4), written(0, 1), trimmed(0, 1), tail(0), tail(1))
	b := fresh(t, 0, 0, 4)
	for taken, next := range list(head(1, 0, 4), written(0, 1), trimmed(1, 1)) {
		for _, r := range odd {
			for i := -2; i <= 4; i++ {
				takes(t, b, i, r, api.ErrArg)
			}
			takes(t, b, math.MaxInt, r, api.ErrArg)
		}
		for _, r := range right {
			takes(t, b, -1, r, api.ErrArg)
			takes(t, b, math.MinInt, r, api.ErrArg)
		}
		takes(t, b, taken, next, api.OK)
	}
	stands(t, b, 0, make([]uint64, 4), 1, 3)
}

// P11.2: what a stream may begin with, each error with all that are named behind it.
func TestTakeFirst(t *testing.T) {
	for _, c := range []struct {
		i    int
		r    api.Record
		want api.Errno
	}{
		{1, based(7, 1, 0, 9, 4), api.ErrWait},
		{1, written(9, 1), api.ErrWait},
		{1, based(8, 3, 2, 8, 5), api.ErrWait},
		{2, tail(1), api.ErrWait},
		{math.MaxInt, based(7, 1, 0, 9, 4), api.ErrWait},
		{0, written(0, 1), api.ErrOrder},
		{0, trimmed(9, 1), api.ErrOrder},
		{0, tail(0), api.ErrOrder},
		{0, based(6, 1, 0, 9, 4), api.ErrArg},
		{0, based(8, 1, 0, 9, 4), api.ErrArg},
		{0, based(0, 1, 0, 9, 4), api.ErrArg},
		{0, based(7, 1, 0, 9, 3), api.ErrArg},
		{0, based(7, 1, 0, 9, 5), api.ErrArg},
		{0, based(7, 1, 0, 9, 0), api.ErrArg},
		{0, based(7, 1, 0, 9, most), api.ErrArg},
		{0, based(8, 3, 2, 8, 4), api.ErrArg},
		{0, based(7, 3, 2, 8, 5), api.ErrArg},
		{0, based(7, 1, 0, 8, 4), api.ErrMap},
		{0, based(7, 1, 0, 10, 4), api.ErrMap},
		{0, based(7, 1, 0, 0, 4), api.ErrMap},
		{0, based(7, 3, 2, 8, 4), api.ErrMap},
		{0, based(7, 0, 2, 8, 4), api.ErrMap},
		{0, based(7, 3, 0, 9, 4), api.ErrTwice},
		{0, based(7, 3, 3, 9, 4), api.ErrTwice},
		{0, based(7, 3, 2, 9, 4), api.ErrTwice},
		{0, based(7, 0, 0, 9, 4), api.ErrTwice},
		{0, based(7, 0, 3, 9, 4), api.ErrTwice},
		{0, based(7, 0, 2, 9, 4), api.ErrTwice},
		{0, based(7, 1, 2, 9, 4), api.ErrBase},
		{0, based(7, 1, 4, 9, 4), api.ErrBase},
		{0, based(7, 1, 1, 9, 4), api.ErrBase},
		{0, based(7, 4, most, 9, 4), api.ErrBase},
		{0, based(7, 1, 0, 9, 4), api.OK},
		{0, based(7, 1, 3, 9, 4), api.OK},
		{0, based(7, 4, 3, 9, 4), api.OK},
		{0, based(7, most, 3, 9, 4), api.OK},
	} {
		b := fresh(t, 7, 9, 4)
		lands(t, b, based(7, 3, 0, 9, 4), written(1, 5))
		takes(t, b, c.i, c.r, c.want)
		if c.want == api.OK {
			stands(t, b, 3, []uint64{0, 5, 0, 0}, c.r.Snap, 1)
		} else {
			stands(t, b, 3, []uint64{0, 5, 0, 0}, 0, 0)
		}
	}
}

// P11.2: while no snapshot is there, a stream has no base.
func TestTakeFirstOfNone(t *testing.T) {
	b := fresh(t, 0, 0, 2)
	takes(t, b, 0, head(0, 0, 2), api.ErrTwice)
	takes(t, b, 0, head(0, 1, 2), api.ErrTwice)
	takes(t, b, 0, head(1, 1, 2), api.ErrBase)
	takes(t, b, 0, head(2, 1, 2), api.ErrBase)
	takes(t, b, 0, head(2, 0, 2), api.OK)
	stands(t, b, 0, []uint64{0, 0}, 2, 1)
}

// P11.2: the greatest shard and map of a Head, and ones that no Head can tell.
func TestTakeGreatest(t *testing.T) {
	b := fresh(t, most, most, 1)
	takes(t, b, 0, based(most-1, most, 0, most, 1), api.ErrArg)
	takes(t, b, 0, based(most, most, 0, most-1, 1), api.ErrMap)
	lands(t, b, based(most, most, 0, most, 1), written(0, big))
	lands(t, b, based(most, 1, most, most, 1))
	stands(t, b, 1, []uint64{big}, 0, 0)
	b = fresh(t, most+1, 0, 1)
	takes(t, b, 0, based(most+1, 1, 0, 0, 1), api.ErrArg)
	takes(t, b, 0, based(most, 1, 0, 0, 1), api.ErrArg)
	b = fresh(t, 0, most+1, 1)
	takes(t, b, 0, based(0, 1, 0, most+1, 1), api.ErrArg)
	takes(t, b, 0, based(0, 1, 0, most, 1), api.ErrMap)
}

// P11.2: with the Base 0 what comes is all 0 at first, else what is there, whatever came ahead.
func TestTakeBase(t *testing.T) {
	b := fresh(t, 0, 0, 3)
	lands(t, b, head(1, 0, 3), written(0, 1, 2, 3))
	stands(t, b, 1, []uint64{1, 2, 3}, 0, 0)
	lands(t, b, head(2, 1, 3), written(1, 5))
	stands(t, b, 2, []uint64{1, 5, 3}, 0, 0)
	lands(t, b, head(3, 2, 3), trimmed(0, 1))
	stands(t, b, 3, []uint64{0, 5, 3}, 0, 0)
	lands(t, b, head(1, 0, 3), written(2, 9))
	stands(t, b, 1, []uint64{0, 0, 9}, 0, 0)
	lands(t, b, head(2, 1, 3))
	stands(t, b, 2, []uint64{0, 0, 9}, 0, 0)
	lands(t, b, head(1, 0, 3))
	stands(t, b, 1, []uint64{0, 0, 0}, 0, 0)
}

// P11.2: of what comes just the next record is taken.
func TestTakeNext(t *testing.T) {
	b := fresh(t, 0, 0, 8)
	l := list(head(1, 0, 8), written(0, 1), written(2, 2, 3), trimmed(4, 2), written(7, 4))
	all := append(slices.Clone(l), head(1, 0, 8), head(2, 0, 8), based(9, 9, 9, 9, 9), written(5, 9), trimmed(7, 1), tail(0), tail(4), written(8, 1))
	for taken, next := range l {
		takes(t, b, taken, next, api.OK)
		for _, r := range all {
			for i := range taken + 1 {
				takes(t, b, i, r, api.ErrTwice)
			}
			for i := taken + 2; i <= 7; i++ {
				takes(t, b, i, r, api.ErrWait)
			}
			takes(t, b, math.MaxInt, r, api.ErrWait)
		}
		stands(t, b, 0, make([]uint64, 8), 1, taken+1)
	}
	takes(t, b, 5, tail(4), api.OK)
	stands(t, b, 1, []uint64{1, 0, 2, 3, 0, 0, 0, 4}, 0, 0)
	takes(t, b, 5, tail(4), api.ErrWait)
	takes(t, b, 0, head(1, 0, 8), api.ErrTwice)
}

// P11.2: what no op of the volume is, or does not lie behind the one ahead, is ErrForm, and so is another Head, and a Tail that tells another number.
func TestTakeForm(t *testing.T) {
	b := fresh(t, 0, 0, 8)
	goes(t, b, 0, head(1, 0, 8))
	for _, r := range list(head(1, 0, 8), head(2, 0, 8), head(2, 1, 8), written(8, 1), written(7, 1, 2), written(0, row(1, 9)...), written(most, 1), trimmed(8, 1), trimmed(7, 2), trimmed(0, 9), trimmed(most, most), trimmed(0, most), tail(1), tail(2), tail(most)) {
		takes(t, b, 1, r, api.ErrForm)
	}
	goes(t, b, 1, written(2, 5, 6))
	for _, r := range list(head(1, 0, 8), written(0, 1), written(1, 1), written(2, 1), written(3, 1), written(2, 5, 6), written(7, 1, 2), trimmed(0, 1), trimmed(0, 8), trimmed(3, 1), trimmed(3, 5), trimmed(4, 5), tail(0), tail(2)) {
		takes(t, b, 2, r, api.ErrForm)
	}
	goes(t, b, 2, trimmed(4, 2))
	for _, r := range list(written(4, 1), written(5, 1), written(5, 1, 2, 3), trimmed(4, 2), trimmed(5, 1), trimmed(5, 3), tail(0), tail(1), tail(3), tail(4)) {
		takes(t, b, 3, r, api.ErrForm)
	}
	goes(t, b, 3, written(6, 7, 8))
	for _, r := range list(written(7, 1), written(8, 1), trimmed(7, 1), trimmed(8, 1), tail(0), tail(2), tail(4)) {
		takes(t, b, 4, r, api.ErrForm)
	}
	stands(t, b, 0, make([]uint64, 8), 1, 4)
	goes(t, b, 4, tail(3))
	stands(t, b, 1, []uint64{0, 0, 5, 6, 0, 0, 7, 8}, 0, 0)
}

// P11.2, P11.1: volumes of no blocks, and of the most, with as many records as there may be.
func TestTakeSizes(t *testing.T) {
	b := fresh(t, 0, 0, 0)
	goes(t, b, 0, head(1, 0, 0))
	takes(t, b, 1, written(0, 1), api.ErrForm)
	takes(t, b, 1, trimmed(0, 1), api.ErrForm)
	takes(t, b, 1, tail(1), api.ErrForm)
	goes(t, b, 1, tail(0))
	stands(t, b, 1, nil, 0, 0)
	lands(t, b, head(2, 1, 0))
	stands(t, b, 2, nil, 0, 0)

	b = fresh(t, 0, 0, 1024)
	var single, wide []api.Record
	for i := range 1024 {
		single = append(single, written(i, uint64(i)+7))
	}
	lands(t, b, head(1, 0, 1024), single...)
	stands(t, b, 1, row(7, 1024), 0, 0)
	for i := range 16 {
		wide = append(wide, written(64*i, row(uint64(1000+64*i), 64)...))
	}
	lands(t, b, head(2, 1, 1024), wide...)
	stands(t, b, 2, row(1000, 1024), 0, 0)
	lands(t, b, head(3, 2, 1024), trimmed(0, 1024))
	stands(t, b, 3, make([]uint64, 1024), 0, 0)
}

// P11.3: behind a Crash what came is as it was at the last Sync.
func TestCrash(t *testing.T) {
	b := fresh(t, 0, 0, 6)
	lands(t, b, head(1, 0, 6), written(0, 1, 2, 3, 4, 5, 6))
	was := row(1, 6)
	syncs(t, b, 0)
	b.Crash()
	stands(t, b, 1, was, 0, 0)
	goes(t, b, 0, head(2, 1, 6), written(0, 9))
	b.Crash()
	stands(t, b, 1, was, 0, 0)
	takes(t, b, 2, written(1, 9), api.ErrWait)
	goes(t, b, 0, head(3, 1, 6))
	syncs(t, b, 1)
	goes(t, b, 1, written(0, 9))
	syncs(t, b, 2)
	syncs(t, b, 2)
	goes(t, b, 2, trimmed(3, 3))
	b.Crash()
	stands(t, b, 1, was, 3, 2)
	b.Crash()
	stands(t, b, 1, was, 3, 2)
	// What the lost record was about may come again, another way.
	goes(t, b, 2, written(1, 8))
	syncs(t, b, 3)
	b.Crash()
	stands(t, b, 1, was, 3, 3)
	goes(t, b, 3, tail(2))
	b.Crash()
	stands(t, b, 3, []uint64{9, 8, 3, 4, 5, 6}, 0, 0)
}

// P11.3: a Sync makes nothing durable of what is taken behind it.
func TestCrashTwice(t *testing.T) {
	b := fresh(t, 0, 0, 4)
	goes(t, b, 0, head(1, 0, 4), written(0, 1))
	syncs(t, b, 2)
	for range 3 {
		goes(t, b, 2, written(1, 5), trimmed(2, 2))
		stands(t, b, 0, make([]uint64, 4), 1, 4)
		b.Crash()
		stands(t, b, 0, make([]uint64, 4), 1, 2)
	}
	goes(t, b, 2, tail(1))
	stands(t, b, 1, []uint64{1, 0, 0, 0}, 0, 0)
}

// P11.2, P11.3: what has landed is durable at once, and of it nothing comes any more, though it was synced.
func TestLanded(t *testing.T) {
	for at := range 4 {
		b := fresh(t, 0, 0, 4)
		for i, r := range list(head(1, 0, 4), written(1, 5), trimmed(3, 1), tail(2)) {
			takes(t, b, i, r, api.OK)
			if i == at && i < 3 {
				syncs(t, b, i+1)
			}
		}
		stands(t, b, 1, []uint64{0, 5, 0, 0}, 0, 0)
		b.Crash()
		stands(t, b, 1, []uint64{0, 5, 0, 0}, 0, 0)
		syncs(t, b, 0)
		goes(t, b, 0, head(2, 1, 4), written(0, 7))
		b.Crash()
		stands(t, b, 1, []uint64{0, 5, 0, 0}, 0, 0)
	}
}

// P11.3: behind a Drop nothing comes, and none comes back.
func TestDrop(t *testing.T) {
	b := fresh(t, 0, 0, 4)
	b.Drop()
	stands(t, b, 0, make([]uint64, 4), 0, 0)
	lands(t, b, head(1, 0, 4), written(1, 5))
	b.Drop()
	stands(t, b, 1, []uint64{0, 5, 0, 0}, 0, 0)
	goes(t, b, 0, head(2, 1, 4), written(0, 7))
	syncs(t, b, 2)
	goes(t, b, 2, written(1, 8))
	b.Drop()
	stands(t, b, 1, []uint64{0, 5, 0, 0}, 0, 0)
	b.Crash()
	stands(t, b, 1, []uint64{0, 5, 0, 0}, 0, 0)
	syncs(t, b, 0)
	takes(t, b, 3, tail(2), api.ErrWait)
	goes(t, b, 0, head(2, 0, 4))
	b.Crash()
	stands(t, b, 1, []uint64{0, 5, 0, 0}, 0, 0)
	lands(t, b, head(2, 1, 4), written(0, 7))
	stands(t, b, 2, []uint64{7, 5, 0, 0}, 0, 0)
}

// P11.3: of a nil berth, and one that New did not give.
func TestNil(t *testing.T) {
	for _, b := range []*land.Berth{nil, {}, new(land.Berth)} {
		for range 2 {
			for _, i := range []int{-1, 0, 1, math.MinInt, math.MaxInt} {
				for _, r := range list(api.Record{}, head(1, 0, 0), head(0, 0, 0), written(0, 1), tail(0)) {
					takes(t, b, i, r, api.ErrNil)
				}
			}
			for _, c := range [][2]int{{0, 0}, {0, 1}, {-1, 0}, {0, -1}} {
				if v, err := b.Read(c[0], c[1]); len(v) != 0 || err != api.ErrNil {
					t.Fatalf("Read(%v): %v, %v", c, v, err)
				}
			}
			snap, taken := b.Coming()
			if b.Snap() != 0 || snap != 0 || taken != 0 || b.Sync() != 0 {
				t.Fatal(b.Snap(), snap, taken, b.Sync())
			}
			b.Crash()
			b.Drop()
		}
	}
}

// R3: berths have nothing in common.
func TestApart(t *testing.T) {
	a, b := fresh(t, 0, 0, 2), fresh(t, 0, 0, 2)
	goes(t, a, 0, head(1, 0, 2), written(0, 5))
	syncs(t, b, 0)
	stands(t, b, 0, []uint64{0, 0}, 0, 0)
	goes(t, b, 0, head(2, 0, 2))
	b.Crash()
	stands(t, b, 0, []uint64{0, 0}, 0, 0)
	stands(t, a, 0, []uint64{0, 0}, 1, 2)
	lands(t, b, head(3, 0, 2), written(1, 6))
	goes(t, a, 2, tail(1))
	stands(t, a, 1, []uint64{5, 0}, 0, 0)
	stands(t, b, 3, []uint64{0, 6}, 0, 0)
}

// R3: a copy of a berth goes on apart from it.
func TestCopy(t *testing.T) {
	a := fresh(t, 0, 0, 2)
	lands(t, a, head(1, 0, 2), written(0, 5))
	goes(t, a, 0, head(2, 1, 2))
	syncs(t, a, 1)
	c := *a
	b := &c
	goes(t, a, 1, written(1, 6))
	goes(t, b, 1, written(0, 7))
	b.Drop()
	lands(t, b, head(3, 1, 2), written(1, 8))
	goes(t, a, 2, tail(1))
	stands(t, a, 2, []uint64{5, 6}, 0, 0)
	stands(t, b, 3, []uint64{5, 8}, 0, 0)
}

// alphabet are the steps that are tried in every order: records of a berth of two blocks, right ones and wrong ones.
func alphabet() []step {
	l := []step{{name: "Sync"}, {name: "Crash"}, {name: "Drop"}}
	for _, r := range list(head(1, 0, 2), head(2, 0, 2), head(1, 2, 2), head(2, 1, 2), based(1, 2, 1, 1, 2)) {
		l = append(l, step{i: 0, r: r})
	}
	for i := range 4 {
		for _, r := range list(written(0, 5), written(1, 6), trimmed(0, 1), tail(max(0, i-1))) {
			l = append(l, step{i: i, r: r})
		}
	}
	return append(l, step{i: 1, r: written(0, 7, 8)}, step{i: 1, r: tail(1)}, step{i: 2, r: trimmed(0, 2)}, step{i: 2, r: head(2, 0, 2)})
}

// key tells models apart.
func (m *model) key() string {
	return fmt.Sprint(m.snap, m.volume, m.comes, m.synced)
}

// ends are steps that show what lies behind a state: what comes lands, with the power or behind its loss.
func ends(m model) [][]step {
	var l [][]step
	for _, ahead := range [][]step{nil, {{name: "Crash"}}} {
		c := m
		for _, s := range ahead {
			c.imagined(s)
		}
		n := len(c.comes)
		l = append(l,
			append(slices.Clone(ahead), step{i: n, r: tail(n - 1)}),
			append(slices.Clone(ahead), step{i: n, r: written(0, 3)}, step{i: n, r: written(1, 3)}, step{name: "Sync"}, step{name: "Crash"}),
		)
	}
	return l
}

// P11.1 to P11.3, R7: every state to which steps lead, and in each of them every step.
func TestEveryState(t *testing.T) {
	type state struct {
		m   model
		way []step
	}
	first := state{m: imagine(0, 0, 2)}
	seen := map[string]bool{first.m.key(): true}
	calls := 0
	for open := []state{first}; len(open) > 0; open = open[1:] {
		at := open[0]
		for _, s := range alphabet() {
			next := at.m
			next.imagined(s)
			way := append(slices.Clone(at.way), s)
			for _, end := range ends(next) {
				calls++
				b, m := fresh(t, 0, 0, 2), imagine(0, 0, 2)
				steps(t, b, &m, way...)
				steps(t, b, &m, end...)
			}
			if !seen[next.key()] {
				seen[next.key()] = true
				open = append(open, state{m: next, way: way})
			}
		}
	}
	if len(seen) < 700 {
		t.Fatalf("%d states alone, by %d ways", len(seen), calls)
	}
}

// P11.1 to P11.3, R7: all short ways.
func TestEveryWay(t *testing.T) {
	const long = 4
	l := alphabet()
	var walk func(way []step)
	walk = func(way []step) {
		if len(way) == long {
			b, m := fresh(t, 0, 0, 2), imagine(0, 0, 2)
			steps(t, b, &m, way...)
			return
		}
		for _, s := range l {
			walk(append(slices.Clone(way), s))
		}
	}
	walk(nil)
}

// some is a step that is often, but not always, one of what comes.
func some(r *rand.Rand, m *model) step {
	switch k := r.Intn(40); k {
	case 0, 1, 2:
		return step{name: "Sync"}
	case 3, 4:
		return step{name: "Crash"}
	case 5:
		return step{name: "Drop"}
	}
	n := len(m.volume)
	s := step{i: len(m.comes)}
	if r.Intn(6) == 0 {
		s.i += r.Intn(5) - 2
	}
	end := 0
	if len(m.comes) > 0 {
		_, end, _ = span(m.comes[len(m.comes)-1], n)
	}
	off := max(0, end+r.Intn(6)-1)
	switch k := r.Intn(12); {
	case len(m.comes) == 0 && k < 10:
		base := []int{0, m.snap, m.snap, r.Intn(5)}[r.Intn(4)]
		s.r = based(m.shard, r.Intn(5), base, m.version, n)
		if r.Intn(8) == 0 {
			s.r = based(m.shard+r.Intn(2), r.Intn(5), base, m.version+r.Intn(2), n+r.Intn(2))
		}
	case k < 6:
		s.r = written(off, row(r.Uint64(), 1+r.Intn(5))...)
	case k < 9:
		s.r = trimmed(off, 1+r.Intn(4))
	case k < 11:
		s.r = tail(max(0, len(m.comes)-1))
	default:
		s.r = tail(r.Intn(4))
	}
	return s
}

// P11.1 to P11.3, R7: long ways of berths of several sizes.
func TestLongWays(t *testing.T) {
	landed := 0
	for seed := range 60 {
		r := rand.New(rand.NewSource(int64(seed)))
		shard, version, n := r.Intn(3), r.Intn(3), []int{0, 1, 2, 5, 20, 64, 200}[seed%7]
		b, m := fresh(t, shard, version, n), imagine(shard, version, n)
		for range 1500 {
			snap := m.snap
			steps(t, b, &m, some(r, &m))
			if m.snap != snap {
				landed++
			}
		}
	}
	if landed < 1000 {
		t.Fatalf("%d streams have landed alone", landed)
	}
}

// course are streams, each based on the one ahead or on none, and the volumes that they make, the first one (of none) ahead.
func course(r *rand.Rand, n, many int) ([][]api.Record, [][]uint64) {
	var streams [][]api.Record
	volumes := [][]uint64{make([]uint64, n)}
	for k := 1; k <= many; k++ {
		h, v := head(k, k-1, n), slices.Clone(volumes[k-1])
		if r.Intn(4) == 0 {
			h.Base, v = 0, make([]uint64, n)
		}
		l := list(h)
		for at := r.Intn(3); at < n; at += 1 + r.Intn(3) {
			if r.Intn(3) == 0 {
				l, v[at] = append(l, trimmed(at, 1)), 0
			} else {
				l, v[at] = append(l, written(at, uint64(100*k+at))), uint64(100*k+at)
			}
		}
		streams = append(streams, append(l, tail(len(l)-1)))
		volumes = append(volumes, v)
	}
	return streams, volumes
}

// P11.4: records that come doubled and mixed up, with the power going off now and then, make whole volumes alone.
func TestMixed(t *testing.T) {
	for seed := range 40 {
		r := rand.New(rand.NewSource(int64(seed)))
		n := 2 + r.Intn(8)
		streams, volumes := course(r, n, 5)
		b := fresh(t, 0, 0, n)
		there := 0
		for _, l := range streams {
			for range 3000 {
				switch i := r.Intn(len(l)); r.Intn(12) {
				case 0:
					b.Crash()
				case 1:
					b.Sync()
				default:
					take(t, b, i, l[i])
				}
				if b.Snap() == there+1 {
					there++
				}
				got, err := b.Read(0, n)
				if b.Snap() != there || err != api.OK || !slices.Equal(got, volumes[there]) {
					t.Fatalf("seed %d: there is %d, %v, %v: want %d, %v", seed, b.Snap(), got, err, there, volumes[there])
				}
				if there == l[0].Snap {
					break
				}
			}
			if there != l[0].Snap {
				t.Fatalf("seed %d: the stream %d has not landed", seed, l[0].Snap)
			}
		}
	}
}

// P11.5, P11.6: wherever the power goes off, and whenever there was a Sync, a stream that goes on from the durable count lands, and nothing below it is taken.
func TestAgain(t *testing.T) {
	l := list(head(2, 1, 9), written(0, 7), trimmed(2, 2), written(4, 8, 8), written(8, 9), tail(4))
	was, want := row(1, 9), []uint64{7, 2, 0, 0, 8, 8, 7, 8, 9}
	for first := range len(l) {
		for second := first; second < len(l); second++ {
			for off := second; off < len(l); off++ {
				b := fresh(t, 0, 0, 9)
				lands(t, b, head(1, 0, 9), written(0, was...))
				for i, r := range l[:off] {
					takes(t, b, i, r, api.OK)
					if i+1 == first || i+1 == second {
						syncs(t, b, i+1)
					}
				}
				b.Crash()
				durable := second
				comes := 2
				if durable == 0 {
					comes = 0
				}
				stands(t, b, 1, was, comes, durable)
				for i, r := range l[:durable] {
					takes(t, b, i, r, api.ErrTwice)
				}
				stands(t, b, 1, was, comes, durable)
				goes(t, b, durable, l[durable:]...)
				stands(t, b, 2, want, 0, 0)
			}
		}
	}
}

// P11.5: a stream lands though each time the power goes off, if each time one record more is durable.
func TestAgainEach(t *testing.T) {
	streams, volumes := course(rand.New(rand.NewSource(1)), 40, 3)
	b := fresh(t, 0, 0, 40)
	for k, l := range streams {
		for durable := range len(l) - 1 {
			goes(t, b, durable, l[durable])
			syncs(t, b, durable+1)
			if durable+2 < len(l) {
				goes(t, b, durable+1, l[durable+1])
			}
			b.Crash()
			stands(t, b, k, volumes[k], k+1, durable+1)
		}
		goes(t, b, len(l)-1, l[len(l)-1])
		b.Crash()
		stands(t, b, k+1, volumes[k+1], 0, 0)
	}
}

// P11.4: what layer 10 builds, encodes and reads lands, however its bytes are cut.
func TestEncoded(t *testing.T) {
	ops := []api.Op{{Kind: api.Write, Off: 1, Data: row(5, 64)}, {Kind: api.Trim, Off: 65, Len: 3}, {Kind: api.Write, Off: 99, Data: []uint64{big}}}
	l, err := stream.Build(head(1, 0, 100), ops)
	if err != api.OK {
		t.Fatal(err)
	}
	code, err := stream.Encode(l...)
	if err != api.OK {
		t.Fatal(err)
	}
	want := slices.Concat([]uint64{0}, row(5, 64), make([]uint64, 34), []uint64{big})
	for _, size := range []int{1, 7, 100, len(code)} {
		b, r, i := fresh(t, 0, 0, 100), stream.New(), 0
		for part := range slices.Chunk(code, size) {
			for _, one := range r.Feed(part) {
				takes(t, b, i, one, api.OK)
				i++
			}
		}
		stands(t, b, 1, want, 0, 0)
	}
}
