package volume_test

import (
	"fmt"
	"maps"
	"slices"
	"testing"

	"jackstay/api"
	"jackstay/blocks"
	"jackstay/smap"
	"jackstay/volume"
)

// face is what a volume can do.
type face interface {
	Do(version int, o api.Op) api.Errno
	Read(version, off, n int) ([]uint64, api.Errno)
	Flush(nodes ...int) api.Errno
	Split(at int) api.Errno
	Merge(at int) api.Errno
	Move(block, node int) api.Errno
	Crash(node int, keep []bool) api.Errno
	Freeze(node int, frozen bool) api.Errno
	Snap(node, id int) api.Errno
	Delete(node, id int) api.Errno
	Snaps(node int) []int
	Since(node, base, id int) ([]api.Op, api.Errno)
	Map() smap.Map
}

// part is what a node should keep. What its lists have is never written over.
type part struct {
	now, durable []uint64
	open         []api.Op
	snaps        map[int][]uint64
	order        []int
	frozen       bool
}

func (p *part) refuses() api.Errno {
	if p.frozen {
		return api.ErrState
	}
	if len(p.open) >= 256 {
		return api.ErrMany
	}
	return api.OK
}

func (p *part) do(o api.Op) {
	p.now, _ = blocks.Apply(p.now, o)
	p.open = append(p.open, o)
}

func (p *part) settle(v []uint64) {
	p.now, p.durable, p.open = v, v, nil
}

// model is what a volume should be.
type model struct {
	m     smap.Map
	nodes [16]part
}

func newModel(m smap.Map) *model {
	w := &model{m: m}
	for i := range w.nodes {
		w.nodes[i] = part{now: make([]uint64, m.N), durable: make([]uint64, m.N), snaps: map[int][]uint64{}}
	}
	return w
}

// copied is a model that goes on apart.
func (w *model) copied() *model {
	c := *w
	for i := range c.nodes {
		c.nodes[i].snaps = maps.Clone(w.nodes[i].snaps)
		// What is appended to one of both is not the other's.
		c.nodes[i].open = slices.Clip(w.nodes[i].open)
	}
	return &c
}

func (w *model) key() string {
	return fmt.Sprint(*w)
}

// owner is the node of a block.
func (w *model) owner(block int) int {
	for _, p := range w.m.Pieces {
		if block >= p.From && block < p.To {
			return p.Node
		}
	}
	return -1
}

// shows is the volume.
func (w *model) shows() []uint64 {
	var v []uint64
	for block := range w.m.N {
		v = append(v, w.nodes[w.owner(block)].now[block])
	}
	return v
}

// cut are the ops that an op is, and their nodes: one of each piece, the first one first.
func (w *model) cut(o api.Op) ([]api.Op, []int) {
	var ops []api.Op
	var nodes []int
	off, n := blocks.Range(o)
	for _, p := range w.m.Pieces {
		one := api.Op{Kind: o.Kind}
		for block := off; block < off+n; block++ {
			if block < p.From || block >= p.To {
				continue
			}
			if one.Len == 0 && len(one.Data) == 0 {
				one.Off = block
			}
			if o.Kind == api.Trim {
				one.Len++
			} else {
				one.Data = append(one.Data, o.Data[block-off])
			}
		}
		if one.Len > 0 || len(one.Data) > 0 {
			ops, nodes = append(ops, one), append(nodes, p.Node)
		}
	}
	return ops, nodes
}

func (w *model) Do(version int, o api.Op) api.Errno {
	if version != w.m.Version {
		return api.ErrMap
	}
	if !blocks.Right(w.m.N, o) {
		return api.ErrNone
	}
	ops, nodes := w.cut(o)
	for _, node := range nodes {
		if err := w.nodes[node].refuses(); err != api.OK {
			return err
		}
	}
	was := w.nodes
	for i, node := range nodes {
		if err := w.nodes[node].refuses(); err != api.OK {
			w.nodes = was
			return err
		}
		w.nodes[node].do(ops[i])
	}
	return api.OK
}

func (w *model) Read(version, off, n int) ([]uint64, api.Errno) {
	if version != w.m.Version {
		return nil, api.ErrMap
	}
	if n < 1 || n > w.m.N || off < 0 || off > w.m.N-n {
		return nil, api.ErrNone
	}
	return slices.Clone(w.shows()[off : off+n]), api.OK
}

func (w *model) Flush(nodes ...int) api.Errno {
	for _, node := range nodes {
		if node < 0 || node > 15 {
			return api.ErrNone
		}
	}
	for i := range w.nodes {
		if len(nodes) == 0 || slices.Contains(nodes, i) {
			w.nodes[i].settle(w.nodes[i].now)
		}
	}
	return api.OK
}

func (w *model) Split(at int) api.Errno {
	return w.become(smap.Split(w.m, at))
}

func (w *model) Merge(at int) api.Errno {
	return w.become(smap.Merge(w.m, at))
}

func (w *model) become(m smap.Map, err api.Errno) api.Errno {
	if err == api.OK {
		w.m = m
	}
	return err
}

func (w *model) Move(block, node int) api.Errno {
	m, err := smap.Move(w.m, block, node)
	if err != api.OK {
		return err
	}
	from, to := &w.nodes[w.owner(block)], &w.nodes[node]
	if from.frozen || to.frozen {
		return api.ErrState
	}
	if len(from.open) > 200 || len(to.open) > 200 {
		return api.ErrMany
	}
	i, _ := smap.Find(w.m, block)
	now := slices.Clone(to.now)
	for b := w.m.Pieces[i].From; b < w.m.Pieces[i].To; b++ {
		now[b] = from.now[b]
	}
	from.settle(from.now)
	to.settle(now)
	w.m = m
	return api.OK
}

// at is what a node keeps, or nothing of what is none.
func (w *model) at(node int) (*part, api.Errno) {
	if node < 0 || node > 15 {
		return &part{}, api.ErrNone
	}
	return &w.nodes[node], api.OK
}

func (w *model) Crash(node int, keep []bool) api.Errno {
	p, err := w.at(node)
	if err != api.OK {
		return err
	}
	v := p.durable
	for i, o := range p.open {
		if i < len(keep) && keep[i] {
			v, _ = blocks.Apply(v, o)
		}
	}
	p.settle(v)
	p.frozen = false
	return api.OK
}

func (w *model) Freeze(node int, frozen bool) api.Errno {
	p, err := w.at(node)
	p.frozen = frozen
	return err
}

func (w *model) Snap(node, id int) api.Errno {
	p, err := w.at(node)
	if err != api.OK {
		return err
	}
	if id < 1 {
		return api.ErrArg
	}
	if slices.Contains(p.order, id) {
		return api.ErrTwice
	}
	if len(p.order) >= 32 {
		return api.ErrMany
	}
	p.settle(p.now)
	p.snaps[id] = p.now
	p.order = append(slices.Clone(p.order), id)
	return api.OK
}

func (w *model) Delete(node, id int) api.Errno {
	p, err := w.at(node)
	if err != api.OK {
		return err
	}
	i := slices.Index(p.order, id)
	if i < 0 {
		return api.ErrNone
	}
	p.order = slices.Delete(slices.Clone(p.order), i, i+1)
	delete(p.snaps, id)
	return api.OK
}

func (w *model) Snaps(node int) []int {
	p, _ := w.at(node)
	return slices.Clone(p.order)
}

func (w *model) Since(node, base, id int) ([]api.Op, api.Errno) {
	p, err := w.at(node)
	if err != api.OK {
		return nil, err
	}
	a, b := make([]uint64, w.m.N), p.snaps[id]
	if base != 0 {
		a = p.snaps[base]
	}
	// Each snapshot has blocks, as a volume has some.
	if len(a) == 0 || len(b) == 0 {
		return nil, api.ErrNone
	}
	return blocks.Diff(a, b)
}

func (w *model) Map() smap.Map {
	m := w.m
	m.Pieces = slices.Clone(m.Pieces)
	return m
}

// pair is a volume, and what it should be.
type pair struct {
	v *volume.Volume
	w *model
}

func fresh(t *testing.T, n int, nodes ...int) pair {
	t.Helper()
	v, err := volume.New(n, nodes...)
	if v == nil || err != api.OK {
		t.Fatalf("New(%d, %v): %v, %v", n, nodes, v, err)
	}
	m, _ := smap.New(n, nodes...)
	return pair{v, newModel(m)}
}

// answer is all that a call answers.
type answer struct {
	err     api.Errno
	numbers []uint64
	ids     []int
	ops     []api.Op
	m       smap.Map
}

func (a answer) same(b answer) bool {
	return a.err == b.err && slices.Equal(a.numbers, b.numbers) && slices.Equal(a.ids, b.ids) && blocks.Same(a.ops, b.ops) && smap.Same(a.m, b.m)
}

// spoil writes over all that was answered, also behind the ends of the lists (R4).
func (a answer) spoil() {
	over(a.numbers)
	over(a.ids)
	for _, o := range a.ops[:cap(a.ops)] {
		over(o.Data)
	}
	clear(a.ops[:cap(a.ops)])
	clear(a.m.Pieces[:cap(a.m.Pieces)])
}

func over[T uint64 | int](l []T) {
	l = l[:cap(l)]
	for i := range l {
		l[i] = 77
	}
}

// act is a call.
type act struct {
	name string
	do   func(f face) answer
}

// does does acts: they answer what they should.
func (p pair) does(t *testing.T, acts ...act) pair {
	t.Helper()
	for _, a := range acts {
		want := a.do(p.w)
		got := a.do(p.v)
		if !got.same(want) {
			t.Fatalf("%s: %+v, and not %+v", a.name, got, want)
		}
		got.spoil()
	}
	return p
}

// is does an act whose error is told.
func (p pair) is(t *testing.T, err api.Errno, a act) pair {
	t.Helper()
	if want := a.do(p.w.copied()).err; want != err {
		t.Fatalf("%s: the model answers %v, and not %v", a.name, want, err)
	}
	return p.does(t, a)
}

// shows asks what the volume shows.
func (p pair) shows(t *testing.T, want ...uint64) pair {
	t.Helper()
	if got, err := p.v.Read(p.v.Map().Version, 0, len(want)); err != api.OK || !slices.Equal(got, want) {
		t.Fatalf("it shows %v, %v, and not %v", got, err, want)
	}
	return p
}

// spare is a list with something behind its end, where nobody writes.
func spare[T any](l []T, mark T) []T {
	return append(slices.Clone(l), mark, mark)[:len(l)]
}

// behind asks whether a list that was handed in, and what lies behind its end, is as it was.
func behind[T comparable](name string, whole, was []T, mark T) {
	if whole = whole[:len(was)+2]; !slices.Equal(whole[:len(was)], was) || whole[len(was)] != mark || whole[len(was)+1] != mark {
		panic(name + " has written into what it was handed")
	}
}

// op does an op, of the version that is so much more than the map's.
func op(more int, o api.Op) act {
	name := fmt.Sprintf("Do(%+d, %v)", more, o)
	return act{name, func(f face) answer {
		mine := o
		mine.Data = spare(o.Data, 55)
		err := f.Do(f.Map().Version+more, mine)
		behind(name, mine.Data, o.Data, 55)
		over(mine.Data)
		return answer{err: err}
	}}
}

func write(off int, data ...uint64) act {
	return op(0, api.Op{Kind: api.Write, Off: off, Data: data})
}

func trim(off, n int) act {
	return op(0, api.Op{Kind: api.Trim, Off: off, Len: n})
}

func read(more, off, n int) act {
	return act{fmt.Sprintf("Read(%+d, %d, %d)", more, off, n), func(f face) answer {
		numbers, err := f.Read(f.Map().Version+more, off, n)
		return answer{err: err, numbers: numbers}
	}}
}

func flush(nodes ...int) act {
	name := fmt.Sprintf("Flush(%v)", nodes)
	return act{name, func(f face) answer {
		mine := spare(nodes, 55)
		err := f.Flush(mine...)
		behind(name, mine, nodes, 55)
		over(mine)
		return answer{err: err}
	}}
}

func split(at int) act {
	return act{fmt.Sprintf("Split(%d)", at), func(f face) answer { return answer{err: f.Split(at)} }}
}

func merge(at int) act {
	return act{fmt.Sprintf("Merge(%d)", at), func(f face) answer { return answer{err: f.Merge(at)} }}
}

func move(block, node int) act {
	return act{fmt.Sprintf("Move(%d, %d)", block, node), func(f face) answer { return answer{err: f.Move(block, node)} }}
}

func crash(node int, keep ...bool) act {
	name := fmt.Sprintf("Crash(%d, %v)", node, keep)
	return act{name, func(f face) answer {
		mine := spare(keep, true)
		err := f.Crash(node, mine)
		behind(name, mine, keep, true)
		return answer{err: err}
	}}
}

func freeze(node int, frozen bool) act {
	return act{fmt.Sprintf("Freeze(%d, %v)", node, frozen), func(f face) answer { return answer{err: f.Freeze(node, frozen)} }}
}

func snap(node, id int) act {
	return act{fmt.Sprintf("Snap(%d, %d)", node, id), func(f face) answer { return answer{err: f.Snap(node, id)} }}
}

func remove(node, id int) act {
	return act{fmt.Sprintf("Delete(%d, %d)", node, id), func(f face) answer { return answer{err: f.Delete(node, id)} }}
}

func snaps(node int) act {
	return act{fmt.Sprintf("Snaps(%d)", node), func(f face) answer { return answer{ids: f.Snaps(node)} }}
}

func since(node, base, id int) act {
	return act{fmt.Sprintf("Since(%d, %d, %d)", node, base, id), func(f face) answer {
		ops, err := f.Since(node, base, id)
		return answer{err: err, ops: ops}
	}}
}

func chart() act {
	return act{"Map", func(f face) answer { return answer{m: f.Map()} }}
}

// sees asks for all that can be seen of a volume without turning it.
func (p pair) sees(t *testing.T) pair {
	t.Helper()
	p.does(t, chart(), read(0, 0, p.w.m.N))
	for node := range p.w.nodes {
		p.does(t, snaps(node))
		base := 0
		for _, id := range p.w.nodes[node].order {
			p.does(t, since(node, base, id))
			base = id
		}
	}
	return p
}

// probes are ways to ask also for what is open, durable and frozen of some nodes, by calls that turn it.
func probes(n int, nodes ...int) [][]act {
	l := make([][]act, 4)
	for _, node := range nodes {
		odd, even := make([]bool, 256), make([]bool, 256)
		for i := range odd {
			odd[i], even[i] = i%2 == 1, i%2 == 0
		}
		l[0] = append(l[0], crash(node, odd...), snap(node, 1000), since(node, 0, 1000))
		l[1] = append(l[1], crash(node, even...), snap(node, 1000), since(node, 0, 1000))
		l[2] = append(l[2], move(0, node), move(n-1, node))
	}
	for block := range n {
		l[3] = append(l[3], write(block, 99), read(0, block, 1))
	}
	return l
}

// after is a volume, and what it should be, behind some acts.
func after(t *testing.T, n int, nodes []int, acts ...act) pair {
	t.Helper()
	return fresh(t, n, nodes...).does(t, acts...)
}
