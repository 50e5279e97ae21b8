package stream_test

import (
	"bytes"
	"encoding/binary"
	"hash/adler32"
	"math"
	"math/rand"
	"slices"
	"testing"

	"jackstay/api"
	"jackstay/blocks"
	"jackstay/stream"
)

const (
	most = 1 << 31
	big  = math.MaxUint64
	// mark is a number that lies behind lists, marked such a byte; what is written over lists is one more.
	mark   = 0xABCDEF
	marked = 0xEE
)

func head(n int) api.Record {
	return api.Record{Kind: api.Head, Len: n}
}

func based(shard, snap, base, version, n int) api.Record {
	return api.Record{Kind: api.Head, Shard: shard, Snap: snap, Base: base, Map: version, Len: n}
}

func written(off int, data ...uint64) api.Record {
	return api.Record{Kind: api.Written, Off: off, Data: data}
}

func trimmed(off, n int) api.Record {
	return api.Record{Kind: api.Trimmed, Off: off, Len: n}
}

func tail(n int) api.Record {
	return api.Record{Kind: api.Tail, Len: n}
}

func list(l ...api.Record) []api.Record {
	return l
}

func write(off int, data ...uint64) api.Op {
	return api.Op{Kind: api.Write, Off: off, Data: data}
}

func trim(off, n int) api.Op {
	return api.Op{Kind: api.Trim, Off: off, Len: n}
}

func does(ops ...api.Op) []api.Op {
	return ops
}

// row are n numbers from first on.
func row(first uint64, n int) []uint64 {
	var v []uint64
	for i := range n {
		v = append(v, first+uint64(i))
	}
	return v
}

// noise is n bytes that are the same in every run.
func noise(seed int64, n int) []byte {
	b := make([]byte, n)
	rand.New(rand.NewSource(seed)).Read(b)
	return b
}

// odd is a record that may not be, and oddOp such an op.
func odd() api.Record {
	return api.Record{Kind: -7, Shard: -7, Snap: -7, Base: -7, Map: -7, Off: -7, Len: -7}
}

func oddOp() api.Op {
	return api.Op{Kind: -7, Off: -7, Len: -7}
}

// none is what is written over records, and noOp over ops.
func none() api.Record {
	return api.Record{Kind: -9}
}

func noOp() api.Op {
	return api.Op{Kind: -9}
}

// fields are a record's, Data aside.
func fields(r api.Record) [7]int {
	return [7]int{r.Kind, r.Shard, r.Snap, r.Base, r.Map, r.Off, r.Len}
}

// same tells whether two lists are the same, in every field.
func same(a, b []api.Record) bool {
	return slices.EqualFunc(a, b, func(x, y api.Record) bool {
		return fields(x) == fields(y) && slices.Equal(x.Data, y.Data)
	})
}

func sameOps(a, b []api.Op) bool {
	return slices.EqualFunc(a, b, func(x, y api.Op) bool {
		return x.Kind == y.Kind && x.Off == y.Off && x.Len == y.Len && slices.Equal(x.Data, y.Data)
	})
}

// room is a row with elements behind its end.
func room[E any](l []E, behind E) []E {
	return append(slices.Clone(l), behind, behind, behind)
}

// fill writes over a row, also behind its end.
func fill[E any](l []E, with E) {
	l = l[:cap(l)]
	for i := range l {
		l[i] = with
	}
}

// roomy is a copy of records that have room behind them, and so have their Data.
func roomy(l []api.Record) []api.Record {
	c := room(l, odd())[:len(l)]
	for i := range c {
		c[i].Data = room(c[i].Data, mark)[:len(c[i].Data)]
	}
	return c
}

func roomyOps(l []api.Op) []api.Op {
	c := room(l, oddOp())[:len(l)]
	for i := range c {
		c[i].Data = room(c[i].Data, mark)[:len(c[i].Data)]
	}
	return c
}

// stays asks that records that are roomy are as they were, and what lies behind them.
func stays(t *testing.T, c, l []api.Record) {
	t.Helper()
	if !same(c, l) {
		t.Fatalf("%v was handed in, and is %v", l, c)
	}
	for _, r := range c[len(l) : len(l)+3 : len(l)+3] {
		if !same(list(r), list(odd())) {
			t.Fatalf("behind %v something was written: %v", l, r)
		}
	}
	for i := range l {
		if !slices.Equal(c[i].Data[:len(l[i].Data)+3], room(l[i].Data, mark)) {
			t.Fatalf("behind %v something was written", l[i])
		}
	}
}

func staysOps(t *testing.T, c, l []api.Op) {
	t.Helper()
	if !sameOps(c, l) {
		t.Fatalf("%v was handed in, and is %v", l, c)
	}
	for _, o := range c[len(l) : len(l)+3 : len(l)+3] {
		if !sameOps(does(o), does(oddOp())) {
			t.Fatalf("behind %v something was written: %v", l, o)
		}
	}
	for i := range l {
		if !slices.Equal(c[i].Data[:len(l[i].Data)+3], room(l[i].Data, mark)) {
			t.Fatalf("behind %v something was written", l[i])
		}
	}
}

// deep is a copy of records that shares nothing with them.
func deep(l []api.Record) []api.Record {
	c := slices.Clone(l)
	for i := range c {
		c[i].Data = slices.Clone(c[i].Data)
	}
	return c
}

func deepOps(l []api.Op) []api.Op {
	c := slices.Clone(l)
	for i := range c {
		c[i].Data = slices.Clone(c[i].Data)
	}
	return c
}

// spoil writes over an answer's numbers, also behind their end, and asks that no two lists of it share any.
func spoil(t *testing.T, l []api.Record) {
	t.Helper()
	was := deep(l)
	for i := range l {
		fill(l[i].Data, mark+1)
		if !same(l[i+1:], was[i+1:]) {
			t.Fatalf("two lists of the answer %v share memory", was)
		}
	}
	fill(l, none())
}

func spoilOps(t *testing.T, l []api.Op) {
	t.Helper()
	was := deepOps(l)
	for i := range l {
		fill(l[i].Data, mark+1)
		if !sameOps(l[i+1:], was[i+1:]) {
			t.Fatalf("two lists of the answer %v share memory", was)
		}
	}
	fill(l, noOp())
}

// encode is Encode, asked that nothing that is handed in is turned.
func encode(t *testing.T, l []api.Record) ([]byte, api.Errno) {
	t.Helper()
	c := roomy(l)
	b, err := stream.Encode(c...)
	stays(t, c, l)
	answer := bytes.Clone(b)
	fill(b, marked+1)
	stays(t, c, l)
	return answer, err
}

// check is Check, asked so.
func check(t *testing.T, l []api.Record) api.Errno {
	t.Helper()
	c := roomy(l)
	err := stream.Check(c)
	stays(t, c, l)
	return err
}

// build is Build, asked so, and that none of it is answered.
func build(t *testing.T, h api.Record, l []api.Op) ([]api.Record, api.Errno) {
	t.Helper()
	first, c := roomy(list(h)), roomyOps(l)
	got, err := stream.Build(first[0], c)
	stays(t, first, list(h))
	staysOps(t, c, l)
	answer := deep(got)
	spoil(t, got)
	stays(t, first, list(h))
	staysOps(t, c, l)
	again, _ := stream.Build(first[0], c)
	for i := range c {
		fill(c[i].Data, mark+1)
	}
	fill(first[0].Data, mark+1)
	if !same(again, answer) {
		t.Fatalf("Build(%v, %v): %v: it shares memory with an argument", h, l, answer)
	}
	return answer, err
}

// ops is Ops, asked so.
func ops(t *testing.T, l []api.Record) ([]api.Op, api.Errno) {
	t.Helper()
	c := roomy(l)
	got, err := stream.Ops(c)
	stays(t, c, l)
	answer := deepOps(got)
	spoilOps(t, got)
	stays(t, c, l)
	again, _ := stream.Ops(c)
	for i := range c {
		fill(c[i].Data, mark+1)
	}
	if !sameOps(again, answer) {
		t.Fatalf("Ops(%v): %v: it shares memory with its argument", l, answer)
	}
	return answer, err
}

// number are a number's bytes, as a library of others has them.
func number(n uint64) []byte {
	return binary.LittleEndian.AppendUint64(nil, n)
}

// figures are numbers' bytes.
func figures(numbers ...uint64) []byte {
	var b []byte
	for _, n := range numbers {
		b = append(b, number(n)...)
	}
	return b
}

// sealed are bytes with their sum behind them, and how many that are ahead.
func sealed(b []byte) []byte {
	whole := binary.BigEndian.AppendUint32(bytes.Clone(b), adler32.Checksum(b))
	return append(number(uint64(len(whole))), whole...)
}

// plain are a record's numbers, as they come in its bytes.
func plain(r api.Record) []uint64 {
	var l []uint64
	for _, n := range fields(r) {
		l = append(l, uint64(n))
	}
	return append(append(l, uint64(len(r.Data))), r.Data...)
}

// coded are records' bytes.
func coded(l ...api.Record) []byte {
	var b []byte
	for _, r := range l {
		b = append(b, sealed(figures(plain(r)...))...)
	}
	return b
}

// reader is what a Reader should be, going over all bytes anew at each Feed.
type reader struct {
	all      []byte
	answered int
}

// look are the records of all bytes, how many bytes wait, and the fault.
func (m *reader) look() ([]api.Record, int, api.Fault) {
	var l []api.Record
	for at := 0; ; {
		rest := m.all[at:]
		if len(rest) < 8 {
			return l, len(rest), api.Fault{}
		}
		n := binary.LittleEndian.Uint64(rest)
		if n > 700 {
			return l, 0, api.Fault{Why: api.ErrMany, At: at}
		}
		if uint64(len(rest)-8) < n {
			return l, len(rest), api.Fault{}
		}
		r, why := read(rest[8 : 8+n])
		if why != api.OK {
			return l, 0, api.Fault{Why: why, At: at}
		}
		l = append(l, r)
		at += 8 + int(n)
	}
}

// feed are the records that b makes whole.
func (m *reader) feed(b []byte) []api.Record {
	m.all = append(m.all, b...)
	l, _, _ := m.look()
	fresh := l[m.answered:]
	m.answered = len(l)
	return fresh
}

// read is the record of these bytes, with its sum.
func read(b []byte) (api.Record, api.Errno) {
	at := len(b) - 4
	if at < 0 || binary.BigEndian.Uint32(b[at:]) != adler32.Checksum(b[:at]) {
		return api.Record{}, api.ErrSum
	}
	b = b[:at]
	if len(b)%8 != 0 || len(b) < 64 {
		return api.Record{}, api.ErrForm
	}
	var l []uint64
	for ; len(b) > 0; b = b[8:] {
		l = append(l, binary.LittleEndian.Uint64(b))
	}
	for _, n := range l[:7] {
		if n > most {
			return api.Record{}, api.ErrForm
		}
	}
	r := api.Record{Kind: int(l[0]), Shard: int(l[1]), Snap: int(l[2]), Base: int(l[3]), Map: int(l[4]), Off: int(l[5]), Len: int(l[6]), Data: l[8:]}
	if l[7] != uint64(len(r.Data)) || !may(r) {
		return api.Record{}, api.ErrForm
	}
	return r, api.OK
}

// span is from where to where a record's fields may be, and how many numbers its Data may have.
func span(kind int) ([7][2]int, [2]int) {
	any, no, is := [2]int{0, most}, [2]int{}, [2]int{kind, kind}
	switch kind {
	case 1:
		return [7][2]int{is, any, any, any, any, no, any}, no
	case 2:
		return [7][2]int{is, no, no, no, no, any, no}, [2]int{1, 64}
	case 3:
		return [7][2]int{is, no, no, no, no, any, {1, most}}, no
	case 4:
		return [7][2]int{is, no, no, no, no, no, any}, no
	}
	return [7][2]int{{1, 0}}, no
}

// may is what May should answer.
func may(r api.Record) bool {
	spans, many := span(r.Kind)
	for i, n := range fields(r) {
		if n < spans[i][0] || n > spans[i][1] {
			return false
		}
	}
	return len(r.Data) >= many[0] && len(r.Data) <= many[1]
}

// feeds hands bytes to a Reader and to what it should be, and asks that both answer the same, and that the bytes are neither turned nor kept.
func feeds(t *testing.T, r *stream.Reader, m *reader, b []byte) []api.Record {
	t.Helper()
	c := room(b, byte(marked))
	got := r.Feed(c[:len(b)])
	if !bytes.Equal(c, room(b, byte(marked))) {
		t.Fatalf("% X was handed in, and is % X", b, c)
	}
	answer := deep(got)
	fill(c, marked+1)
	if !same(got, answer) {
		t.Fatalf("Feed's answer %v shares memory with its argument", answer)
	}
	spoil(t, got)
	if want := m.feed(b); !same(answer, want) {
		t.Fatalf("Feed(% X) behind % X: %v: want %v", b, m.all[:len(m.all)-len(b)], answer, want)
	}
	_, waits, fault := m.look()
	if r.Waits() != waits || r.Fault() != fault {
		t.Fatalf("behind % X %d wait, %v: want %d, %v", m.all, r.Waits(), r.Fault(), waits, fault)
	}
	return answer
}

// reads feeds a new Reader these bytes, one behind the other, and answers all records, and the fault.
func reads(t *testing.T, parts ...[]byte) ([]api.Record, api.Fault) {
	t.Helper()
	r, m := stream.New(), new(reader)
	var l []api.Record
	for _, b := range parts {
		l = append(l, feeds(t, r, m, b)...)
	}
	return l, r.Fault()
}

// faulty asks that a Reader of these bytes, in whatever pieces, answers the records and has the fault, and that nothing turns that any more.
func faulty(t *testing.T, b []byte, l []api.Record, fault api.Fault) {
	t.Helper()
	for _, size := range []int{len(b), 1, 7, 8, 77} {
		r, m := stream.New(), new(reader)
		var got []api.Record
		for part := range slices.Chunk(b, size) {
			got = append(got, feeds(t, r, m, part)...)
		}
		if !same(got, l) || r.Fault() != fault || r.Waits() != 0 {
			t.Fatalf("% X: %v, %v, %d wait: want %v, %v", b, got, r.Fault(), r.Waits(), l, fault)
		}
		for _, more := range [][]byte{nil, {0}, coded(head(1), tail(0)), number(701), noise(1, 800)} {
			if got := r.Feed(more); len(got) != 0 || r.Waits() != 0 || r.Fault() != fault {
				t.Fatalf("behind the fault %v Feed(% X): %v, %v, %d wait", fault, more, got, r.Fault(), r.Waits())
			}
		}
	}
}

// whole are streams, and lists of records that are none, each of which may be.
func whole() [][]api.Record {
	return [][]api.Record{
		nil,
		list(head(0)),
		list(tail(0)),
		list(head(9), written(0, 5), tail(1)),
		list(based(1, 2, 3, 4, 5), tail(6)),
		list(based(most, most, most, most, most), trimmed(most, most), tail(most)),
		list(written(most, big), trimmed(0, 1), written(0, 0)),
		list(head(1024), written(0, row(1, 64)...), written(64, row(big-70, 64)...), trimmed(200, 824), tail(3)),
		list(tail(3), head(2), head(2), written(7, make([]uint64, 63)...)),
		list(trimmed(1, 2), written(3, 1<<63, 1<<31, 1<<31+1, 1<<32, 0)),
	}
}

// The chapter's example: a full stream of one write has a Head, a Written, and a Tail 1.
func TestExample(t *testing.T) {
	h := based(0, 1, 0, 0, 4)
	want := list(h, written(2, 5), tail(1))
	l, err := build(t, h, does(write(2, 5)))
	if err != api.OK || !same(l, want) {
		t.Fatalf("Build: %v, %v: want %v", l, err, want)
	}
	if err := check(t, l); err != api.OK {
		t.Fatalf("Check(%v): %v", l, err)
	}
	b, err := encode(t, l)
	if err != api.OK || len(b) != 76+84+76 {
		t.Fatalf("Encode(%v): %d bytes, %v", l, len(b), err)
	}
	if got, fault := reads(t, b); !same(got, l) || fault != (api.Fault{}) {
		t.Fatalf("Feed: %v, %v: want %v", got, fault, l)
	}
}

// P10.1: which numbers each kind of record may have, all fields with one another.
func TestMay(t *testing.T) {
	some := []int{-1, 0, 1, most, most + 1}
	for kind := -1; kind <= 6; kind++ {
		for _, many := range []int{0, 1, 64, 65} {
			for i := range 5 * 5 * 5 * 5 * 5 * 5 {
				pick := func() int {
					n := some[i%5]
					i /= 5
					return n
				}
				r := api.Record{Kind: kind, Shard: pick(), Snap: pick(), Base: pick(), Map: pick(), Off: pick(), Len: pick(), Data: make([]uint64, many)}
				if got := stream.May(r); got != may(r) {
					t.Fatalf("May(%v): %v", r, got)
				}
			}
		}
	}
}

// P10.1: the ends of each field, one at a time, and of how many numbers Data has, which are any.
func TestMayEnds(t *testing.T) {
	ends := []int{math.MinInt, -most - 1, -most, -2, -1, 0, 1, 2, 3, 4, 5, 64, 1024, 1025, most - 1, most, most + 1, 1 << 32, 1<<32 + 1, math.MaxInt}
	for _, r := range list(based(1, 2, 3, 4, 5), head(0), written(1, 2), written(0, 0), trimmed(1, 2), trimmed(0, 1), tail(1), tail(0), api.Record{}) {
		for _, n := range ends {
			for _, turned := range list(
				api.Record{Kind: n, Shard: r.Shard, Snap: r.Snap, Base: r.Base, Map: r.Map, Off: r.Off, Len: r.Len, Data: r.Data},
				api.Record{Kind: r.Kind, Shard: n, Snap: r.Snap, Base: r.Base, Map: r.Map, Off: r.Off, Len: r.Len, Data: r.Data},
				api.Record{Kind: r.Kind, Shard: r.Shard, Snap: n, Base: r.Base, Map: r.Map, Off: r.Off, Len: r.Len, Data: r.Data},
				api.Record{Kind: r.Kind, Shard: r.Shard, Snap: r.Snap, Base: n, Map: r.Map, Off: r.Off, Len: r.Len, Data: r.Data},
				api.Record{Kind: r.Kind, Shard: r.Shard, Snap: r.Snap, Base: r.Base, Map: n, Off: r.Off, Len: r.Len, Data: r.Data},
				api.Record{Kind: r.Kind, Shard: r.Shard, Snap: r.Snap, Base: r.Base, Map: r.Map, Off: n, Len: r.Len, Data: r.Data},
				api.Record{Kind: r.Kind, Shard: r.Shard, Snap: r.Snap, Base: r.Base, Map: r.Map, Off: r.Off, Len: n, Data: r.Data},
			) {
				if got := stream.May(turned); got != may(turned) {
					t.Fatalf("May(%v): %v", turned, got)
				}
			}
		}
		for many := range 140 {
			for _, first := range []uint64{0, 1, most + 1, 1 << 63, big} {
				r.Data = make([]uint64, many)
				fill(r.Data, first)
				if got := stream.May(r); got != may(r) {
					t.Fatalf("May(%v): %v", r, got)
				}
			}
		}
	}
}

// P10.1, R6: a Data that is empty is as one that is nil.
func TestMayEmpty(t *testing.T) {
	for _, l := range whole() {
		for _, r := range l {
			if len(r.Data) == 0 {
				r.Data = []uint64{}
			}
			if !stream.May(r) {
				t.Fatalf("May(%v): false", r)
			}
			c := roomy(list(r))
			stream.May(c[0])
			stays(t, c, list(r))
		}
	}
	if stream.May(api.Record{Kind: api.Written, Data: []uint64{}}) {
		t.Fatal("a Written without numbers may be")
	}
}

// P10.1: records' bytes, one record's written out.
func TestEncode(t *testing.T) {
	b, err := encode(t, list(trimmed(258, 1)))
	want := []byte{
		68, 0, 0, 0, 0, 0, 0, 0,
		3, 0, 0, 0, 0, 0, 0, 0,
		0, 0, 0, 0, 0, 0, 0, 0,
		0, 0, 0, 0, 0, 0, 0, 0,
		0, 0, 0, 0, 0, 0, 0, 0,
		0, 0, 0, 0, 0, 0, 0, 0,
		2, 1, 0, 0, 0, 0, 0, 0,
		1, 0, 0, 0, 0, 0, 0, 0,
		0, 0, 0, 0, 0, 0, 0, 0,
		// The sum's upper number is 64*1 + 64*3 + 24*2 + 23*1 + 16*1, its lower one 1 + 3 + 2 + 1 + 1.
		1, 87, 0, 8,
	}
	if err != api.OK || !bytes.Equal(b, want) {
		t.Fatalf("Encode: % X, %v: want % X", b, err, want)
	}
	for _, l := range whole() {
		b, err := encode(t, l)
		if want := coded(l...); err != api.OK || !bytes.Equal(b, want) {
			t.Fatalf("Encode(%v): % X, %v: want % X", l, b, err, want)
		}
	}
	if b, err := stream.Encode(); err != api.OK || len(b) != 0 {
		t.Fatalf("Encode of none: % X, %v", b, err)
	}
}

// P10.1: each field stands at its place.
func TestEncodeFields(t *testing.T) {
	for n := 1; n <= 64; n++ {
		l := list(based(n, 2*n, 3*n, 4*n, 5*n), written(n, row(uint64(n)<<40, n)...), trimmed(6*n, 7*n), tail(8*n))
		b, err := encode(t, l)
		if want := coded(l...); err != api.OK || !bytes.Equal(b, want) {
			t.Fatalf("Encode(%v): % X, %v: want % X", l, b, err, want)
		}
	}
}

// wrong are records that may not be.
func wrong() []api.Record {
	return list(
		api.Record{},
		api.Record{Kind: 5},
		api.Record{Kind: -1},
		api.Record{Kind: math.MinInt},
		head(-1),
		head(most+1),
		based(-1, 0, 0, 0, 0),
		based(0, -1, 0, 0, 0),
		based(0, 0, most+1, 0, 0),
		based(0, 0, 0, math.MaxInt, 0),
		api.Record{Kind: api.Head, Off: 1},
		api.Record{Kind: api.Head, Data: []uint64{0}},
		written(0),
		written(0, make([]uint64, 65)...),
		written(-1, 5),
		written(most+1, 5),
		api.Record{Kind: api.Written, Len: 1, Data: []uint64{5}},
		api.Record{Kind: api.Written, Snap: 1, Data: []uint64{5}},
		trimmed(0, 0),
		trimmed(0, -1),
		trimmed(-1, 1),
		trimmed(0, most+1),
		api.Record{Kind: api.Trimmed, Len: 1, Data: []uint64{0}},
		api.Record{Kind: api.Trimmed, Len: 1, Map: 1},
		tail(-1),
		tail(most+1),
		api.Record{Kind: api.Tail, Off: 1},
		api.Record{Kind: api.Tail, Data: []uint64{0}},
	)
}

// P10.1, R7: one that is no record, wherever it stands, is ErrArg, and nothing is encoded.
func TestEncodeWrong(t *testing.T) {
	full := slices.Repeat(list(tail(1)), 900)
	for _, r := range wrong() {
		for _, l := range append(whole(), full) {
			for _, at := range []int{0, len(l) / 2, len(l)} {
				if b, err := encode(t, slices.Insert(slices.Clone(l), at, r)); err != api.ErrArg || len(b) != 0 {
					t.Fatalf("Encode with %v at %d: %d bytes, %v: want none, ErrArg", r, at, len(b), err)
				}
			}
		}
	}
}

// P10.1: as many bytes as 2^16 are encoded, and not one record more.
func TestEncodeMany(t *testing.T) {
	// A record has 76 bytes, and 8 for each number of its Data.
	l := slices.Repeat(list(trimmed(1, 1)), 862)
	for _, c := range []struct {
		data int
		err  api.Errno
	}{
		{0, api.OK},
		{1, api.OK},
		{2, api.OK},
		{3, api.OK},
		{4, api.ErrMany},
		{64, api.ErrMany},
	} {
		for _, at := range []int{0, 500, 861} {
			turned := slices.Clone(l)
			if c.data > 0 {
				turned[at] = written(1, make([]uint64, c.data)...)
			}
			b, err := encode(t, turned)
			want := coded(turned...)
			if c.err != api.OK {
				want = nil
			}
			if err != c.err || !bytes.Equal(b, want) {
				t.Fatalf("Encode of %d bytes: %d bytes, %v: want %v", len(coded(turned...)), len(b), err, c.err)
			}
		}
	}
	for _, n := range []int{863, 1000, 5000} {
		if b, err := stream.Encode(slices.Repeat(list(head(n)), n)...); err != api.ErrMany || len(b) != 0 {
			t.Fatalf("Encode of %d records: %d bytes, %v: want none, ErrMany", n, len(b), err)
		}
	}
	if got := len(coded(append(slices.Repeat(list(tail(0)), 861), written(0, 1, 2, 3))...)); got != api.MaxBytes {
		t.Fatalf("the greatest list has %d bytes", got)
	}
}

// P10.1: whether two lists are the same, in every field and number.
func TestSame(t *testing.T) {
	r := api.Record{Kind: 1, Shard: 2, Snap: 3, Base: 4, Map: 5, Off: 6, Len: 7, Data: []uint64{8, 9}}
	unlike := list(r, r, r, r, r, r, r, r, r, r, r, r, r)
	unlike[0].Kind++
	unlike[1].Shard++
	unlike[2].Snap++
	unlike[3].Base++
	unlike[4].Map++
	unlike[5].Off++
	unlike[6].Len++
	unlike[7].Data = []uint64{9, 9}
	unlike[8].Data = []uint64{8, 8}
	unlike[9].Data = []uint64{8}
	unlike[10].Data = []uint64{8, 9, 0}
	unlike[11].Data = nil
	unlike[12].Data = []uint64{9, 8}
	lists := [][]api.Record{nil, list(r), list(r, r), list(api.Record{}), list(api.Record{}, r), list(r, api.Record{}), list(api.Record{Data: []uint64{0}})}
	for _, u := range unlike {
		lists = append(lists, list(u), list(u, r), list(r, u), list(r, u, r))
	}
	lists = append(lists, whole()...)
	for _, w := range wrong() {
		lists = append(lists, list(w))
	}
	for _, a := range lists {
		for _, b := range lists {
			x, y := roomy(a), roomy(b)
			if got := stream.Same(x, y); got != same(a, b) {
				t.Fatalf("Same(%v, %v): %v", a, b, got)
			}
			stays(t, x, a)
			stays(t, y, b)
		}
	}
}

// P10.1, R6: nil and empty are the same.
func TestSameEmpty(t *testing.T) {
	if !stream.Same(nil, []api.Record{}) || !stream.Same([]api.Record{}, nil) {
		t.Fatal("a list that is nil and one that is empty are not the same")
	}
	a, b := head(1), head(1)
	b.Data = []uint64{}
	if !stream.Same(list(a), list(b)) || !stream.Same(list(b), list(a)) {
		t.Fatal("a Data that is nil and one that is empty are not the same")
	}
}

// P10.2: a new Reader has nothing, and none that New did not give answers anything.
func TestReaderNone(t *testing.T) {
	r := stream.New()
	if r.Waits() != 0 || r.Fault() != (api.Fault{}) {
		t.Fatalf("a new Reader: %d wait, %v", r.Waits(), r.Fault())
	}
	for _, b := range [][]byte{nil, {}} {
		if l := r.Feed(b); len(l) != 0 || r.Waits() != 0 || r.Fault() != (api.Fault{}) {
			t.Fatalf("Feed of no bytes: %v, %d wait, %v", l, r.Waits(), r.Fault())
		}
	}
	for _, r := range []*stream.Reader{nil, {}, new(stream.Reader)} {
		for _, b := range [][]byte{nil, {1}, coded(head(1), tail(0)), number(701), figures(0, 0), noise(2, 900), coded(tail(1))} {
			if l := r.Feed(b); len(l) != 0 || r.Waits() != 0 || r.Fault() != (api.Fault{}) {
				t.Fatalf("a Reader that New did not give: Feed(% X): %v, %d wait, %v", b, l, r.Waits(), r.Fault())
			}
		}
	}
}

// P10.2, P10.4: what is encoded is read, cut at each place, at every two places of a short one, byte by byte, and in pieces of one size.
func TestReadCut(t *testing.T) {
	for _, l := range whole() {
		b, err := encode(t, l)
		if err != api.OK {
			t.Fatal(l, err)
		}
		asks := func(parts ...[]byte) {
			t.Helper()
			if got, fault := reads(t, parts...); !same(got, l) || fault != (api.Fault{}) {
				t.Fatalf("%v is read as %v, %v", l, got, fault)
			}
		}
		for i := range len(b) + 1 {
			asks(b[:i], b[i:])
			asks(b[:i], nil, b[i:], nil)
		}
		for _, size := range []int{1, 2, 3, 8, 75, 76, 77, 600} {
			asks(slices.Collect(slices.Chunk(b, size))...)
		}
	}
	l := list(head(9), written(0, 5), tail(1))
	b := coded(l...)
	for i := range len(b) + 1 {
		for k := i; k <= len(b); k++ {
			if got, fault := reads(t, b[:i], b[i:k], b[k:]); !same(got, l) || fault != (api.Fault{}) {
				t.Fatalf("%v, cut at %d and %d, is read as %v, %v", l, i, k, got, fault)
			}
		}
	}
}

// P10.2, P10.4: long lists, in pieces of any size.
func TestReadLong(t *testing.T) {
	dice := rand.New(rand.NewSource(3))
	for range 40 {
		l := chance(dice, 60)
		b, err := encode(t, l)
		if err != api.OK {
			t.Fatal(l, err)
		}
		var parts [][]byte
		for rest := b; len(rest) > 0; {
			n := min(len(rest), dice.Intn(400))
			parts, rest = append(parts, rest[:n]), rest[n:]
		}
		if got, fault := reads(t, parts...); !same(got, l) || fault != (api.Fault{}) {
			t.Fatalf("%v is read as %v, %v", l, got, fault)
		}
	}
}

// chance are so many records that may be.
func chance(dice *rand.Rand, many int) []api.Record {
	n := func() int { return []int{0, 1, dice.Intn(1025), dice.Intn(most), most}[dice.Intn(5)] }
	var l []api.Record
	for range many {
		switch dice.Intn(4) {
		case 0:
			l = append(l, based(n(), n(), n(), n(), n()))
		case 1:
			data := make([]uint64, 1+dice.Intn(64))
			for i := range data {
				data[i] = dice.Uint64() >> dice.Intn(64)
			}
			l = append(l, written(n(), data...))
		case 2:
			l = append(l, trimmed(n(), max(1, n())))
		case 3:
			l = append(l, tail(n()))
		}
	}
	return l
}

// P10.2: a record is answered by the byte that makes it whole, and not ahead of it.
func TestFeedLast(t *testing.T) {
	r := stream.New()
	for i, record := range list(head(9), written(0, row(1, 64)...), tail(1)) {
		b := coded(record)
		for at := range b {
			l := r.Feed(b[at : at+1])
			if at < len(b)-1 && (len(l) != 0 || r.Waits() != at+1) || at == len(b)-1 && (!same(l, list(record)) || r.Waits() != 0) {
				t.Fatalf("record %d, byte %d of %d: %v, %d wait", i, at, len(b), l, r.Waits())
			}
			if r.Fault() != (api.Fault{}) {
				t.Fatal(r.Fault())
			}
		}
	}
}

// P10.2: a record that tells of more than 700 bytes is one too many as soon as it does so, and not ahead.
func TestFaultMany(t *testing.T) {
	for _, ahead := range [][]api.Record{nil, list(head(1)), list(head(1), written(3, row(1, 64)...), tail(2))} {
		b := coded(ahead...)
		at := len(b)
		for _, n := range []uint64{701, 702, 703, 1 << 10, 1 << 16, most - 1, most, most + 1, 1 << 32, 1<<32 + 68, 1<<40 + 68, 1<<56 + 68, 1 << 63, 1<<63 + 68, big} {
			faulty(t, slices.Concat(b, number(n)), ahead, api.Fault{Why: api.ErrMany, At: at})
			faulty(t, slices.Concat(b, number(n), noise(4, 900)), ahead, api.Fault{Why: api.ErrMany, At: at})
			r := stream.New()
			r.Feed(slices.Concat(b, number(n)[:7]))
			if r.Fault() != (api.Fault{}) || r.Waits() != 7 {
				t.Fatalf("seven bytes of %d: %v, %d wait", n, r.Fault(), r.Waits())
			}
		}
		for _, n := range []uint64{4, 68, 580, 588, 589, 699, 700} {
			r := stream.New()
			r.Feed(slices.Concat(b, number(n), make([]byte, n-1)))
			if r.Fault() != (api.Fault{}) || r.Waits() != 8+int(n)-1 {
				t.Fatalf("all but one byte of %d: %v, %d wait", n, r.Fault(), r.Waits())
			}
		}
	}
}

// P10.2: a sum that does not fit, also where there is no room for one.
func TestFaultSum(t *testing.T) {
	for _, ahead := range [][]api.Record{nil, list(tail(1)), list(head(1), written(3, row(1, 64)...), tail(2))} {
		b := coded(ahead...)
		for n := range 701 {
			if n < 4 {
				faulty(t, slices.Concat(b, number(uint64(n)), make([]byte, n)), ahead, api.Fault{Why: api.ErrSum, At: len(b)})
				continue
			}
			if n > 80 && n%50 != 0 {
				continue
			}
			faulty(t, slices.Concat(b, number(uint64(n)), make([]byte, n)), ahead, api.Fault{Why: api.ErrSum, At: len(b)})
		}
		good := coded(trimmed(5, 6))
		for i := 8; i < len(good); i++ {
			bad := bytes.Clone(good)
			bad[i] ^= 1
			faulty(t, slices.Concat(b, bad, good), ahead, api.Fault{Why: api.ErrSum, At: len(b)})
		}
	}
}

// P10.2: bytes whose sum fits, and that are no record's.
func TestFaultForm(t *testing.T) {
	bad := [][]byte{
		sealed(nil),
		sealed([]byte{1}),
		sealed(figures(1)),
		sealed(figures(1, 0, 0, 0, 0, 0, 0)),
		sealed(append(figures(1, 0, 0, 0, 0, 0, 0, 0), 0)),
		sealed(figures(1, 0, 0, 0, 0, 0, 0, 0)[:63]),
		sealed(figures(1, 0, 0, 0, 0, 0, 0, 0, 0)),
		sealed(figures(1, 0, 0, 0, 0, 0, 0, 1)),
		sealed(figures(2, 0, 0, 0, 0, 0, 0, 0)),
		sealed(figures(2, 0, 0, 0, 0, 0, 0, 1)),
		sealed(figures(2, 0, 0, 0, 0, 0, 0, 2, 5)),
		sealed(figures(2, 0, 0, 0, 0, 0, 0, 1, 5, 6)),
		sealed(figures(2, 0, 0, 0, 0, 0, 0, 0, 5)),
		sealed(append(figures(2, 0, 0, 0, 0, 0, 0, 1, 5), 6)),
		sealed(figures(2, 0, 0, 0, 0, 0, 0, 1, 5)[:71]),
		sealed(figures(append([]uint64{2, 0, 0, 0, 0, 0, 0, 65}, make([]uint64, 65)...)...)),
		sealed(figures(append([]uint64{2, 0, 0, 0, 0, 0, 0, 64}, make([]uint64, 65)...)...)),
		sealed(figures(append([]uint64{2, 0, 0, 0, 0, 0, 0, 65}, make([]uint64, 64)...)...)),
		sealed(figures(append([]uint64{2, 0, 0, 0, 0, 0, 0, 78}, make([]uint64, 78)...)...)),
		sealed(figures(2, 0, 0, 0, 0, 0, 0, 1<<32+1, 5)),
		sealed(figures(2, 0, 0, 0, 0, 0, 0, 1<<63+1, 5)),
		sealed(figures(2, 0, 0, 0, 0, 0, 0, big, 5)),
		sealed(make([]byte, 64)),
		sealed(make([]byte, 696)),
		sealed(noise(5, 64)),
	}
	for i := range 8 {
		for _, n := range []uint64{most + 1, 1 << 32, 1<<32 + 1, 1 << 63, 1<<63 + 1, big} {
			numbers := []uint64{1, 0, 0, 0, 0, 0, 0, 0}
			numbers[i] += n
			bad = append(bad, sealed(figures(numbers...)))
		}
	}
	for _, r := range wrong() {
		bad = append(bad, coded(r))
	}
	for _, ahead := range [][]api.Record{nil, list(tail(1)), list(head(1), written(3, row(1, 64)...), tail(2))} {
		b := coded(ahead...)
		for _, one := range bad {
			faulty(t, slices.Concat(b, one), ahead, api.Fault{Why: api.ErrForm, At: len(b)})
			faulty(t, slices.Concat(b, one, coded(tail(1))), ahead, api.Fault{Why: api.ErrForm, At: len(b)})
		}
	}
}

// P10.2: a Reader does not ask for the order of a stream: whatever is a record is answered.
func TestReadNoStream(t *testing.T) {
	l := list(tail(9), tail(9), head(2000), trimmed(most, most), trimmed(0, 1), head(1), written(7, 7))
	if got, fault := reads(t, coded(l...)); !same(got, l) || fault != (api.Fault{}) {
		t.Fatalf("%v is read as %v, %v", l, got, fault)
	}
}

// P10.2: bytes of any kind, in pieces of any size.
func TestReadNoise(t *testing.T) {
	dice := rand.New(rand.NewSource(6))
	for range 4000 {
		b := coded(chance(dice, dice.Intn(6))...)
		for range dice.Intn(4) {
			switch at := dice.Intn(len(b) + 1); {
			case dice.Intn(3) == 0:
				b = slices.Insert(b, at, noise(dice.Int63(), dice.Intn(20))...)
			case at < len(b) && dice.Intn(2) == 0:
				b = slices.Delete(b, at, min(len(b), at+1+dice.Intn(20)))
			case at < len(b):
				b[at] ^= byte(1 << dice.Intn(8))
			}
		}
		r, m := stream.New(), new(reader)
		for rest := b; len(rest) > 0; {
			n := min(len(rest), 1+dice.Intn(300))
			feeds(t, r, m, rest[:n])
			rest = rest[n:]
		}
	}
}

// P10.5: what a byte was turned of is read up to the record that has it, and no farther.
func TestReadTurned(t *testing.T) {
	l := list(based(1, 2, 3, 4, 900), written(5, 6, big), trimmed(9, 100), tail(2))
	b := coded(l...)
	var begins []int
	for i := range l {
		begins = append(begins, len(coded(l[:i]...)))
	}
	for at := range b {
		first, _ := slices.BinarySearch(begins, at+1)
		first--
		for turn := 1; turn < 256; turn++ {
			turned := bytes.Clone(b)
			turned[at] ^= byte(turn)
			got, fault := reads(t, turned)
			if !same(got, l[:first]) {
				t.Fatalf("byte %d turned by %d: %v, %v: want %v", at, turn, got, fault, l[:first])
			}
			if fault != (api.Fault{}) && fault.At != begins[first] {
				t.Fatalf("byte %d turned by %d: %v: want it at %d", at, turn, fault, begins[first])
			}
			if at-begins[first] >= 8 && fault.Why != api.ErrSum {
				t.Fatalf("byte %d turned by %d: %v: want ErrSum", at, turn, fault)
			}
		}
	}
}

// P10.2: the bytes of a fault are counted from the first one that was fed, over all Feeds.
func TestFaultPlace(t *testing.T) {
	r, at := stream.New(), 0
	for i := range 2000 {
		b := coded(written(i, row(uint64(i), 1+i%64)...))
		if l := r.Feed(b); len(l) != 1 || r.Fault() != (api.Fault{}) {
			t.Fatal(i, l, r.Fault())
		}
		at += len(b)
	}
	r.Feed([]byte{1, 2, 3})
	r.Feed(number(big))
	if want := (api.Fault{Why: api.ErrMany, At: at}); r.Fault() != want {
		t.Fatalf("%v: want %v", r.Fault(), want)
	}
}

// R3: Readers stand apart.
func TestReadersApart(t *testing.T) {
	l := list(head(9), written(0, 5), tail(1))
	b := coded(l...)
	x, y, z := stream.New(), stream.New(), stream.New()
	m, n := new(reader), new(reader)
	z.Feed(number(big))
	for i := range b {
		feeds(t, x, m, b[i:i+1])
		feeds(t, y, n, b[i:min(i+1, len(b)-1)])
	}
	if x.Waits() != 0 || y.Waits() != 75 || z.Waits() != 0 || z.Fault().Why != api.ErrMany {
		t.Fatal(x.Waits(), y.Waits(), z.Waits(), z.Fault())
	}
}

// checked is what Check should answer.
func checked(l []api.Record) api.Errno {
	for _, r := range l {
		if !may(r) {
			return api.ErrArg
		}
	}
	if len(l) < 2 || l[0].Kind != 1 || l[len(l)-1].Kind != 4 {
		return api.ErrOrder
	}
	between := l[1 : len(l)-1]
	for _, r := range between {
		if r.Kind == 1 || r.Kind == 4 {
			return api.ErrOrder
		}
	}
	n := l[0].Len
	if n > 1024 {
		return api.ErrMany
	}
	end := 0
	for _, r := range between {
		count := r.Len
		if r.Kind == 2 {
			count = len(r.Data)
		}
		if r.Off < end || r.Off+count > n {
			return api.ErrForm
		}
		end = r.Off + count
	}
	if l[len(l)-1].Len != len(between) {
		return api.ErrEnd
	}
	return api.OK
}

// opsOf are a stream's ops.
func opsOf(l []api.Record) []api.Op {
	var some []api.Op
	for _, r := range l[1 : len(l)-1] {
		some = append(some, api.Op{Kind: r.Kind - 1, Off: r.Off, Len: r.Len, Data: r.Data})
	}
	return some
}

// asks asks Check and Ops of a list for what they should answer.
func asks(t *testing.T, l []api.Record) {
	t.Helper()
	want := checked(l)
	if got := check(t, l); got != want {
		t.Fatalf("Check(%v): %v: want %v", l, got, want)
	}
	var does []api.Op
	if want == api.OK {
		does = opsOf(l)
	}
	if got, err := ops(t, l); err != want || !sameOps(got, does) {
		t.Fatalf("Ops(%v): %v, %v: want %v, %v", l, got, err, does, want)
	}
}

// P10.3: what is wrong with a list, and the first error where several are.
func TestCheck(t *testing.T) {
	for _, c := range []struct {
		l    []api.Record
		want api.Errno
	}{
		{list(head(0), tail(0)), api.OK},
		{list(head(1024), tail(0)), api.OK},
		{list(head(1), written(0, 0), tail(1)), api.OK},
		{list(head(4), written(0, 1, 2), trimmed(2, 1), written(3, 1), tail(3)), api.OK},
		{list(head(4), trimmed(0, 4), tail(1)), api.OK},
		{list(head(4), trimmed(3, 1), tail(1)), api.OK},
		{list(head(1024), trimmed(0, 1024), tail(1)), api.OK},
		{list(head(1024), trimmed(1023, 1), tail(1)), api.OK},
		{list(head(64), written(0, row(1, 64)...), tail(1)), api.OK},
		{list(based(most, most, most, most, 4), trimmed(1, 1), tail(1)), api.OK},
		{nil, api.ErrOrder},
		{list(head(4)), api.ErrOrder},
		{list(tail(0)), api.ErrOrder},
		{list(written(0, 1)), api.ErrOrder},
		{list(tail(0), head(4)), api.ErrOrder},
		{list(head(4), head(4), tail(0)), api.ErrOrder},
		{list(head(4), trimmed(0, 1), head(4), tail(1)), api.ErrOrder},
		{list(head(4), tail(0), head(4)), api.ErrOrder},
		{list(head(4), tail(0), tail(0)), api.ErrOrder},
		{list(head(4), tail(1), trimmed(0, 1)), api.ErrOrder},
		{list(head(4), tail(1), trimmed(0, 1), tail(1)), api.ErrOrder},
		{list(head(4), trimmed(0, 1)), api.ErrOrder},
		{list(trimmed(0, 1), tail(1)), api.ErrOrder},
		{list(trimmed(0, 1), head(4), tail(1)), api.ErrOrder},
		{list(head(1025), tail(0)), api.ErrMany},
		{list(head(most), tail(0)), api.ErrMany},
		{list(head(1025), trimmed(0, 1), tail(1)), api.ErrMany},
		{list(head(0), trimmed(0, 1), tail(1)), api.ErrForm},
		{list(head(4), trimmed(4, 1), tail(1)), api.ErrForm},
		{list(head(4), trimmed(0, 5), tail(1)), api.ErrForm},
		{list(head(4), trimmed(most, most), tail(1)), api.ErrForm},
		{list(head(4), written(3, 1, 2), tail(1)), api.ErrForm},
		{list(head(1024), trimmed(0, 1025), tail(1)), api.ErrForm},
		{list(head(1024), trimmed(1024, 1), tail(1)), api.ErrForm},
		{list(head(4), trimmed(1, 1), trimmed(0, 1), tail(2)), api.ErrForm},
		{list(head(4), trimmed(1, 1), trimmed(1, 1), tail(2)), api.ErrForm},
		{list(head(4), trimmed(0, 2), trimmed(1, 1), tail(2)), api.ErrForm},
		{list(head(4), written(0, 1, 2), written(1, 2, 3), tail(2)), api.ErrForm},
		{list(head(4), trimmed(0, 3), trimmed(1, 1), trimmed(2, 1), tail(3)), api.ErrForm},
		{list(head(4), tail(1)), api.ErrEnd},
		{list(head(4), trimmed(0, 1), tail(0)), api.ErrEnd},
		{list(head(4), trimmed(0, 1), tail(2)), api.ErrEnd},
		{list(head(4), trimmed(0, 1), tail(3)), api.ErrEnd},
		{list(head(4), trimmed(0, 1), tail(most)), api.ErrEnd},
		{list(tail(0), head(-1)), api.ErrArg},
		{list(head(4), tail(0), trimmed(0, 0)), api.ErrArg},
		{list(head(2000), written(0), tail(1)), api.ErrArg},
		{list(head(4), trimmed(4, 1), tail(-1)), api.ErrArg},
		{list(head(2000), trimmed(0, 1)), api.ErrOrder},
		{list(head(2000), head(4), tail(1)), api.ErrOrder},
		{list(head(4), trimmed(9, 1)), api.ErrOrder},
		{list(head(2000), trimmed(3000, 1), tail(1)), api.ErrMany},
		{list(head(2000), trimmed(1, 1), trimmed(0, 1), tail(2)), api.ErrMany},
		{list(head(2000), tail(5)), api.ErrMany},
		{list(head(4), trimmed(4, 1), tail(5)), api.ErrForm},
	} {
		if checked(c.l) != c.want {
			t.Fatalf("the test's own: %v: %v: want %v", c.l, checked(c.l), c.want)
		}
		asks(t, c.l)
	}
	for _, l := range whole() {
		asks(t, l)
	}
}

// P10.3: every list of up to five of some records.
func TestCheckAll(t *testing.T) {
	some := list(head(3), head(1025), written(0, 7), written(1, 8, 9), trimmed(0, 2), trimmed(2, 1), trimmed(3, 1), tail(0), tail(1), tail(3), trimmed(0, 0))
	var goOn func(l []api.Record)
	goOn = func(l []api.Record) {
		if got, want := stream.Check(l), checked(l); got != want {
			t.Fatalf("Check(%v): %v: want %v", l, got, want)
		}
		if len(l) < 4 {
			asks(t, l)
		}
		if len(l) == 5 {
			return
		}
		for _, r := range some {
			goOn(append(slices.Clone(l), r))
		}
	}
	goOn(nil)
}

// P10.3: whichever is no record, wherever it stands.
func TestCheckWrong(t *testing.T) {
	good := list(head(9), written(0, 5), trimmed(3, 4), tail(2))
	for _, r := range wrong() {
		for at := range good {
			l := slices.Clone(good)
			l[at] = r
			asks(t, l)
			asks(t, slices.Insert(slices.Clone(good), at, r))
		}
		asks(t, append(slices.Clone(good), r))
		asks(t, list(r))
	}
}

// built is what Build should answer.
func built(h api.Record, l []api.Op) ([]api.Record, api.Errno) {
	if h.Kind != 1 || !may(h) {
		return nil, api.ErrArg
	}
	records := list(h)
	for _, o := range l {
		if o.Kind != 1 && o.Kind != 2 {
			return nil, api.ErrArg
		}
		records = append(records, api.Record{Kind: o.Kind + 1, Off: o.Off, Len: o.Len, Data: o.Data})
	}
	records = append(records, tail(len(l)))
	if err := checked(records); err != api.OK {
		return nil, err
	}
	return records, api.OK
}

// builds asks Build for what it should answer, and that Ops goes back.
func builds(t *testing.T, h api.Record, l []api.Op) {
	t.Helper()
	want, why := built(h, l)
	got, err := build(t, h, l)
	if err != why || !same(got, want) {
		t.Fatalf("Build(%v, %v): %v, %v: want %v, %v", h, l, got, err, want, why)
	}
	if err != api.OK {
		return
	}
	if back, err := ops(t, got); err != api.OK || !sameOps(back, l) {
		t.Fatalf("Ops(Build(%v, %v)): %v, %v", h, l, back, err)
	}
	asks(t, got)
}

// P10.3, P10.6: heads that may be, and that may not.
func TestBuildHead(t *testing.T) {
	some := [][]api.Op{nil, {}, does(trim(0, 1)), does(write(0, 5)), does(trim(5, 1)), does(oddOp())}
	for _, l := range some {
		for _, h := range wrong() {
			builds(t, h, l)
		}
		for _, h := range list(head(0), head(1), head(1024), head(1025), head(most), based(1, 2, 3, 4, 5), based(most, most, most, most, 9), based(0, 0, 7, 0, 3), tail(0), tail(1), trimmed(0, 1), written(0, 1)) {
			builds(t, h, l)
			if len(h.Data) == 0 {
				h.Data = []uint64{}
				builds(t, h, l)
			}
		}
	}
	if l, err := stream.Build(tail(0), nil); err != api.ErrArg || len(l) != 0 {
		t.Fatalf("Build of a Tail: %v, %v: want none, ErrArg", l, err)
	}
	if l, err := stream.Build(head(1025), nil); err != api.ErrMany || len(l) != 0 {
		t.Fatalf("Build of 1025 blocks: %v, %v: want none, ErrMany", l, err)
	}
}

// P10.3, P10.6: ops, each as it is, and those that may not be.
func TestBuildOps(t *testing.T) {
	for _, c := range []struct {
		l    []api.Op
		want api.Errno
	}{
		{nil, api.OK},
		{does(write(0, 1)), api.OK},
		{does(write(0, 0)), api.OK},
		{does(trim(0, 9)), api.OK},
		{does(write(0, 1), write(1, 2), trim(2, 1), trim(3, 1), write(4, 0, 0)), api.OK},
		{does(write(8, big)), api.OK},
		{does(trim(1, 2), trim(4, 5)), api.OK},
		{does(trim(0, 10)), api.ErrForm},
		{does(trim(9, 1)), api.ErrForm},
		{does(write(8, 1, 2)), api.ErrForm},
		{does(write(0, row(1, 64)...)), api.ErrForm},
		{does(trim(3, 1), trim(2, 1)), api.ErrForm},
		{does(trim(2, 1), trim(2, 1)), api.ErrForm},
		{does(write(2, 1, 2), trim(3, 1)), api.ErrForm},
		{does(trim(most, 1)), api.ErrForm},
		{does(write(0)), api.ErrArg},
		{does(write(0, row(1, 65)...)), api.ErrArg},
		{does(write(-1, 5)), api.ErrArg},
		{does(trim(0, 0)), api.ErrArg},
		{does(trim(0, -1)), api.ErrArg},
		{does(trim(-1, 2)), api.ErrArg},
		{does(trim(most+1, 1)), api.ErrArg},
		{does(trim(math.MaxInt, math.MaxInt)), api.ErrArg},
		{does(trim(9, 1), trim(0, 0)), api.ErrArg},
		{does(api.Op{Kind: api.Write, Len: 1, Data: []uint64{5}}), api.ErrArg},
		{does(api.Op{Kind: api.Trim, Len: 1, Data: []uint64{5}}), api.ErrArg},
		{does(api.Op{}), api.ErrArg},
		{does(api.Op{Len: 4}), api.ErrArg},
		{does(api.Op{Data: []uint64{5}}), api.ErrArg},
		{does(api.Op{Kind: 3, Len: 1}), api.ErrArg},
		{does(api.Op{Kind: 3, Data: []uint64{5}}), api.ErrArg},
		{does(api.Op{Kind: 4}), api.ErrArg},
		{does(api.Op{Kind: -1}), api.ErrArg},
		{does(api.Op{Kind: math.MaxInt}), api.ErrArg},
		{does(api.Op{Kind: math.MinInt}), api.ErrArg},
	} {
		if _, err := built(head(9), c.l); err != c.want {
			t.Fatalf("the test's own: %v: %v: want %v", c.l, err, c.want)
		}
		builds(t, head(9), c.l)
		builds(t, head(2000), c.l)
	}
	for kind := -2; kind <= 6; kind++ {
		for _, o := range does(write(0, 5), trim(0, 1), api.Op{}, api.Op{Len: 9}, api.Op{Off: 3}) {
			o.Kind = kind
			builds(t, head(9), does(o))
			builds(t, head(9), does(o, o))
			builds(t, head(9), does(trim(0, 1), o))
		}
	}
}

// P10.3, R6: an op's Data that is empty is as one that is nil.
func TestBuildEmpty(t *testing.T) {
	o := trim(1, 2)
	o.Data = []uint64{}
	builds(t, head(9), does(o))
	builds(t, head(9), does(api.Op{Kind: api.Write, Data: []uint64{}}))
}

// P10.6: Build and Ops go back to one another, with whatever layer 8 tells shortly of two volumes, and also over the bytes.
func TestBackAndForth(t *testing.T) {
	dice := rand.New(rand.NewSource(7))
	for range 300 {
		n := dice.Intn(300)
		if dice.Intn(20) == 0 {
			n = 1024
		}
		a, b := make([]uint64, n), make([]uint64, n)
		for i := range n {
			a[i], b[i] = uint64(dice.Intn(3)), uint64(dice.Intn(3))
		}
		l, _ := blocks.Diff(a, b)
		h := based(dice.Intn(16), dice.Intn(100), dice.Intn(100), dice.Intn(9), n)
		builds(t, h, l)
		records, err := stream.Build(h, l)
		if err != api.OK || check(t, records) != api.OK {
			t.Fatalf("Build(%v, %v): %v", h, l, err)
		}
		coded, err := encode(t, records)
		if len(records) > 700 {
			continue
		}
		if err != api.OK {
			t.Fatal(len(records), err)
		}
		got, fault := reads(t, slices.Collect(slices.Chunk(coded, 1+dice.Intn(900)))...)
		if !same(got, records) || fault != (api.Fault{}) {
			t.Fatalf("%v is read as %v, %v", records, got, fault)
		}
		back, _ := ops(t, got)
		if v, err := blocks.Apply(a, back...); err != api.OK || !slices.Equal(v, b) {
			t.Fatalf("%v, taken at %v, makes %v, %v: want %v", back, a, v, err, b)
		}
	}
}

// R4: what was handed to Build and answered by Ops stands apart, call by call.
func TestApart(t *testing.T) {
	data := []uint64{5, 6}
	l, _ := stream.Build(head(9), does(write(0, data...), write(2, data...)))
	data[0] = mark
	want := list(head(9), written(0, 5, 6), written(2, 5, 6), tail(2))
	if !same(l, want) {
		t.Fatalf("%v: want %v", l, want)
	}
	one, _ := stream.Ops(l)
	two, _ := stream.Ops(l)
	spoilOps(t, one)
	if !sameOps(two, does(write(0, 5, 6), write(2, 5, 6))) || !same(l, want) {
		t.Fatalf("%v, %v", two, l)
	}
	spoil(t, l)
	if !sameOps(two, does(write(0, 5, 6), write(2, 5, 6))) {
		t.Fatalf("%v", two)
	}
}
