package pack_test

import (
	"bytes"
	"encoding/binary"
	"math"
	"math/rand"
	"slices"
	"testing"

	"jackstay/api"
	"jackstay/pack"
)

// of are numbers' bytes, as a library of others has them.
func of(numbers ...uint64) []byte {
	var b []byte
	for _, n := range numbers {
		b = binary.LittleEndian.AppendUint64(b, n)
	}
	return b
}

// parted are parts' bytes.
func parted(parts ...[]byte) []byte {
	var b []byte
	for _, part := range parts {
		b = append(binary.LittleEndian.AppendUint64(b, uint64(len(part))), part...)
	}
	return b
}

// join are bytes, one behind the other.
func join(list ...[]byte) []byte {
	return slices.Concat(list...)
}

// noise is n bytes that are the same in every run.
func noise(seed int64, n int) []byte {
	b := make([]byte, n)
	rand.New(rand.NewSource(seed)).Read(b)
	return b
}

// edges are numbers about the ends of bytes, of ints and of parts.
func edges() []uint64 {
	list := []uint64{0, 1, 2, 0x0102030405060708, math.MaxUint64, math.MaxUint64 - 1}
	for shift := 7; shift < 64; shift++ {
		list = append(list, 1<<shift-1, 1<<shift, 1<<shift+1)
	}
	return list
}

func has(t *testing.T, w *pack.Writer, want []byte) {
	t.Helper()
	if got := w.Bytes(); !bytes.Equal(got, want) {
		t.Fatalf("Bytes = % X, want % X", got, want)
	}
}

// stands asks where a reader is, and for its first fault.
func stands(t *testing.T, r *pack.Reader, at, left int, fault api.Fault) {
	t.Helper()
	if r.At() != at || r.Left() != left || r.Fault() != fault {
		t.Fatalf("at %d, %d left, %v: want at %d, %d left, %v", r.At(), r.Left(), r.Fault(), at, left, fault)
	}
}

// stuck asks that behind a fault nothing is got, and neither the place nor the fault turns, whatever is called.
func stuck(t *testing.T, r *pack.Reader, at, left int, fault api.Fault) {
	t.Helper()
	for range 2 {
		stands(t, r, at, left, fault)
		if n := r.Get(); n != 0 {
			t.Fatalf("behind a fault Get = %d", n)
		}
		stands(t, r, at, left, fault)
		for _, most := range []int{math.MinInt, -1, 0, 1, math.MaxInt} {
			if n := r.Int(most); n != 0 {
				t.Fatalf("behind a fault Int(%d) = %d", most, n)
			}
			stands(t, r, at, left, fault)
		}
		if part := r.Part(); len(part) != 0 {
			t.Fatalf("behind a fault Part = % X", part)
		}
		stands(t, r, at, left, fault)
		if end := r.End(); end != fault {
			t.Fatalf("behind a fault End = %v, want %v", end, fault)
		}
	}
	stands(t, r, at, left, fault)
}

// P2.1: the chapter's example, and numbers' bytes, the lowest first.
func TestPutKnown(t *testing.T) {
	var w pack.Writer
	w.Put(1, 256)
	has(t, &w, []byte{1, 0, 0, 0, 0, 0, 0, 0, 0, 1, 0, 0, 0, 0, 0, 0})
	w.Put(0x0102030405060708)
	has(t, &w, []byte{1, 0, 0, 0, 0, 0, 0, 0, 0, 1, 0, 0, 0, 0, 0, 0, 8, 7, 6, 5, 4, 3, 2, 1})
	for _, n := range edges() {
		var one pack.Writer
		one.Put(n)
		has(t, &one, of(n))
	}
	var all pack.Writer
	all.Put(edges()...)
	has(t, &all, of(edges()...))
}

// P2.1: a part is how many bytes it has, and these; one of none is a number alone, nil or empty (R6).
func TestPartKnown(t *testing.T) {
	var w pack.Writer
	w.Part([]byte("ab"))
	has(t, &w, []byte{2, 0, 0, 0, 0, 0, 0, 0, 'a', 'b'})
	w.Part(nil, []byte{}, []byte{7})
	has(t, &w, []byte{2, 0, 0, 0, 0, 0, 0, 0, 'a', 'b', 0, 0, 0, 0, 0, 0, 0, 0, 0, 0, 0, 0, 0, 0, 0, 0, 1, 0, 0, 0, 0, 0, 0, 0, 7})
	for _, n := range []int{0, 1, 7, 8, 9, 255, 256, 257, 65535, 65536, 70000} {
		var one pack.Writer
		one.Part(noise(1, n))
		has(t, &one, parted(noise(1, n)))
	}
}

// P2.1: a Writer has no bytes at first, and none from a call that is handed none.
func TestWriterNone(t *testing.T) {
	var w pack.Writer
	has(t, &w, nil)
	w.Put()
	w.Part()
	w.Put([]uint64{}...)
	w.Part([][]byte{}...)
	has(t, &w, nil)
	w.Put(5)
	w.Put()
	w.Part()
	has(t, &w, of(5))
	has(t, new(pack.Writer), nil)
}

// P2.1: a nil Writer puts nothing, and has none.
func TestWriterNil(t *testing.T) {
	var w *pack.Writer
	for range 2 {
		w.Put()
		w.Put(1, 2)
		w.Part()
		w.Part([]byte("a"), nil)
		has(t, w, nil)
	}
}

// P2.1: numbers and parts stand in the order in which they were put, and Bytes takes nothing away.
func TestWriterOrder(t *testing.T) {
	var w pack.Writer
	want := []byte{}
	for i := range 50 {
		n, part := uint64(i)*0x0101010101010101, noise(int64(i), i%11)
		w.Put(n)
		want = append(want, of(n)...)
		has(t, &w, want)
		w.Part(part)
		want = append(want, parted(part)...)
		has(t, &w, want)
		has(t, &w, want)
	}
}

// P2.4: one call of many and many calls of one are the same.
func TestWriterCalls(t *testing.T) {
	parts := [][]byte{[]byte("one"), nil, []byte("other"), {}, noise(3, 300), {0}}
	var numbers, calls, together pack.Writer
	for _, n := range edges() {
		numbers.Put(n)
	}
	has(t, &numbers, of(edges()...))
	for _, part := range parts {
		calls.Part(part)
	}
	together.Part(parts...)
	has(t, &calls, parted(parts...))
	has(t, &together, parted(parts...))
}

// P2.4: no two lists of parts have the same bytes, though all bytes in them are the same.
func TestPartsOneForm(t *testing.T) {
	lists := [][][]byte{nil, {nil}, {nil, nil}, {{0}}, {{0, 0}}, {{0}, {0}}, {nil, {0}}, {{0}, nil}, {make([]byte, 8)}, {make([]byte, 16)}, {nil, nil, nil}, {[]byte("ab"), []byte("c")}, {[]byte("a"), []byte("bc")}, {[]byte("abc")}, {[]byte("a"), []byte("b"), []byte("c")}, {[]byte("c"), []byte("ab")}}
	seen := map[string]int{}
	for i, list := range lists {
		var w pack.Writer
		w.Part(list...)
		if at, ok := seen[string(w.Bytes())]; ok {
			t.Errorf("lists %d and %d have the same bytes", at, i)
		}
		seen[string(w.Bytes())] = i
	}
}

// P2.4: whatever bytes are read as parts to their end, the parts put again are these bytes.
func TestPartsBack(t *testing.T) {
	r := rand.New(rand.NewSource(2))
	whole := 0
	for range 20000 {
		var b []byte
		for range r.Intn(4) {
			n := r.Intn(4)
			b = append(b, parted(noise(r.Int63(), n))...)
		}
		if len(b) > 0 && r.Intn(2) == 0 {
			b[r.Intn(len(b))] ^= 1 << r.Intn(8)
		}
		var w pack.Writer
		reader := pack.New(b)
		for range len(b) {
			if reader.Left() == 0 {
				break
			}
			if part := reader.Part(); reader.Fault() == (api.Fault{}) {
				w.Part(part)
			}
		}
		if reader.End() == (api.Fault{}) {
			whole++
			has(t, &w, b)
		}
	}
	if whole < 5000 || whole > 18000 {
		t.Errorf("%d of 20000 were read to their end: too few of one sort", whole)
	}
}

// P2.2: the number of the next eight bytes, one behind the other.
func TestGet(t *testing.T) {
	b := of(edges()...)
	r := pack.New(b)
	stands(t, r, 0, len(b), api.Fault{})
	for i, want := range edges() {
		if got := r.Get(); got != want {
			t.Fatalf("Get %d = %X, want %X", i, got, want)
		}
		stands(t, r, 8*(i+1), len(b)-8*(i+1), api.Fault{})
	}
	if end := r.End(); end != (api.Fault{}) {
		t.Fatalf("End = %v", end)
	}
	if got := r.Get(); got != 0 {
		t.Fatalf("Get at the end = %d", got)
	}
	stuck(t, r, len(b), 0, api.Fault{Why: api.ErrEnd, At: len(b)})
}

// P2.2: each byte has its place in the number.
func TestGetKnown(t *testing.T) {
	r := pack.New([]byte{8, 7, 6, 5, 4, 3, 2, 1, 0xFF, 0, 0, 0, 0, 0, 0, 0x80})
	if a, b := r.Get(), r.Get(); a != 0x0102030405060708 || b != 0x80000000000000FF {
		t.Fatalf("Get = %X, %X", a, b)
	}
	if got := pack.New([]byte{8, 7, 6, 5, 4, 3, 2, 1}).Int(math.MaxInt); got != 0x0102030405060708 {
		t.Fatalf("Int = %X", got)
	}
}

// P2.2, P2.5: bytes that are missing: the fault is at the length, and the place stays ahead of what is there.
func TestMissing(t *testing.T) {
	get := map[string]func(*pack.Reader){
		"Get":      func(r *pack.Reader) { r.Get() },
		"Int":      func(r *pack.Reader) { r.Int(math.MaxInt) },
		"Int(0)":   func(r *pack.Reader) { r.Int(0) },
		"Int(-1)":  func(r *pack.Reader) { r.Int(-1) },
		"Int(min)": func(r *pack.Reader) { r.Int(math.MinInt) },
		"Part":     func(r *pack.Reader) { r.Part() },
	}
	for name, call := range get {
		for ahead := range 3 {
			for n := range 8 {
				b := join(of(1, 2)[:8*min(ahead, 2)], bytes.Repeat([]byte{255}, n))
				r := pack.New(b)
				for range ahead {
					r.Get()
				}
				stands(t, r, 8*ahead, n, api.Fault{})
				call(r)
				t.Logf("%s of %d bytes behind %d", name, n, 8*ahead)
				stuck(t, r, 8*ahead, n, api.Fault{Why: api.ErrEnd, At: len(b)})
			}
		}
	}
}

// P2.2: an int at most as great as most is got, most itself among them; none above, and none at all of a most below 0.
func TestInt(t *testing.T) {
	mosts := []int{math.MinInt, -1 << 32, -2, -1, 0, 1, 255, 256, 1<<31 - 1, 1 << 31, 1<<31 + 1, 1 << 40, math.MaxInt - 1, math.MaxInt}
	for _, n := range edges() {
		for _, most := range mosts {
			b := join(of(77), of(n), []byte{9})
			r := pack.New(b)
			r.Get()
			got := r.Int(most)
			if most >= 0 && n <= uint64(most) {
				if uint64(got) != n || got < 0 {
					t.Fatalf("Int(%d) of %d = %d", most, n, got)
				}
				stands(t, r, 16, 1, api.Fault{})
				continue
			}
			if got != 0 {
				t.Fatalf("Int(%d) of %d = %d, want 0", most, n, got)
			}
			stuck(t, r, 8, 9, api.Fault{Why: api.ErrMany, At: 8})
		}
	}
}

// P2.2: a part that is too great is a fault where it begins; one that is as great as may be, and is not there, at the length.
func TestPartTells(t *testing.T) {
	for _, n := range append(edges(), 3, 4, 5, 6, math.MaxInt64-8, math.MaxInt64-16) {
		b := join(of(77), of(n), []byte("abc"))
		r := pack.New(b)
		r.Get()
		part := r.Part()
		switch {
		case n > 1<<31:
			if len(part) != 0 {
				t.Fatalf("Part of %d = % X", n, part)
			}
			stuck(t, r, 8, 11, api.Fault{Why: api.ErrMany, At: 8})
		case n > 3:
			if len(part) != 0 {
				t.Fatalf("Part of %d = % X", n, part)
			}
			stuck(t, r, 8, 11, api.Fault{Why: api.ErrEnd, At: 19})
		default:
			if string(part) != "abc"[:n] {
				t.Fatalf("Part of %d = % X", n, part)
			}
			stands(t, r, 16+int(n), 3-int(n), api.Fault{})
		}
	}
	first := pack.New(of(1<<31 + 1))
	first.Part()
	stuck(t, first, 0, 8, api.Fault{Why: api.ErrMany, At: 0})
	last := pack.New(of(1 << 31))
	last.Part()
	stuck(t, last, 0, 8, api.Fault{Why: api.ErrEnd, At: 8})
}

// P2.2: of each length that is cut anywhere, a part is there whole or not at all.
func TestPartCut(t *testing.T) {
	for n := range 40 {
		b := parted(noise(int64(n), n))
		for long := range b {
			r := pack.New(b[:long])
			if part := r.Part(); len(part) != 0 {
				t.Fatalf("Part of %d of %d bytes = % X", long, len(b), part)
			}
			stuck(t, r, 0, long, api.Fault{Why: api.ErrEnd, At: long})
		}
		r := pack.New(b)
		if part := r.Part(); !bytes.Equal(part, b[8:]) {
			t.Fatalf("Part = % X, want % X", part, b[8:])
		}
		stands(t, r, len(b), 0, api.Fault{})
	}
}

// P2.2: End is no fault where nothing is left, and may be asked again.
func TestEndNone(t *testing.T) {
	for _, b := range [][]byte{nil, {}, of(1), of(1, 2), parted(nil), parted([]byte("a"), []byte("b"))} {
		r := pack.New(b)
		for range 2 {
			if r.Left()%8 != 0 {
				r.Part()
			} else if r.Left() > 0 {
				r.Get()
			}
		}
		for range 3 {
			if end := r.End(); end != (api.Fault{}) {
				t.Fatalf("End = %v", end)
			}
			stands(t, r, len(b), 0, api.Fault{})
		}
		r.Get()
		stuck(t, r, len(b), 0, api.Fault{Why: api.ErrEnd, At: len(b)})
	}
}

// P2.2, P2.5: End is a fault at the place where bytes are left, and one as others: nothing is got behind it.
func TestEndOver(t *testing.T) {
	b := join(of(1, 2), parted([]byte("abc")), of(3))
	steps := []func(*pack.Reader){func(*pack.Reader) {}, func(r *pack.Reader) { r.Get() }, func(r *pack.Reader) { r.Int(2) }, func(r *pack.Reader) { r.Part() }}
	for n, at := range []int{0, 8, 16, 27} {
		r := pack.New(b)
		for _, step := range steps[:n+1] {
			step(r)
		}
		want := api.Fault{Why: api.ErrOver, At: at}
		stands(t, r, at, len(b)-at, api.Fault{})
		if end := r.End(); end != want {
			t.Fatalf("End at %d = %v", at, end)
		}
		stuck(t, r, at, len(b)-at, want)
	}
	one := pack.New([]byte{0})
	one.End()
	stuck(t, one, 0, 1, api.Fault{Why: api.ErrOver, At: 0})
}

// P2.2: the first fault stays, whichever comes behind it.
func TestFirstFault(t *testing.T) {
	b := join(of(5), of(1<<40), []byte{1})
	many := pack.New(b)
	many.Int(4)
	stuck(t, many, 0, 17, api.Fault{Why: api.ErrMany, At: 0})
	part := pack.New(b)
	part.Get()
	part.Part()
	stuck(t, part, 8, 9, api.Fault{Why: api.ErrMany, At: 8})
	end := pack.New(b)
	end.Get()
	end.Get()
	end.Get()
	stuck(t, end, 16, 1, api.Fault{Why: api.ErrEnd, At: 17})
	over := pack.New(b)
	over.End()
	over.Int(4)
	stuck(t, over, 0, 17, api.Fault{Why: api.ErrOver, At: 0})
}

// P2.2: a nil Reader is one of no bytes, whose first fault is there from the beginning on, whatever is called first.
func TestReaderNil(t *testing.T) {
	var r *pack.Reader
	if end := r.End(); end != (api.Fault{Why: api.ErrEnd, At: 0}) {
		t.Fatalf("End = %v", end)
	}
	stuck(t, r, 0, 0, api.Fault{Why: api.ErrEnd, At: 0})
}

// P2.2: a Reader that New did not give, and one of no bytes, have no fault at first.
func TestReaderNone(t *testing.T) {
	for _, r := range []*pack.Reader{new(pack.Reader), {}, pack.New(nil), pack.New([]byte{})} {
		stands(t, r, 0, 0, api.Fault{})
		if end := r.End(); end != (api.Fault{}) {
			t.Fatalf("End = %v", end)
		}
		stands(t, r, 0, 0, api.Fault{})
		if part := r.Part(); len(part) != 0 {
			t.Fatalf("Part = % X", part)
		}
		stuck(t, r, 0, 0, api.Fault{Why: api.ErrEnd, At: 0})
	}
}

// P2.3: what was put is got, in order.
func TestBack(t *testing.T) {
	random := rand.New(rand.NewSource(4))
	for range 500 {
		var w pack.Writer
		var kinds []int
		var numbers []uint64
		var parts [][]byte
		for range random.Intn(30) {
			kind := random.Intn(3)
			kinds = append(kinds, kind)
			number, part := random.Uint64()>>random.Intn(64), noise(random.Int63(), random.Intn(20))
			if kind == 1 {
				number >>= 1
			}
			numbers, parts = append(numbers, number), append(parts, part)
			if kind < 2 {
				w.Put(number)
			} else {
				w.Part(part)
			}
		}
		r := pack.New(w.Bytes())
		for i, kind := range kinds {
			switch kind {
			case 0:
				if got := r.Get(); got != numbers[i] {
					t.Fatalf("Get = %d, want %d", got, numbers[i])
				}
			case 1:
				if got := r.Int(math.MaxInt); uint64(got) != numbers[i] {
					t.Fatalf("Int = %d, want %d", got, numbers[i])
				}
			case 2:
				if got := r.Part(); !bytes.Equal(got, parts[i]) {
					t.Fatalf("Part = % X, want % X", got, parts[i])
				}
			}
		}
		if end := r.End(); end != (api.Fault{}) {
			t.Fatalf("End = %v", end)
		}
	}
}

// P2.3: so are many, in many calls.
func TestBackMany(t *testing.T) {
	const many = 200000
	var w pack.Writer
	for i := range many {
		w.Put(uint64(i))
	}
	w.Part(bytes.Repeat([]byte{7}, 1<<20))
	r := pack.New(w.Bytes())
	for i := range many {
		if got := r.Int(many); got != i {
			t.Fatalf("Int %d = %d", i, got)
		}
	}
	if part := r.Part(); len(part) != 1<<20 || bytes.Count(part, []byte{7}) != 1<<20 {
		t.Fatalf("Part of %d bytes", len(part))
	}
	if end := r.End(); end != (api.Fault{}) {
		t.Fatalf("End = %v", end)
	}
}

// plain is a reader as the chapter words it.
type plain struct {
	b     []byte
	at    int
	fault api.Fault
}

// next is the number that begins at the place, if all its bytes are there and there is no fault.
func (p *plain) next() (uint64, bool) {
	if p.fault.Why != api.OK {
		return 0, false
	}
	if len(p.b[p.at:]) < 8 {
		p.fault = api.Fault{Why: api.ErrEnd, At: len(p.b)}
		return 0, false
	}
	return binary.LittleEndian.Uint64(p.b[p.at:]), true
}

func (p *plain) number(most uint64) uint64 {
	n, ok := p.next()
	if ok && n > most {
		p.fault = api.Fault{Why: api.ErrMany, At: p.at}
		return 0
	}
	if ok {
		p.at += 8
	}
	return n
}

func (p *plain) part() []byte {
	n, ok := p.next()
	switch {
	case !ok:
		return nil
	case n > 1<<31:
		p.fault = api.Fault{Why: api.ErrMany, At: p.at}
		return nil
	case n > uint64(len(p.b)-p.at-8):
		p.fault = api.Fault{Why: api.ErrEnd, At: len(p.b)}
		return nil
	}
	part := p.b[p.at+8:][:n]
	p.at += 8 + len(part)
	return part
}

func (p *plain) end() api.Fault {
	if p.fault.Why == api.OK && p.at < len(p.b) {
		p.fault = api.Fault{Why: api.ErrOver, At: p.at}
	}
	return p.fault
}

// P2.2, R5: methods in any order, over any bytes, are as their words.
func TestReaderPlain(t *testing.T) {
	random := rand.New(rand.NewSource(6))
	for range 5000 {
		var b []byte
		for range random.Intn(5) {
			switch random.Intn(4) {
			case 0:
				b = append(b, of(uint64(random.Intn(12)))...)
			case 1:
				b = append(b, of(random.Uint64()>>random.Intn(64))...)
			case 2:
				b = append(b, parted(noise(random.Int63(), random.Intn(10)))...)
			case 3:
				b = append(b, noise(random.Int63(), random.Intn(10))...)
			}
		}
		r, p := pack.New(b), &plain{b: b}
		for range 12 {
			switch random.Intn(9) {
			case 0, 1:
				if got, want := r.Get(), p.number(math.MaxUint64); got != want {
					t.Fatalf("% X: Get = %d, want %d", b, got, want)
				}
			case 2, 3, 4:
				most := random.Intn(14)
				if got, want := r.Int(most), p.number(uint64(most)); uint64(got) != want {
					t.Fatalf("% X: Int(%d) = %d, want %d", b, most, got, want)
				}
			case 5, 6, 7:
				if got, want := r.Part(), p.part(); !bytes.Equal(got, want) {
					t.Fatalf("% X: Part = % X, want % X", b, got, want)
				}
			case 8:
				if got, want := r.End(), p.end(); got != want {
					t.Fatalf("% X: End = %v, want %v", b, got, want)
				}
			}
			stands(t, r, p.at, len(b)-p.at, p.fault)
		}
	}
}

// R4: a Writer keeps nothing that it was handed, and writes into none of it.
func TestWriterKeepsNothing(t *testing.T) {
	whole := []byte("part, and what lies behind")
	part := whole[:4]
	numbers, parts := []uint64{1, 2}, [][]byte{part, nil, part}
	var w pack.Writer
	w.Put(numbers...)
	w.Part(parts...)
	w.Put(3)
	if string(whole) != "part, and what lies behind" || !slices.Equal(numbers, []uint64{1, 2}) || len(parts) != 3 || string(parts[0]) != "part" || parts[1] != nil || string(parts[2]) != "part" {
		t.Fatal("a Writer wrote into what it was handed")
	}
	want := join(of(1, 2), parted([]byte("part"), nil, []byte("part")), of(3))
	has(t, &w, want)
	clear(whole)
	clear(numbers)
	clear(parts)
	has(t, &w, want)
}

// R4: what Bytes answers is the caller's, the room behind it, too.
func TestBytesAreNew(t *testing.T) {
	var w pack.Writer
	w.Put(1)
	w.Part([]byte("a"))
	want := join(of(1), parted([]byte("a")))
	one, two := w.Bytes(), w.Bytes()
	clear(one[:cap(one)])
	_ = append(one, 9, 9, 9)
	if !bytes.Equal(two, want) {
		t.Fatal("two answers of Bytes share memory")
	}
	has(t, &w, want)
	three := w.Bytes()
	w.Put(2)
	if !bytes.Equal(three, want) {
		t.Fatal("what was answered turned with a later Put")
	}
	clear(three)
	has(t, &w, join(want, of(2)))
}

// R3: two Writers, one copied of the other, go on apart.
func TestWriterCopied(t *testing.T) {
	for n := range 20 {
		var first pack.Writer
		for i := range n {
			first.Put(uint64(i))
		}
		ahead := first.Bytes()
		second, third := first, first
		first.Put(100)
		second.Part([]byte("second"))
		third.Put(300, 301)
		second.Put(200)
		has(t, &first, join(ahead, of(100)))
		has(t, &second, join(ahead, parted([]byte("second")), of(200)))
		has(t, &third, join(ahead, of(300, 301)))
	}
}

// R4: a Reader keeps nothing that it was handed, and writes into none of it.
func TestReaderKeepsNothing(t *testing.T) {
	b := join(of(5), parted([]byte("abc")))
	before := bytes.Clone(b)
	r := pack.New(b)
	r.Get()
	part := r.Part()
	r.End()
	clear(part[:cap(part)])
	if !bytes.Equal(b, before) {
		t.Fatal("what a part was written into turned what New was handed")
	}
	late := pack.New(b)
	clear(b)
	if n, part := late.Get(), late.Part(); n != 5 || string(part) != "abc" {
		t.Fatalf("a Reader turned with what New was handed: %d, % X", n, part)
	}
}

// R4: no two parts share memory, nor do they with the Reader.
func TestPartsAreNew(t *testing.T) {
	b := parted([]byte("abc"), []byte("def"), nil, []byte("ghi"))
	r := pack.New(b)
	first := r.Part()
	_ = append(first, bytes.Repeat([]byte{255}, 40)...)
	clear(first[:cap(first)])
	second, none := r.Part(), r.Part()
	clear(none[:cap(none)])
	_ = append(none, 255, 255, 255, 255, 255, 255, 255, 255, 255)
	third := r.Part()
	if string(second) != "def" || len(none) != 0 || string(third) != "ghi" || r.End() != (api.Fault{}) {
		t.Fatalf("parts share memory: % X, % X, % X", second, none, third)
	}
	clear(second[:cap(second)])
	if string(third) != "ghi" {
		t.Fatal("two parts share memory")
	}
}

// R4: nor do the same part, got by a Reader and by a copy of it.
func TestPartTwice(t *testing.T) {
	r := pack.New(parted([]byte("abc")))
	late, later := *r, *r
	first := r.Part()
	clear(first[:cap(first)])
	if part := late.Part(); string(part) != "abc" {
		t.Fatalf("a part shares memory with its Reader: % X", part)
	}
	if part := later.Part(); string(part) != "abc" {
		t.Fatalf("a part shares memory with its Reader: % X", part)
	}
}

// R3: Readers of the same bytes, and copies of one, go on apart.
func TestReadersApart(t *testing.T) {
	b := of(1, 2, 3)
	one, two := pack.New(b), pack.New(b)
	one.Get()
	third := *one
	one.Int(0)
	stuck(t, one, 8, 16, api.Fault{Why: api.ErrMany, At: 8})
	stands(t, two, 0, 24, api.Fault{})
	stands(t, &third, 8, 16, api.Fault{})
	if a, b := two.Get(), third.Get(); a != 1 || b != 2 {
		t.Fatalf("Get = %d, %d", a, b)
	}
}

// R1: no bytes and no order of calls let one panic, great numbers at each place among them.
func TestAnyBytes(t *testing.T) {
	for n := range 40 {
		for _, fill := range []byte{0, 1, 7, 8, 0x7F, 0x80, 0xFF} {
			b := bytes.Repeat([]byte{fill}, n)
			for _, most := range []int{math.MinInt, -1, 0, math.MaxInt} {
				r := pack.New(b)
				for range n/8 + 2 {
					at := r.At()
					r.Part()
					r.Int(most)
					r.Get()
					if r.At() < at || r.At()+r.Left() != n {
						t.Fatalf("at %d, then at %d, %d left of %d", at, r.At(), r.Left(), n)
					}
				}
				if r.Fault() == (api.Fault{}) {
					t.Fatalf("%d bytes of %d are read behind their end", n, fill)
				}
			}
		}
	}
}
