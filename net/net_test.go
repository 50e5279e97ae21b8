package net_test

import (
	"bytes"
	"encoding/binary"
	"hash/adler32"
	"math"
	"math/rand"
	"slices"
	"testing"

	"jackstay/api"
	"jackstay/net"
)

// most is the greatest number of a message beside its nodes, longest how many bytes its Load may have, and around how many bytes stand round the Load.
const (
	most    = 1 << 31
	longest = 1200
	around  = 60
)

// odd are numbers that no message has, not even as a node.
var odd = []int{math.MinInt, math.MinInt + 1, -1 << 32, -1 << 31, -2, -1, most + 1, most + 2, 1 << 32, 1<<32 + 1, math.MaxInt - 1, math.MaxInt}

// fields are the places of a message's numbers, in the order of its bytes.
func fields(m *api.Msg) [6]*int {
	return [6]*int{&m.From, &m.To, &m.Kind, &m.Epoch, &m.Seq, &m.Ack}
}

// limit is the greatest number that may stand in a field.
func limit(field int) int {
	if field < 2 {
		return 15
	}
	return most
}

// same tells whether two messages are the same, in every field.
func same(a, b api.Msg) bool {
	for i, n := range fields(&a) {
		if *n != *fields(&b)[i] {
			return false
		}
	}
	return string(a.Load) == string(b.Load)
}

// plain are numbers' bytes, as a library of others has them, and those of a part.
func plain(load []byte, numbers ...uint64) []byte {
	var b []byte
	for _, n := range append(slices.Clone(numbers), uint64(len(load))) {
		b = binary.LittleEndian.AppendUint64(b, n)
	}
	return append(b, load...)
}

// sealed are bytes with their sum behind them.
func sealed(b []byte) []byte {
	return binary.BigEndian.AppendUint32(slices.Clone(b), adler32.Checksum(b))
}

// coded are a message's bytes, whether it is one or not.
func coded(m api.Msg) []byte {
	var numbers []uint64
	for _, n := range fields(&m) {
		numbers = append(numbers, uint64(*n))
	}
	return sealed(plain(m.Load, numbers...))
}

// may tells whether m is a message.
func may(m api.Msg) bool {
	for i, n := range fields(&m) {
		if *n < 0 || *n > limit(i) {
			return false
		}
	}
	return len(m.Load) <= longest
}

// noise is n bytes that are the same in every run.
func noise(seed int64, n int) []byte {
	b := make([]byte, n)
	rand.New(rand.NewSource(seed)).Read(b)
	return b
}

// room are the same bytes, with room behind them.
func room(b []byte) []byte {
	return append(append(make([]byte, 0, len(b)+8), b...), 9, 9, 9, 9, 9, 9, 9, 9)[:len(b)]
}

// stays asks that bytes with room behind them are as they were.
func stays(t *testing.T, b, was []byte) {
	t.Helper()
	if !bytes.Equal(b, was) || !bytes.Equal(b[len(b):cap(b)][:8], []byte{9, 9, 9, 9, 9, 9, 9, 9}) {
		t.Fatalf("what was handed in was turned: % X, was % X", b[:cap(b)], was)
	}
}

// fill writes over bytes, also behind their end.
func fill(b []byte, with byte) {
	b = b[:cap(b)]
	for i := range b {
		b[i] = with
	}
}

// packs is Pack, asked that it neither turns its message nor keeps or answers its memory.
func packs(t *testing.T, m api.Msg) ([]byte, api.Errno) {
	t.Helper()
	handed := m
	handed.Load = room(m.Load)
	b, err := net.Pack(handed)
	stays(t, handed.Load, m.Load)
	got := slices.Clone(b)
	fill(handed.Load, 0xA5)
	if !bytes.Equal(b, got) {
		t.Fatalf("Pack answered what it was handed")
	}
	fill(b, 0x5A)
	for _, c := range handed.Load[:cap(handed.Load)] {
		if c != 0xA5 {
			t.Fatalf("Pack answered what it was handed")
		}
	}
	return got, err
}

// unpacks is Unpack, asked so.
func unpacks(t *testing.T, b []byte) (api.Msg, api.Errno) {
	t.Helper()
	handed := room(b)
	m, err := net.Unpack(handed)
	stays(t, handed, b)
	got := m
	got.Load = slices.Clone(m.Load)
	fill(handed, 0xA5)
	if !same(m, got) {
		t.Fatalf("Unpack answered what it was handed")
	}
	fill(m.Load, 0x5A)
	for _, c := range handed[:cap(handed)] {
		if c != 0xA5 {
			t.Fatalf("Unpack answered what it was handed")
		}
	}
	return got, err
}

// goes asks that a message is packed to its bytes, and unpacked from them.
func goes(t *testing.T, m api.Msg) {
	t.Helper()
	want := coded(m)
	b, err := packs(t, m)
	if err != api.OK || !bytes.Equal(b, want) {
		t.Fatalf("Pack of %v: % X, %v: want % X", m, b, err, want)
	}
	back, err := unpacks(t, b)
	if err != api.OK || !same(back, m) {
		t.Fatalf("Unpack of % X: %v, %v: want %v", b, back, err, m)
	}
}

// refuses asks that what is no message is not packed.
func refuses(t *testing.T, m api.Msg) {
	t.Helper()
	if b, err := packs(t, m); len(b) != 0 || err != api.ErrArg {
		t.Fatalf("Pack of %v: % X, %v: want nothing, ErrArg", m, b, err)
	}
}

// fails asks for the error of an Unpack.
func fails(t *testing.T, b []byte, want api.Errno) {
	t.Helper()
	if m, err := unpacks(t, b); !same(m, api.Msg{}) || err != want {
		t.Fatalf("Unpack of % X: %v, %v: want nothing, %v", b, m, err, want)
	}
}

// some is a message of whose numbers no two are the same.
func some() api.Msg {
	return api.Msg{From: 1, To: 2, Kind: 3, Epoch: 4, Seq: 5, Ack: 6, Load: []byte("load")}
}

// chance is some message, with numbers at the ends of what they may be, and between.
func chance(dice *rand.Rand) api.Msg {
	var m api.Msg
	for i, n := range fields(&m) {
		*n = []int{0, 1, limit(i) - 1, limit(i), dice.Intn(limit(i) + 1), dice.Intn(limit(i) + 1)}[dice.Intn(6)]
	}
	m.Load = make([]byte, []int{0, 1, dice.Intn(20), dice.Intn(longest + 1), longest}[dice.Intn(5)])
	dice.Read(m.Load)
	return m
}

// P15.1: one message's bytes, written out.
func TestPackKnown(t *testing.T) {
	m := api.Msg{From: 1, To: 15, Kind: 2, Epoch: 256, Seq: 1 << 31, Ack: 0x01020304, Load: []byte("ab")}
	want := []byte{
		1, 0, 0, 0, 0, 0, 0, 0,
		15, 0, 0, 0, 0, 0, 0, 0,
		2, 0, 0, 0, 0, 0, 0, 0,
		0, 1, 0, 0, 0, 0, 0, 0,
		0, 0, 0, 0x80, 0, 0, 0, 0,
		4, 3, 2, 1, 0, 0, 0, 0,
		2, 0, 0, 0, 0, 0, 0, 0, 'a', 'b',
		0x11, 0x39, 0x01, 0x63, // the sum: b is 4409, a 355
	}
	b, err := net.Pack(m)
	if err != api.OK || !bytes.Equal(b, want) {
		t.Fatalf("Pack: % X, %v: want % X", b, err, want)
	}
	if back, err := net.Unpack(want); err != api.OK || !same(back, m) {
		t.Fatalf("Unpack: %v, %v: want %v", back, err, m)
	}
}

// P15.1: the least message, with a Load that is nil, or empty (R6).
func TestPackLeast(t *testing.T) {
	want := sealed(make([]byte, 56))
	for _, load := range [][]byte{nil, {}, make([]byte, 0, 5)} {
		b, err := net.Pack(api.Msg{Load: load})
		if err != api.OK || !bytes.Equal(b, want) {
			t.Fatalf("Pack: % X, %v: want % X", b, err, want)
		}
	}
	goes(t, api.Msg{})
	if len(want) != around {
		t.Fatalf("%d bytes, want %d", len(want), around)
	}
}

// P15.1, P15.3: the ends of each number, one at a time, with one another, and with a Load of each length.
func TestEnds(t *testing.T) {
	for _, m := range []api.Msg{{}, some(), {From: 15, To: 15, Kind: most, Epoch: most, Seq: most, Ack: most, Load: noise(1, longest)}} {
		goes(t, m)
		for i := range fields(&m) {
			one := m
			place := fields(&one)[i]
			for _, n := range []int{0, 1, 7, limit(i) - 1, limit(i)} {
				*place = n
				goes(t, one)
			}
			for _, n := range append(slices.Clone(odd), limit(i)+1, limit(i)+2) {
				*place = n
				refuses(t, one)
				fails(t, coded(one), api.ErrForm)
			}
		}
	}
	for from := range 16 {
		for to := range 16 {
			goes(t, api.Msg{From: from, To: to})
		}
	}
}

// P15.1: a number of 64 bits that is no int from 0 on is no message's.
func TestUnpackGreat(t *testing.T) {
	for i := range 6 {
		for _, n := range []uint64{1<<32 + 1, 1 << 40, 1 << 56, 1<<56 + 1, 1<<63 - 1, 1 << 63, 1<<63 + 1, math.MaxUint64} {
			numbers := []uint64{1, 2, 3, 4, 5, 6}
			numbers[i] = n
			fails(t, sealed(plain([]byte("load"), numbers...)), api.ErrForm)
		}
	}
}

// P15.1, P15.3: Loads of all lengths that may be, and some that may not.
func TestLoads(t *testing.T) {
	m := some()
	for n := range longest + 1 {
		m.Load = noise(int64(n), n)
		goes(t, m)
		if b, _ := net.Pack(m); len(b) != around+n {
			t.Fatalf("%d bytes of a Load of %d: want %d", len(b), n, around+n)
		}
	}
	for _, n := range []int{longest + 1, longest + 2, 2 * longest, 1 << 16, 1 << 20} {
		m.Load = noise(int64(n), n)
		refuses(t, m)
		fails(t, coded(m), api.ErrForm)
	}
}

// P15.1: each combination of fields that may be and that may not, and of a Load that is too long.
func TestPackAny(t *testing.T) {
	for which := range 1 << 7 {
		m := some()
		for i, n := range fields(&m) {
			if which>>i&1 == 1 {
				*n = limit(i) + 1
			}
		}
		if which>>6&1 == 1 {
			m.Load = make([]byte, longest+1)
		}
		if which == 0 {
			goes(t, m)
			continue
		}
		refuses(t, m)
		fails(t, coded(m), api.ErrForm)
	}
}

// P15.1: fewer than four bytes, and a sum that is not that of the bytes ahead, are ErrSum, whatever else is wrong.
func TestUnpackSum(t *testing.T) {
	fails(t, nil, api.ErrSum)
	fails(t, []byte{}, api.ErrSum)
	for n := 1; n < 4; n++ {
		fails(t, make([]byte, n), api.ErrSum)
		fails(t, sealed(nil)[:n], api.ErrSum)
		fails(t, coded(some())[:n], api.ErrSum)
	}
	wrong := some()
	wrong.From = 16
	for _, b := range [][]byte{sealed(nil), sealed([]byte{7}), coded(some()), coded(wrong), coded(api.Msg{}), noise(2, 64)} {
		for i := max(0, len(b)-4); i < len(b); i++ {
			c := slices.Clone(b)
			c[i] ^= 1
			fails(t, c, api.ErrSum)
		}
	}
	b := coded(some())
	// Half a message, and one with more behind it, has no sum; nor has one without.
	for n := range b {
		fails(t, b[:n], api.ErrSum)
	}
	fails(t, append(slices.Clone(b), 0), api.ErrSum)
	fails(t, plain([]byte("load"), 1, 2, 3, 4, 5, 6), api.ErrSum)
}

// P15.1: bytes whose sum fits, and that are no message's, are ErrForm: too few, too many, and of a part that tells of more or fewer.
func TestUnpackForm(t *testing.T) {
	for _, m := range []api.Msg{{}, some(), {Load: noise(3, longest)}} {
		b := coded(m)
		b = b[:len(b)-4]
		for n := range b {
			fails(t, sealed(b[:n]), api.ErrForm)
		}
		for _, more := range []int{1, 2, 7, 8, 9, 100} {
			fails(t, sealed(append(slices.Clone(b), make([]byte, more)...)), api.ErrForm)
			fails(t, sealed(append(make([]byte, more), b...)), api.ErrForm)
		}
		fails(t, sealed(sealed(b)), api.ErrForm)
		fails(t, sealed(append(slices.Clone(b), b...)), api.ErrForm)
	}
	for _, tells := range []uint64{0, 1, 3, 5, 4 + 256, longest, longest + 1, 1<<31 - 1, 1 << 31, 1<<31 + 1, 1<<32 + 4, 1<<63 - 1, 1 << 63, 1<<63 + 4, math.MaxUint64} {
		b := plain([]byte("load"), 1, 2, 3, 4, 5, 6)
		binary.LittleEndian.PutUint64(b[48:], tells)
		fails(t, sealed(b), api.ErrForm)
	}
}

// P15.3, P15.1: of bytes whose sum fits only those are unpacked that are a message's, and it is packed to the same bytes.
func TestUnpackPack(t *testing.T) {
	dice := rand.New(rand.NewSource(4))
	came := 0
	for range 20000 {
		m := chance(dice)
		m.Load = m.Load[:min(len(m.Load), 3)]
		b := coded(m)
		b = b[:len(b)-4]
		for range dice.Intn(3) {
			b[dice.Intn(len(b))] ^= 1 << dice.Intn(8)
		}
		if dice.Intn(10) == 0 {
			b = b[:dice.Intn(len(b))]
		}
		b = sealed(b)
		back, err := unpacks(t, b)
		if err == api.ErrForm {
			fails(t, b, api.ErrForm)
			if right(b) {
				t.Fatalf("% X is a message's, and is not unpacked", b)
			}
			continue
		}
		came++
		again, why := packs(t, back)
		if err != api.OK || why != api.OK || !bytes.Equal(again, b) || !right(b) {
			t.Fatalf("% X: %v, %v, packed to % X, %v", b, back, err, again, why)
		}
	}
	if came < 5000 || came > 15000 {
		t.Fatalf("%d were unpacked: the test tells little", came)
	}
}

// right tells whether bytes whose sum fits are a message's.
func right(b []byte) bool {
	if len(b) < around || uint64(len(b)-around) != binary.LittleEndian.Uint64(b[48:]) || len(b)-around > longest {
		return false
	}
	for i := range 6 {
		if binary.LittleEndian.Uint64(b[8*i:]) > uint64(limit(i)) {
			return false
		}
	}
	return true
}

// P15.1, P15.3: messages by chance, some of which are none.
func TestChance(t *testing.T) {
	dice := rand.New(rand.NewSource(5))
	for range 5000 {
		m := chance(dice)
		if dice.Intn(4) == 0 {
			*fields(&m)[dice.Intn(6)] = []int{-1, 15, 16, most, most + 1, dice.Int(), -dice.Int()}[dice.Intn(7)]
		}
		if may(m) {
			goes(t, m)
			continue
		}
		refuses(t, m)
		fails(t, coded(m), api.ErrForm)
	}
}

// P15.1: two messages are the same, if all their fields are.
func TestSame(t *testing.T) {
	list := []api.Msg{{}, some()}
	for i := range 6 {
		for _, n := range []int{-1, 1, 7, 15, most} {
			for _, m := range []api.Msg{{}, some()} {
				*fields(&m)[i] = n
				list = append(list, m)
			}
		}
	}
	for _, load := range []string{"\x00", "a", "b", "aa", "loae", "koad", "loa", "load\x00", "LOAD", string(noise(6, 1201))} {
		m := some()
		m.Load = []byte(load)
		list = append(list, m, api.Msg{Load: []byte(load)})
	}
	for _, a := range list {
		for _, b := range list {
			b.Load = room(b.Load)
			was := slices.Clone(b.Load)
			if got := net.Same(a, b); got != same(a, b) {
				t.Fatalf("Same(%v, %v) = %v", a, b, got)
			}
			if got := net.Same(b, a); got != same(a, b) {
				t.Fatalf("Same(%v, %v) = %v", b, a, got)
			}
			stays(t, b.Load, was)
		}
	}
}

// P15.1, R6: a Load that is nil is as an empty one.
func TestSameEmpty(t *testing.T) {
	empty := [][]byte{nil, {}, make([]byte, 0, 9)}
	for _, a := range empty {
		for _, b := range empty {
			if !net.Same(api.Msg{Kind: 1, Load: a}, api.Msg{Kind: 1, Load: b}) {
				t.Fatalf("Loads %#v and %#v are unlike", a, b)
			}
		}
		if net.Same(api.Msg{Load: a}, api.Msg{Load: []byte{0}}) || net.Same(api.Msg{Load: []byte{0}}, api.Msg{Load: a}) {
			t.Fatalf("Load %#v is as one with a byte", a)
		}
	}
}

// P15.3: no two messages have the same bytes.
func TestOneForm(t *testing.T) {
	seen := map[string]api.Msg{}
	put := func(m api.Msg) {
		b, err := net.Pack(m)
		if err != api.OK {
			t.Fatalf("Pack of %v: %v", m, err)
		}
		if other, ok := seen[string(b)]; ok && !same(other, m) {
			t.Fatalf("%v and %v have the same bytes", other, m)
		}
		seen[string(b)] = m
	}
	for which := range 2187 {
		var m api.Msg
		for _, n := range fields(&m) {
			*n = which % 3
			which /= 3
		}
		m.Load = make([]byte, which)
		put(m)
	}
	if len(seen) != 2187 {
		t.Fatalf("%d lists of bytes, want 2187", len(seen))
	}
}

// P15.4: of a message's bytes with one of them turned, by whatever, nothing is unpacked.
func TestTurned(t *testing.T) {
	for _, m := range []api.Msg{{}, some(), {From: 15, To: 15, Kind: most, Epoch: most, Seq: most, Ack: most, Load: bytes.Repeat([]byte{255}, 40)}} {
		b := coded(m)
		for at := range b {
			for by := 1; by < 256; by++ {
				b[at] ^= byte(by)
				if back, err := net.Unpack(b); err != api.ErrSum || !same(back, api.Msg{}) {
					t.Fatalf("the byte %d turned by %d: %v, %v", at, by, back, err)
				}
				b[at] ^= byte(by)
			}
		}
	}
	long := api.Msg{Load: noise(7, longest)}
	b := coded(long)
	for at := range b {
		for _, by := range []byte{1, 2, 16, 128, 255, byte(at)} {
			if by == 0 {
				continue
			}
			b[at] ^= by
			if back, err := net.Unpack(b); err != api.ErrSum || !same(back, api.Msg{}) {
				t.Fatalf("the byte %d turned by %d: %v, %v", at, by, back, err)
			}
			b[at] ^= by
		}
	}
}

// R1, R3: whatever the bytes are, Unpack ends, and the same bytes have the same answer.
func TestUnpackNoise(t *testing.T) {
	dice := rand.New(rand.NewSource(8))
	for i := range 5000 {
		b := noise(int64(i), dice.Intn(200))
		if i%2 == 0 {
			b = sealed(b)
		}
		m, err := unpacks(t, b)
		again, why := unpacks(t, b)
		if err == api.OK || err != why || !same(m, again) || !same(m, api.Msg{}) {
			t.Fatalf("% X: %v, %v, and then %v, %v", b, m, err, again, why)
		}
	}
}

// R4: what is answered is the caller's: to write into it turns no later answer.
func TestOwned(t *testing.T) {
	m := some()
	for range 3 {
		b, err := net.Pack(m)
		if err != api.OK || !bytes.Equal(b, coded(m)) {
			t.Fatalf("Pack: % X, %v", b, err)
		}
		fill(b, 0xEE)
		back, err := net.Unpack(coded(m))
		if err != api.OK || !same(back, m) {
			t.Fatalf("Unpack: %v, %v", back, err)
		}
		fill(back.Load, 0xEE)
	}
}
