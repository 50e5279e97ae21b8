package net_test

import (
	"bytes"
	"math"
	"math/rand"
	"runtime"
	"slices"
	"strconv"
	"testing"

	"jackstay/api"
	"jackstay/net"
)

// full is how many datagrams a bag has at most.
const full = 256

// gram is a datagram, and whether it is spoilt.
type gram struct {
	b      string
	spoilt bool
}

// bag is a bag, and what should be in it.
type bag struct {
	*net.Bag
	l []gram
}

func fresh(t *testing.T) *bag {
	t.Helper()
	b := &bag{Bag: net.New()}
	if b.Bag == nil {
		t.Fatal("New: nil")
	}
	b.stands(t)
	return b
}

func (b *bag) stands(t *testing.T) {
	t.Helper()
	if got := b.Size(); got != len(b.l) {
		t.Fatalf("Size: %d, want %d", got, len(b.l))
	}
}

// has tells whether there is an i-th datagram.
func (b *bag) has(i int) bool {
	return i >= 0 && i < len(b.l)
}

// put puts in datagrams that have room behind them, asks for how many came, and writes over them then.
func (b *bag) put(t *testing.T, grams ...string) {
	t.Helper()
	var handed [][]byte
	want := 0
	for _, g := range grams {
		handed = append(handed, room([]byte(g)))
		if len(b.l) < full {
			b.l = append(b.l, gram{b: g})
			want++
		}
	}
	handed = append(handed, []byte("behind"))
	if got := b.Put(handed[:len(grams)]...); got != want {
		t.Fatalf("Put of %d: %d, want %d", len(grams), got, want)
	}
	for i, g := range grams {
		stays(t, handed[i], []byte(g))
		fill(handed[i], 0xA5)
	}
	if string(handed[len(grams)]) != "behind" {
		t.Fatalf("Put turned what lies behind the list: %q", handed[len(grams)])
	}
	clear(handed)
	b.stands(t)
}

// take takes one out, and writes over it then.
func (b *bag) take(t *testing.T, i int) {
	t.Helper()
	got, spoilt, err := b.Take(i)
	var g gram
	want := api.ErrNone
	if b.has(i) {
		g, want = b.l[i], api.OK
		b.l = slices.Delete(b.l, i, i+1)
	}
	if string(got) != g.b || spoilt != g.spoilt || err != want {
		t.Fatalf("Take(%d): %q, %v, %v: want %q, %v, %v", i, got, spoilt, err, g.b, g.spoilt, want)
	}
	fill(got, 0x5A)
	b.stands(t)
}

func (b *bag) twice(t *testing.T, i int) {
	t.Helper()
	want := api.OK
	switch {
	case !b.has(i):
		want = api.ErrNone
	case len(b.l) == full:
		want = api.ErrMany
	default:
		b.l = append(b.l, b.l[i])
	}
	if err := b.Twice(i); err != want {
		t.Fatalf("Twice(%d): %v, want %v", i, err, want)
	}
	b.stands(t)
}

func (b *bag) turn(t *testing.T, i, at int, by byte) {
	t.Helper()
	want := api.OK
	switch {
	case !b.has(i):
		want = api.ErrNone
	case b.l[i].spoilt:
		want = api.ErrTwice
	case b.l[i].b == "" || by == 0:
		want = api.ErrArg
	default:
		g := []byte(b.l[i].b)
		g[modulo(at, len(g))] ^= by
		b.l[i] = gram{string(g), true}
	}
	if err := b.Turn(i, at, by); err != want {
		t.Fatalf("Turn(%d, %d, %d): %v, want %v", i, at, by, err, want)
	}
	b.stands(t)
}

// modulo is what is left of at, from 0 to ahead of n.
func modulo(at, n int) int {
	return (at%n + n) % n
}

// empty takes all out, from one end or the other.
func (b *bag) empty(t *testing.T, first bool) {
	t.Helper()
	for len(b.l) > 0 {
		if first {
			b.take(t, 0)
		} else {
			b.take(t, len(b.l)-1)
		}
	}
	b.take(t, 0)
}

// nowhere are numbers of no datagram of a bag of n.
func nowhere(n int) []int {
	return []int{math.MinInt, -full - 1, -full, -n - 1, -2, -1, n, n + 1, full, full + 1, 1 << 32, math.MaxInt}
}

// names are n datagrams that are all unlike.
func names(n int) []string {
	var l []string
	for i := range n {
		l = append(l, "gram "+strconv.Itoa(i))
	}
	return l
}

// of is a bag of these datagrams.
func of(t *testing.T, grams ...string) *bag {
	t.Helper()
	b := fresh(t)
	b.put(t, grams...)
	return b
}

// The chapter's example.
func TestExample(t *testing.T) {
	gram, err := net.Pack(some())
	if err != api.OK {
		t.Fatal(err)
	}
	b := net.New()
	if b.Put(gram) != 1 || b.Twice(0) != api.OK || b.Turn(1, 0, 1) != api.OK || b.Size() != 2 {
		t.Fatal("no bag of one, and of one more that is turned")
	}
	first, spoilt, err := b.Take(0)
	if m, why := net.Unpack(first); spoilt || err != api.OK || why != api.OK || !same(m, some()) {
		t.Fatalf("the first one: %v, %v, %v, %v", spoilt, err, m, why)
	}
	other, spoilt, err := b.Take(0)
	if m, why := net.Unpack(other); !spoilt || err != api.OK || why != api.ErrSum || !same(m, api.Msg{}) {
		t.Fatalf("the second one: %v, %v, %v, %v", spoilt, err, m, why)
	}
}

// P15.2: how many come of none, of some, and of more than there is room for.
func TestPut(t *testing.T) {
	b := fresh(t)
	b.put(t)
	b.put(t, "a")
	b.put(t, "b", "", "a")
	b.put(t)
	b.empty(t, true)
	for _, ahead := range []int{0, 1, 100, 254, 255, 256} {
		for _, more := range []int{0, 1, 2, 155, 156, 157, 255, 256, 257, 600} {
			b := of(t, names(ahead)...)
			b.put(t, names(more)...)
			b.put(t, "behind")
			b.empty(t, ahead%2 == 0)
		}
	}
}

// P15.2: one by one, the 257th does not come; behind a Take there is room for one more.
func TestPutFull(t *testing.T) {
	b := fresh(t)
	for i, g := range names(full + 3) {
		if got, want := b.Put([]byte(g)), min(1, max(0, full-i)); got != want {
			t.Fatalf("Put of the %d-th: %d, want %d", i, got, want)
		}
	}
	for _, g := range names(full) {
		b.l = append(b.l, gram{b: g})
	}
	for _, i := range []int{0, 255, 100} {
		b.take(t, i)
		b.put(t, "one", "another")
		b.put(t, "a third")
	}
	b.empty(t, true)
	b.put(t, names(full)...)
	b.empty(t, false)
}

// P15.2: a datagram may be any bytes, also none (R6), and many.
func TestPutAny(t *testing.T) {
	b := net.New()
	if got := b.Put(nil, []byte{}, []byte{0}, noise(1, 70000)); got != 4 {
		t.Fatalf("Put: %d, want 4", got)
	}
	for _, want := range [][]byte{nil, nil, {0}, noise(1, 70000)} {
		got, spoilt, err := b.Take(0)
		if !bytes.Equal(got, want) || spoilt || err != api.OK {
			t.Fatalf("Take: %d bytes, %v, %v: want %d", len(got), spoilt, err, len(want))
		}
	}
	if b.Put() != 0 || b.Put([][]byte{}...) != 0 || b.Put(nil...) != 0 || b.Size() != 0 {
		t.Fatal("none are some")
	}
}

// P15.2: which one goes, and that the others stay as they are, in order.
func TestTake(t *testing.T) {
	for n := range 6 {
		for i := range n {
			for j := range n {
				b := of(t, names(n)...)
				b.turn(t, j, 1, 9)
				b.take(t, i)
				b.empty(t, true)
			}
		}
	}
	b := of(t, names(full)...)
	for _, i := range []int{255, 0, 100, 252, 0, 1} {
		b.take(t, i)
	}
	b.empty(t, true)
}

// P15.2, R7: where there is no such datagram the answer is ErrNone, ahead of all other errors, and nothing is turned.
func TestNone(t *testing.T) {
	for _, n := range []int{0, 1, 3, 255, 256} {
		b := of(t, names(n)...)
		if n > 1 {
			b.turn(t, 1, 2, 3)
		}
		for _, i := range nowhere(n) {
			if b.has(i) {
				continue
			}
			b.take(t, i)
			b.twice(t, i)
			for _, by := range []byte{0, 1} {
				b.turn(t, i, 0, by)
			}
		}
		b.empty(t, false)
	}
}

// P15.2: such a one comes behind, spoilt as it is; neither goes with the other, nor is turned with it.
func TestTwice(t *testing.T) {
	for i := range 3 {
		for _, spoil := range []bool{false, true} {
			for turned := range 4 {
				b := of(t, "one", "two", "")
				if spoil {
					b.turn(t, i, 0, 255)
				}
				b.twice(t, i)
				b.turn(t, turned, 1, 7)
				b.twice(t, 3)
				b.take(t, turned)
				b.twice(t, i)
				b.empty(t, i == 1)
			}
		}
	}
}

// P15.2, R7: with 256 there is no room for one more, and nothing is turned; with 255 there is.
func TestTwiceFull(t *testing.T) {
	for _, n := range []int{254, 255, 256} {
		b := of(t, names(n)...)
		b.turn(t, 3, 0, 1)
		for _, i := range []int{0, 3, 253, 100} {
			b.twice(t, i)
		}
		b.take(t, 0)
		b.twice(t, 2)
		b.twice(t, 2)
		b.empty(t, true)
	}
	b := of(t, "once")
	for range full + 4 {
		b.twice(t, len(b.l)-1)
	}
	b.empty(t, false)
}

// P15.2: which byte is turned, by whatever, also below 0 and past the end.
func TestTurn(t *testing.T) {
	for n := 1; n <= 9; n++ {
		gram := string(noise(int64(n), n))
		for at := -3 * n; at <= 3*n; at++ {
			b := of(t, gram, gram)
			b.turn(t, 0, at, byte(at)|1)
			b.empty(t, true)
		}
		for _, at := range []int{math.MinInt, math.MinInt + 1, -1 << 40, -256, -255, 255, 256, 1 << 32, 1<<40 + 1, math.MaxInt - 1, math.MaxInt} {
			b := of(t, gram)
			b.turn(t, 0, at, 0x81)
			b.empty(t, true)
		}
	}
	for by := 1; by < 256; by++ {
		b := of(t, "abc", "abc")
		b.turn(t, 1, 1, byte(by))
		b.empty(t, true)
	}
}

// P15.2: what the turned byte is, written out.
func TestTurnKnown(t *testing.T) {
	for _, c := range []struct {
		at   int
		by   byte
		want string
	}{
		{0, 0x20, "Abc"}, {1, 0x20, "aBc"}, {2, 0x20, "abC"}, {3, 0x20, "Abc"}, {5, 0x20, "abC"},
		{-1, 0x20, "abC"}, {-2, 0x20, "aBc"}, {-3, 0x20, "Abc"}, {-4, 0x20, "abC"},
		{0, 0x03, "bbc"}, {0, 0x61, "\x00bc"}, {2, 0xFF, "ab\x9C"},
	} {
		b := net.New()
		b.Put([]byte("abc"))
		if err := b.Turn(0, c.at, c.by); err != api.OK {
			t.Fatalf("Turn(0, %d, %d): %v", c.at, c.by, err)
		}
		if got, spoilt, err := b.Take(0); string(got) != c.want || !spoilt || err != api.OK {
			t.Fatalf("turned at %d by %d: %q, %v, %v: want %q", c.at, c.by, got, spoilt, err, c.want)
		}
	}
}

// P15.2, R7: what is spoilt is ErrTwice, also by 0 and by what would turn it back; one of no bytes, and one by 0, is ErrArg, and not spoilt then.
func TestTurnWrong(t *testing.T) {
	b := of(t, "one", "", "two")
	for _, at := range []int{math.MinInt, -1, 0, 1, math.MaxInt} {
		for _, by := range []byte{0, 1, 255} {
			b.turn(t, 1, at, by)
		}
		b.turn(t, 0, at, 0)
		b.turn(t, 2, at, 0)
	}
	b.turn(t, 0, 2, 4)
	for _, at := range []int{math.MinInt, -1, 0, 1, 2, 5, math.MaxInt} {
		for _, by := range []byte{0, 4, 255} {
			b.turn(t, 0, at, by)
		}
	}
	b.twice(t, 0)
	b.turn(t, 3, 2, 4)
	b.turn(t, 3, 0, 0)
	b.turn(t, 2, 0, 1)
	b.empty(t, true)
}

// P15.2, R5: a nil bag, and one that New did not give, answer ErrNil, nothing, 0.
func TestNil(t *testing.T) {
	made := net.New()
	made.Put([]byte("a"), []byte("b"))
	twin := *made
	for i, b := range []*net.Bag{nil, {}, new(net.Bag), &twin} {
		for range 2 {
			if b.Put() != 0 || b.Put([]byte("a")) != 0 || b.Put([]byte("a"), nil) != 0 || b.Size() != 0 {
				t.Fatalf("%d: something came", i)
			}
			for _, at := range []int{math.MinInt, -1, 0, 1, math.MaxInt} {
				if got, spoilt, err := b.Take(at); len(got) != 0 || spoilt || err != api.ErrNil {
					t.Fatalf("%d: Take(%d): %q, %v, %v", i, at, got, spoilt, err)
				}
				if err := b.Twice(at); err != api.ErrNil {
					t.Fatalf("%d: Twice(%d): %v", i, at, err)
				}
				for _, by := range []byte{0, 1} {
					if err := b.Turn(at, at, by); err != api.ErrNil {
						t.Fatalf("%d: Turn(%d, %d, %d): %v", i, at, at, by, err)
					}
				}
			}
		}
	}
	left := &bag{made, []gram{{b: "a"}, {b: "b"}}}
	left.empty(t, true)
}

// R3: bags have nothing of one another.
func TestApart(t *testing.T) {
	a, b := of(t, "a", "both"), of(t, "both", "b")
	a.turn(t, 1, 0, 1)
	b.twice(t, 0)
	a.take(t, 0)
	b.turn(t, 2, 1, 1)
	a.put(t, "c")
	a.empty(t, true)
	b.empty(t, true)
}

// R4: a datagram that was taken is the caller's, and one that is put in again comes as it is then, not spoilt.
func TestOwnedGrams(t *testing.T) {
	b := of(t, "one", "one")
	b.twice(t, 0)
	got, _, err := b.Take(2)
	if err != api.OK {
		t.Fatal(err)
	}
	b.l = b.l[:2]
	fill(got, '?')
	for _, g := range [][]byte{got, got} {
		if b.Put(g) != 1 {
			t.Fatal("not put again")
		}
		b.l = append(b.l, gram{b: "???"})
	}
	fill(got, '!')
	b.turn(t, 2, 0, 1)
	if string(got[:3]) != "!!!" {
		t.Fatalf("a Turn turned what was taken: %q", got)
	}
	again, spoilt, err := b.Take(2)
	if string(again) != ">??" || !spoilt || err != api.OK {
		t.Fatalf("Take: %q, %v, %v", again, spoilt, err)
	}
	b.l = slices.Delete(b.l, 2, 3)
	if b.Put(again) != 1 {
		t.Fatal("not put again")
	}
	b.l = append(b.l, gram{b: ">??"})
	b.turn(t, 3, 0, 1)
	b.empty(t, true)
}

// steps are what may be done to a small bag, also where it is refused.
func steps() []func(t *testing.T, b *bag) {
	l := []func(t *testing.T, b *bag){
		func(t *testing.T, b *bag) { b.put(t, "ab") },
		func(t *testing.T, b *bag) { b.put(t, "c", "") },
	}
	for i := range 3 {
		l = append(l,
			func(t *testing.T, b *bag) { b.take(t, i) },
			func(t *testing.T, b *bag) { b.twice(t, i) },
			func(t *testing.T, b *bag) { b.turn(t, i, 1, 1) },
			func(t *testing.T, b *bag) { b.turn(t, i, -2, 6) },
		)
	}
	return l
}

// P15.2, P15.5, R5: every way of up to five steps, and what is there then.
func TestWays(t *testing.T) {
	all := steps()
	var try func(way []int)
	try = func(way []int) {
		b := fresh(t)
		for _, s := range way {
			all[s](t, b)
		}
		b.empty(t, len(way)%2 == 0)
		if len(way) == 5 {
			return
		}
		for s := range all {
			// A first step that finds nothing is tried by TestNone.
			if len(way) > 0 || s < 2 {
				try(append(slices.Clip(way), s))
			}
		}
	}
	try(nil)
}

// P15.2, P15.5, R3: long ways over bags that are often full, each twice.
func TestLongWays(t *testing.T) {
	for seed := range int64(60) {
		dice := rand.New(rand.NewSource(seed / 2))
		b := fresh(t)
		b.put(t, names(dice.Intn(full+40))...)
		for range 400 {
			i := dice.Intn(len(b.l)+4) - 2
			switch dice.Intn(7) {
			case 0, 1:
				b.put(t, names(dice.Intn(4))...)
			case 2, 3:
				b.take(t, i)
			case 4:
				b.twice(t, i)
			case 5:
				b.turn(t, i, dice.Int()-dice.Int(), byte(dice.Intn(256)))
			case 6:
				b.put(t, string(noise(dice.Int63(), dice.Intn(80))))
			}
		}
		b.empty(t, seed%2 == 0)
	}
}

// P15.4, P15.5: of messages that are doubled, turned and mixed up each that is not spoilt is unpacked, and is one that was put; a spoilt one is not.
func TestSpoilt(t *testing.T) {
	dice := rand.New(rand.NewSource(9))
	for range 60 {
		b := net.New()
		sent := map[string]bool{}
		for range 20 {
			gram, err := net.Pack(chance(dice))
			if err != api.OK || b.Put(gram) != 1 {
				t.Fatal(err)
			}
			sent[string(gram)] = true
		}
		for range 60 {
			i := dice.Intn(b.Size())
			if dice.Intn(2) == 0 {
				b.Twice(i)
			} else {
				b.Turn(i, dice.Int()-dice.Int(), byte(dice.Intn(256)))
			}
		}
		for b.Size() > 0 {
			gram, spoilt, err := b.Take(dice.Intn(b.Size()))
			m, why := net.Unpack(gram)
			if err != api.OK || sent[string(gram)] == spoilt {
				t.Fatalf("Take: spoilt %v, %v", spoilt, err)
			}
			if spoilt && (why != api.ErrSum || !same(m, api.Msg{})) || !spoilt && (why != api.OK || !bytes.Equal(coded(m), gram)) {
				t.Fatalf("spoilt %v: %v, %v", spoilt, m, why)
			}
		}
	}
}

// P15.4: each byte of a message's datagram, turned in a bag by anything.
func TestSpoiltEach(t *testing.T) {
	m := some()
	gram := coded(m)
	for at := range gram {
		b := net.New()
		for range 255 {
			b.Put(gram)
		}
		for by := 1; by < 256; by++ {
			if err := b.Turn(by-1, at, byte(by)); err != api.OK {
				t.Fatalf("Turn(%d, %d, %d): %v", by-1, at, by, err)
			}
		}
		for b.Size() > 0 {
			got, spoilt, err := b.Take(0)
			if back, why := net.Unpack(got); !spoilt || err != api.OK || why != api.ErrSum || !same(back, api.Msg{}) {
				t.Fatalf("turned at %d: %v, %v, %v, %v", at, spoilt, err, back, why)
			}
		}
	}
}

// A bag keeps no bytes of what went out of it.
func TestLean(t *testing.T) {
	const size = 1 << 17
	held := func() int {
		runtime.GC()
		var m runtime.MemStats
		runtime.ReadMemStats(&m)
		return int(m.HeapAlloc)
	}
	gram := make([]byte, size)
	b := net.New()
	for range full {
		b.Put(gram)
	}
	before := held()
	for b.Size() > 0 {
		b.Take(b.Size() - 1)
	}
	if after := held(); before-after < full*size/2 {
		t.Fatalf("%d bytes are held with all datagrams, and %d with none", before, after)
	}
	runtime.KeepAlive(b)
}
