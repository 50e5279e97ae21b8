package disk_test

import (
	"bytes"
	"maps"
	"math"
	"math/rand"
	"slices"
	"strings"
	"testing"

	"jackstay/api"
	"jackstay/disk"
)

// row is what a sector has behind a Write of text.
func row(text string) []byte {
	return append([]byte(text), make([]byte, 64-len(text))...)
}

// noise is n bytes that are the same in every run.
func noise(seed int64, n int) []byte {
	b := make([]byte, n)
	rand.New(rand.NewSource(seed)).Read(b)
	return b
}

func fresh(t *testing.T, sectors int) *disk.Disk {
	t.Helper()
	d, err := disk.New(sectors)
	if d == nil || err != api.OK {
		t.Fatalf("New(%d): %v, %v", sectors, d, err)
	}
	return d
}

// answers asks for an error, api.OK among them.
func answers(t *testing.T, what string, got, want api.Errno) {
	t.Helper()
	if got != want {
		t.Fatalf("%s: %v, want %v", what, got, want)
	}
}

func writes(t *testing.T, d *disk.Disk, i int, text string) {
	t.Helper()
	answers(t, "Write", d.Write(i, []byte(text)), api.OK)
}

func flushes(t *testing.T, d *disk.Disk) {
	t.Helper()
	answers(t, "Flush", d.Flush(), api.OK)
}

// restarts takes the power away, if it is there, and gives it back.
func restarts(t *testing.T, d *disk.Disk, keep ...bool) {
	t.Helper()
	d.Cut()
	answers(t, "Start", d.Start(keep), api.OK)
}

// stands asks what may be asked whether the power is on or off.
func stands(t *testing.T, d *disk.Disk, on bool, dirty, sectors int) {
	t.Helper()
	if d.On() != on || d.Dirty() != dirty || d.Sectors() != sectors {
		t.Fatalf("on %t, %d dirty, %d sectors: want %t, %d, %d", d.On(), d.Dirty(), d.Sectors(), on, dirty, sectors)
	}
}

// shows asks what the sectors from 0 on have, all of them.
func shows(t *testing.T, d *disk.Disk, texts ...string) {
	t.Helper()
	if d.Sectors() != len(texts) {
		t.Fatalf("%d sectors, want %d", d.Sectors(), len(texts))
	}
	for i, text := range texts {
		got, err := d.Read(i)
		if err != api.OK || !bytes.Equal(got, row(text)) {
			t.Fatalf("Read(%d): % X, %v: want %q and zeros", i, got, err, text)
		}
	}
}

func refuses(t *testing.T, d *disk.Disk, i int, want api.Errno) {
	t.Helper()
	got, err := d.Read(i)
	if len(got) != 0 || err != want {
		t.Fatalf("Read(%d): % X, %v: want nothing, %v", i, got, err, want)
	}
}

// P3.1: how many sectors there may be.
func TestNew(t *testing.T) {
	for _, n := range []int{math.MinInt, -257, -1, 0, 257, 258, 1024, math.MaxInt} {
		if d, err := disk.New(n); d != nil || err != api.ErrArg {
			t.Errorf("New(%d): %v, %v: want nil, ErrArg", n, d, err)
		}
	}
	for n := 1; n <= 256; n++ {
		d := fresh(t, n)
		stands(t, d, true, 0, n)
		shows(t, d, make([]string, n)...)
	}
}

// P3.1: a disk has no fuse at first: as many steps as one may go through are done.
func TestNewNoFuse(t *testing.T) {
	d := fresh(t, 2)
	for range 5000 {
		writes(t, d, 1, "x")
		flushes(t, d)
	}
	stands(t, d, true, 0, 2)
}

// The chapter's example.
func TestExample(t *testing.T) {
	for _, c := range []struct {
		keep []bool
		want string
	}{{nil, "a"}, {[]bool{true}, "b"}} {
		d := fresh(t, 1)
		writes(t, d, 0, "a")
		flushes(t, d)
		writes(t, d, 0, "b")
		d.Cut()
		answers(t, "Start", d.Start(c.keep), api.OK)
		shows(t, d, c.want)
	}
}

// P3.1: a sector has 64 bytes: what was written, and 0 behind it, whatever was there ahead.
func TestWriteLengths(t *testing.T) {
	for n := range 65 {
		b := bytes.Repeat([]byte{255}, n)
		for _, flushed := range []bool{false, true} {
			d := fresh(t, 3)
			answers(t, "Write", d.Write(1, noise(1, 64)), api.OK)
			if flushed {
				flushes(t, d)
			}
			answers(t, "Write", d.Write(1, b), api.OK)
			stands(t, d, true, 1, 3)
			shows(t, d, "", string(b), "")
			flushes(t, d)
			shows(t, d, "", string(b), "")
			restarts(t, d)
			shows(t, d, "", string(b), "")
		}
	}
}

// P3.1, R6: no bytes are a sector of zeros, nil or empty, and it is in the cache.
func TestWriteNone(t *testing.T) {
	for _, b := range [][]byte{nil, {}} {
		d := fresh(t, 2)
		writes(t, d, 0, "a")
		flushes(t, d)
		answers(t, "Write", d.Write(0, b), api.OK)
		stands(t, d, true, 1, 2)
		shows(t, d, "", "")
		restarts(t, d)
		shows(t, d, "a", "")
		answers(t, "Write", d.Write(0, b), api.OK)
		restarts(t, d, true)
		shows(t, d, "", "")
	}
}

// P3.1: each sector has bytes of its own, the last one of the greatest disk among them.
func TestWriteEach(t *testing.T) {
	for _, n := range []int{1, 2, 7, 255, 256} {
		d := fresh(t, n)
		var texts []string
		for i := range n {
			texts = append(texts, string(noise(int64(i), 64)))
			writes(t, d, i, texts[i])
			stands(t, d, true, i+1, n)
		}
		shows(t, d, texts...)
		flushes(t, d)
		stands(t, d, true, 0, n)
		shows(t, d, texts...)
		restarts(t, d)
		shows(t, d, texts...)
	}
}

// P3.1: what is written is what is read, and is not on the disk until a flush.
func TestCache(t *testing.T) {
	d := fresh(t, 3)
	writes(t, d, 2, "one")
	writes(t, d, 0, "two")
	stands(t, d, true, 2, 3)
	shows(t, d, "two", "", "one")
	writes(t, d, 2, "three")
	stands(t, d, true, 2, 3)
	shows(t, d, "two", "", "three")
	restarts(t, d)
	stands(t, d, true, 0, 3)
	shows(t, d, "", "", "")
	writes(t, d, 2, "four")
	flushes(t, d)
	writes(t, d, 2, "five")
	shows(t, d, "", "", "five")
	restarts(t, d)
	shows(t, d, "", "", "four")
}

// P3.1: a sector to which the same was written as it had is in the cache, too.
func TestCacheSame(t *testing.T) {
	d := fresh(t, 2)
	writes(t, d, 0, "")
	stands(t, d, true, 1, 2)
	writes(t, d, 1, "b")
	stands(t, d, true, 2, 2)
	restarts(t, d, false, true)
	shows(t, d, "", "b")
}

// P3.1: an empty cache may be flushed.
func TestFlushNone(t *testing.T) {
	d := fresh(t, 2)
	flushes(t, d)
	flushes(t, d)
	stands(t, d, true, 0, 2)
	shows(t, d, "", "")
}

// P3.1, R1: ErrArg is named ahead of ErrDown, and turns nothing, with the power on or off.
func TestArg(t *testing.T) {
	for _, on := range []bool{true, false} {
		for _, n := range []int{1, 3, 256} {
			d := fresh(t, n)
			writes(t, d, 0, "a")
			if !on {
				d.Cut()
			}
			for _, i := range []int{math.MinInt, -n, -1, n, n + 1, 256, 1 << 32, math.MaxInt} {
				answers(t, "Write of no sector", d.Write(i, []byte("x")), api.ErrArg)
				answers(t, "Write of no sector", d.Write(i, nil), api.ErrArg)
				answers(t, "Write of no sector, too long", d.Write(i, make([]byte, 65)), api.ErrArg)
				refuses(t, d, i, api.ErrArg)
			}
			for _, long := range []int{65, 66, 128, 1 << 16} {
				answers(t, "Write that is too long", d.Write(0, bytes.Repeat([]byte{1}, long)), api.ErrArg)
				answers(t, "Write that is too long", d.Write(n-1, make([]byte, long)), api.ErrArg)
			}
			stands(t, d, on, 1, n)
			restarts(t, d, true)
			shows(t, d, append([]string{"a"}, make([]string, n-1)...)...)
		}
	}
}

// P3.1, P3.2, P3.6: without power nothing is read, written or flushed; what was in the cache stays there.
func TestDown(t *testing.T) {
	for _, keep := range []bool{false, true} {
		d := fresh(t, 3)
		writes(t, d, 0, "a")
		flushes(t, d)
		writes(t, d, 0, "b")
		d.Cut()
		for range 2 {
			stands(t, d, false, 1, 3)
			answers(t, "Write", d.Write(0, []byte("x")), api.ErrDown)
			answers(t, "Write", d.Write(1, []byte("x")), api.ErrDown)
			answers(t, "Flush", d.Flush(), api.ErrDown)
			for i := range 3 {
				refuses(t, d, i, api.ErrDown)
			}
			d.Cut()
		}
		stands(t, d, false, 1, 3)
		restarts(t, d, keep)
		if keep {
			shows(t, d, "b", "", "")
		} else {
			shows(t, d, "a", "", "")
		}
	}
}

// P3.2: of a fuse so many steps are done, Writes and Flushes mixed; the next one finds the power off, and does nothing.
func TestFuse(t *testing.T) {
	for fuse := range 12 {
		for flush := range 12 {
			d := fresh(t, 16)
			d.Arm(fuse)
			durable, open := 0, 0
			for step := range fuse {
				if step == flush {
					flushes(t, d)
					durable, open = open, 0
				} else {
					writes(t, d, step, "x")
					open++
				}
				stands(t, d, true, open, 16)
			}
			if fuse == flush {
				answers(t, "Flush at the fuse's end", d.Flush(), api.ErrDown)
			} else {
				answers(t, "Write at the fuse's end", d.Write(fuse, []byte("x")), api.ErrDown)
			}
			stands(t, d, false, open, 16)
			restarts(t, d)
			want := make([]string, 16)
			for i := range durable {
				want[i] = "x"
			}
			shows(t, d, want...)
		}
	}
}

// P3.2, P3.6: a Write at the fuse's end leaves the sector in the cache as it was.
func TestFuseKeepsCache(t *testing.T) {
	d := fresh(t, 2)
	writes(t, d, 0, "a")
	d.Arm(0)
	stands(t, d, true, 1, 2)
	shows(t, d, "a", "")
	answers(t, "Write", d.Write(0, []byte("b")), api.ErrDown)
	stands(t, d, false, 1, 2)
	answers(t, "Write", d.Write(1, []byte("b")), api.ErrDown)
	stands(t, d, false, 1, 2)
	restarts(t, d, true, true)
	shows(t, d, "a", "")
}

// P3.2: a Flush at the fuse's end flushes nothing, and leaves all in the cache.
func TestFuseKeepsFlush(t *testing.T) {
	for _, keep := range []bool{false, true} {
		d := fresh(t, 1)
		writes(t, d, 0, "a")
		d.Arm(0)
		answers(t, "Flush", d.Flush(), api.ErrDown)
		stands(t, d, false, 1, 1)
		restarts(t, d, keep)
		if keep {
			shows(t, d, "a")
		} else {
			shows(t, d, "")
		}
	}
}

// P3.2: what is no step leaves the fuse: a Write that is ErrArg, and all calls beside Write and Flush.
func TestNoStep(t *testing.T) {
	for fuse := range 3 {
		d := fresh(t, 4)
		writes(t, d, 3, "a")
		d.Arm(fuse)
		idle := func() {
			answers(t, "Write", d.Write(4, nil), api.ErrArg)
			answers(t, "Write", d.Write(-1, nil), api.ErrArg)
			answers(t, "Write", d.Write(0, make([]byte, 65)), api.ErrArg)
			answers(t, "Start", d.Start([]bool{true, true, true, true}), api.ErrState)
			refuses(t, d, 4, api.ErrArg)
			if b, err := d.Read(3); err != api.OK || !bytes.Equal(b, row("a")) {
				t.Fatalf("Read: % X, %v", b, err)
			}
		}
		for i := range fuse {
			idle()
			stands(t, d, true, i+1, 4)
			writes(t, d, i, "x")
		}
		idle()
		stands(t, d, true, fuse+1, 4)
		answers(t, "Write", d.Write(3, nil), api.ErrDown)
		stands(t, d, false, fuse+1, 4)
	}
}

// P3.2: below 0 there is no fuse, and a later Arm is in the place of one ahead.
func TestArmAgain(t *testing.T) {
	for _, steps := range []int{-1, -2, math.MinInt} {
		d := fresh(t, 1)
		d.Arm(0)
		d.Arm(steps)
		for range 300 {
			writes(t, d, 0, "a")
			flushes(t, d)
		}
	}
	d := fresh(t, 1)
	d.Arm(5)
	writes(t, d, 0, "a")
	d.Arm(1)
	writes(t, d, 0, "b")
	d.Arm(2)
	writes(t, d, 0, "c")
	flushes(t, d)
	answers(t, "Flush", d.Flush(), api.ErrDown)
	d = fresh(t, 1)
	d.Arm(math.MaxInt)
	writes(t, d, 0, "a")
	flushes(t, d)
	stands(t, d, true, 0, 1)
}

// P3.2, P3.3: a Start takes the fuse away: one that has ended, one that was not used up, and one that was armed without power.
func TestStartNoFuse(t *testing.T) {
	for _, blow := range []bool{false, true} {
		for _, steps := range []int{-1, 0, 1, 3} {
			d := fresh(t, 1)
			if blow {
				d.Arm(0)
				answers(t, "Flush", d.Flush(), api.ErrDown)
			} else {
				d.Arm(3)
				d.Cut()
			}
			d.Arm(steps)
			stands(t, d, false, 0, 1)
			answers(t, "Write", d.Write(0, nil), api.ErrDown)
			answers(t, "Start", d.Start(nil), api.OK)
			for range 10 {
				writes(t, d, 0, "a")
				flushes(t, d)
			}
			stands(t, d, true, 0, 1)
		}
	}
}

// P3.3: with the power on there is no Start: cache and fuse stay.
func TestStartOn(t *testing.T) {
	d := fresh(t, 2)
	writes(t, d, 0, "a")
	for _, keep := range [][]bool{nil, {}, {true}, {false}} {
		answers(t, "Start", d.Start(keep), api.ErrState)
		stands(t, d, true, 1, 2)
		shows(t, d, "a", "")
	}
	d.Arm(1)
	answers(t, "Start", d.Start(nil), api.ErrState)
	writes(t, d, 1, "b")
	answers(t, "Flush", d.Flush(), api.ErrDown)
	restarts(t, d)
	answers(t, "Start", d.Start(nil), api.ErrState)
	shows(t, d, "", "")
}

// bits are n bools: those of a number.
func bits(number, n int) []bool {
	list := make([]bool, n)
	for i := range n {
		list[i] = number>>i&1 == 1
	}
	return list
}

// P3.3, P3.5: all caches of five sectors, and all that may be kept of them: the k-th one by rising number, with lists that are too short or too long.
func TestStartKeep(t *testing.T) {
	const n = 5
	for cached := range 1 << n {
		for long := range n + 3 {
			for kept := range 1 << long {
				d := fresh(t, n)
				want := make([]string, n)
				for i := range n {
					want[i] = strings.Repeat("o", i+1)
					writes(t, d, i, want[i])
				}
				flushes(t, d)
				keep := bits(kept, long)
				k := 0
				for i := range n {
					if !bits(cached, n)[i] {
						continue
					}
					if k < long && keep[k] {
						want[i] = strings.Repeat("n", n-i)
					}
					k++
				}
				// Written falling, so that the order of the Writes is another one than that of the numbers.
				for i := n - 1; i >= 0; i-- {
					if bits(cached, n)[i] {
						writes(t, d, i, strings.Repeat("n", n-i))
					}
				}
				d.Cut()
				stands(t, d, false, k, n)
				answers(t, "Start", d.Start(keep), api.OK)
				stands(t, d, true, 0, n)
				shows(t, d, want...)
				restarts(t, d, true, true, true, true, true)
				shows(t, d, want...)
			}
		}
	}
}

// P3.3: the order is that of numbers, of the greatest disk, too (2 is ahead of 10, and 99 of 100).
func TestStartKeepMany(t *testing.T) {
	random := rand.New(rand.NewSource(3))
	for range 40 {
		d := fresh(t, 256)
		want := make([]string, 256)
		for _, i := range random.Perm(256) {
			writes(t, d, i, "x")
		}
		keep := make([]bool, 256)
		for i := range keep {
			if keep[i] = random.Intn(2) == 1; keep[i] {
				want[i] = "x"
			}
		}
		restarts(t, d, keep...)
		shows(t, d, want...)
	}
}

// P3.5: of a sector that was written more than once, the last Write is what may be kept, and no other.
func TestStartLast(t *testing.T) {
	for _, c := range []struct {
		keep []bool
		want string
	}{{nil, "flushed"}, {[]bool{false, true}, "flushed"}, {[]bool{true}, "last"}} {
		d := fresh(t, 1)
		writes(t, d, 0, "first")
		writes(t, d, 0, "flushed")
		flushes(t, d)
		writes(t, d, 0, "third")
		writes(t, d, 0, "last")
		stands(t, d, true, 1, 1)
		restarts(t, d, c.keep...)
		shows(t, d, c.want)
	}
}

// P3.4: what was flushed ahead is there, through many losses of power, and one that was lost does not come again.
func TestStartAgain(t *testing.T) {
	d := fresh(t, 3)
	writes(t, d, 0, "a")
	writes(t, d, 1, "b")
	flushes(t, d)
	writes(t, d, 1, "lost")
	writes(t, d, 2, "kept")
	restarts(t, d, false, true)
	shows(t, d, "a", "b", "kept")
	for range 3 {
		restarts(t, d, true, true, true)
		stands(t, d, true, 0, 3)
		shows(t, d, "a", "b", "kept")
	}
	flushes(t, d)
	shows(t, d, "a", "b", "kept")
}

// P3.3, R5: a nil disk, and ones that New did not give, have nothing, whatever is called, and turn nothing.
func TestNil(t *testing.T) {
	given := fresh(t, 2)
	writes(t, given, 0, "a")
	copied := *given
	for _, d := range []*disk.Disk{nil, {}, new(disk.Disk), &copied} {
		for range 2 {
			stands(t, d, false, 0, 0)
			for _, i := range []int{math.MinInt, -1, 0, 1, math.MaxInt} {
				answers(t, "Write", d.Write(i, []byte("x")), api.ErrNil)
				answers(t, "Write", d.Write(i, make([]byte, 65)), api.ErrNil)
				refuses(t, d, i, api.ErrNil)
			}
			answers(t, "Flush", d.Flush(), api.ErrNil)
			d.Arm(0)
			answers(t, "Flush", d.Flush(), api.ErrNil)
			answers(t, "Start", d.Start(nil), api.ErrNil)
			d.Cut()
			answers(t, "Start", d.Start([]bool{true}), api.ErrNil)
			d.Arm(-1)
		}
	}
	// A copy is none, so that the disk's answers hang on the disk's own calls.
	stands(t, given, true, 1, 2)
	shows(t, given, "a", "")
	restarts(t, given)
	shows(t, given, "", "")
}

// R3: two disks go on apart.
func TestApart(t *testing.T) {
	one, two := fresh(t, 2), fresh(t, 2)
	writes(t, one, 0, "a")
	flushes(t, one)
	writes(t, one, 1, "b")
	one.Arm(0)
	stands(t, two, true, 0, 2)
	shows(t, two, "", "")
	writes(t, two, 0, "c")
	one.Cut()
	stands(t, two, true, 1, 2)
	restarts(t, one, true)
	shows(t, one, "a", "b")
	shows(t, two, "c", "")
}

// R4: a disk keeps nothing that it was handed, and writes into none of it.
func TestKeepsNothing(t *testing.T) {
	d := fresh(t, 2)
	whole := []byte("part, and what lies behind")
	writeAll := func() {
		for i := range 2 {
			answers(t, "Write", d.Write(i, whole[:4]), api.OK)
		}
	}
	writeAll()
	if string(whole) != "part, and what lies behind" {
		t.Fatal("Write wrote into what it was handed")
	}
	clear(whole)
	shows(t, d, "part", "part")
	flushes(t, d)
	copy(whole, "long")
	shows(t, d, "part", "part")
	writeAll()
	keep := []bool{true, false, true}
	d.Cut()
	answers(t, "Start", d.Start(keep), api.OK)
	if !slices.Equal(keep, []bool{true, false, true}) {
		t.Fatal("Start wrote into what it was handed")
	}
	clear(keep)
	clear(whole)
	shows(t, d, "long", "part")
}

// R4: what Read answers is the caller's, of the cache and of the disk, the room behind it, too.
func TestReadIsNew(t *testing.T) {
	d := fresh(t, 2)
	for _, flush := range []bool{false, true} {
		writes(t, d, 0, "a")
		writes(t, d, 1, "b")
		if flush {
			flushes(t, d)
		}
		for i := range 2 {
			one, _ := d.Read(i)
			two, _ := d.Read(i)
			whole := one[:cap(one)]
			for k := range whole {
				whole[k] = 255
			}
			_ = append(one, 1, 2, 3)
			if len(two) != 64 || two[0] == 255 {
				t.Fatal("two answers of Read share memory")
			}
		}
		shows(t, d, "a", "b")
	}
	late, _ := d.Read(0)
	writes(t, d, 0, "later")
	flushes(t, d)
	restarts(t, d)
	if !bytes.Equal(late, row("a")) {
		t.Fatal("what was answered turned with a later Write")
	}
}

// plain is a disk as the chapter words it: all Writes since the last flush are kept, in order.
type plain struct {
	on     bool
	fuse   int
	disk   []string
	writes []write
}

type write struct {
	at   int
	text string
}

func (p *plain) step() api.Errno {
	switch {
	case !p.on:
		return api.ErrDown
	case p.fuse == 0:
		p.on = false
		return api.ErrDown
	}
	p.fuse--
	return api.OK
}

func (p *plain) write(i int, text string) api.Errno {
	if i < 0 || i >= len(p.disk) || len(text) > 64 {
		return api.ErrArg
	}
	err := p.step()
	if err == api.OK {
		p.writes = append(p.writes, write{i, text})
	}
	return err
}

func (p *plain) read(i int) (string, api.Errno) {
	switch {
	case i < 0 || i >= len(p.disk):
		return "", api.ErrArg
	case !p.on:
		return "", api.ErrDown
	}
	text := p.disk[i]
	for _, w := range p.writes {
		if w.at == i {
			text = w.text
		}
	}
	return string(row(text)), api.OK
}

func (p *plain) flush() api.Errno {
	err := p.step()
	if err == api.OK {
		for _, w := range p.writes {
			p.disk[w.at] = w.text
		}
		p.writes = nil
	}
	return err
}

// cached are the numbers of the sectors in the cache, rising.
func (p *plain) cached() []int {
	set := map[int]int{}
	for _, w := range p.writes {
		set[w.at]++
	}
	return slices.Sorted(maps.Keys(set))
}

func (p *plain) start(keep []bool) api.Errno {
	if p.on {
		return api.ErrState
	}
	cached := p.cached()
	for _, w := range p.writes {
		if k := slices.Index(cached, w.at); k < len(keep) && keep[k] {
			p.disk[w.at] = w.text
		}
	}
	p.writes, p.on, p.fuse = nil, true, -1
	return api.OK
}

// bools are some bools, often as many as there are sectors.
func bools(random *rand.Rand, n int) []bool {
	list := make([]bool, max(0, n+random.Intn(3)-1))
	for i := range list {
		list[i] = random.Intn(2) == 1
	}
	return list
}

// P3.1 to P3.6, R5, R7: methods in any order are as their words.
func TestPlain(t *testing.T) {
	random := rand.New(rand.NewSource(5))
	for range 3000 {
		n := 1 + random.Intn(6)
		d, p := fresh(t, n), &plain{on: true, fuse: -1, disk: make([]string, n)}
		for range 60 {
			var got, want api.Errno
			what := "Write"
			switch random.Intn(10) {
			case 0:
				what = "Start"
				keep := bools(random, n)
				got, want = d.Start(keep), p.start(keep)
			case 1:
				what = "Flush"
				got, want = d.Flush(), p.flush()
			case 2:
				what = "Arm"
				steps := random.Intn(12) - 2
				d.Arm(steps)
				p.fuse = steps
			case 3:
				what = "Cut"
				if random.Intn(3) == 0 {
					d.Cut()
					p.on = false
				}
			case 4:
				if !d.On() {
					what = "Start"
					got, want = d.Start(nil), p.start(nil)
				}
			default:
				i, text := random.Intn(n+2)-1, string(noise(random.Int63(), random.Intn(66)))
				got, want = d.Write(i, []byte(text)), p.write(i, text)
			}
			answers(t, what, got, want)
			stands(t, d, p.on, len(p.cached()), n)
			for i := -1; i <= n; i++ {
				b, err := d.Read(i)
				if text, want := p.read(i); string(b) != text || err != want {
					t.Fatalf("behind %s: Read(%d): % X, %v: want % X, %v", what, i, b, err, text, want)
				}
			}
		}
	}
}
