package wal_test

import (
	"bytes"
	"math"
	"math/rand"
	"slices"
	"strings"
	"testing"

	"jackstay/api"
	"jackstay/disk"
	"jackstay/pack"
	"jackstay/sum"
	"jackstay/wal"
)

// row is text and zeros behind it: what a place has, or a sector.
func row(text string, long int) []byte {
	return append([]byte(text), make([]byte, long-len(text))...)
}

// noise is n bytes that are the same in every run.
func noise(seed int64, n int) []byte {
	b := make([]byte, n)
	rand.New(rand.NewSource(seed)).Read(b)
	return b
}

// up is an update.
func up(at int, text string) wal.Update {
	return wal.Update{At: at, Data: []byte(text)}
}

// ups are updates of the places from one on.
func ups(from, n int, text string) []wal.Update {
	var list []wal.Update
	for i := range n {
		list = append(list, up(from+i, text))
	}
	return list
}

// answers asks for an error, api.OK among them.
func answers(t *testing.T, what string, got, want api.Errno) {
	t.Helper()
	if got != want {
		t.Fatalf("%s: %v, want %v", what, got, want)
	}
}

func fresh(t *testing.T, sectors int) *disk.Disk {
	t.Helper()
	d, err := disk.New(sectors)
	answers(t, "New", err, api.OK)
	return d
}

// noisy is a disk whose sectors have all been written.
func noisy(t *testing.T, sectors int) *disk.Disk {
	t.Helper()
	d := fresh(t, sectors)
	for i := range sectors {
		answers(t, "Write", d.Write(i, noise(int64(i), 64)), api.OK)
	}
	answers(t, "Flush", d.Flush(), api.OK)
	return d
}

func opens(t *testing.T, d *disk.Disk) *wal.Log {
	t.Helper()
	l, err := wal.Open(d)
	if l == nil || err != api.OK {
		t.Fatalf("Open: %v, %v", l, err)
	}
	return l
}

// laid is a log without changes, and its disk.
func laid(t *testing.T, places int) (*wal.Log, *disk.Disk) {
	t.Helper()
	d := fresh(t, 9+places)
	answers(t, "Format", wal.Format(d), api.OK)
	return opens(t, d), d
}

func commits(t *testing.T, l *wal.Log, updates ...wal.Update) {
	t.Helper()
	answers(t, "Commit", l.Commit(updates...), api.OK)
}

// restarts takes the power away, if it is there, and gives it back.
func restarts(t *testing.T, d *disk.Disk, keep ...bool) {
	t.Helper()
	d.Cut()
	answers(t, "Start", d.Start(keep), api.OK)
}

// state is what a log shows: the last change's number, and the places.
type state struct {
	number int
	texts  []string
}

// behind is what a log shows behind one change more.
func (s state) behind(updates ...wal.Update) state {
	texts := slices.Clone(s.texts)
	for _, u := range updates {
		texts[u.At] = string(u.Data)
	}
	return state{s.number + 1, texts}
}

// fits tells whether l shows s.
func (s state) fits(l *wal.Log) bool {
	if l.Number() != s.number || l.Places() != len(s.texts) {
		return false
	}
	for i, text := range s.texts {
		b, err := l.Read(i)
		if err != api.OK || !bytes.Equal(b, row(text, 48)) {
			return false
		}
	}
	return l.Number() == s.number
}

// shows asks for a number and the texts of all places.
func shows(t *testing.T, l *wal.Log, number int, texts ...string) {
	t.Helper()
	if !(state{number, texts}).fits(l) {
		t.Fatalf("number %d, places %q: want %d, %q", l.Number(), seen(l), number, texts)
	}
}

// seen are the texts of all places, without zeros behind them.
func seen(l *wal.Log) []string {
	var texts []string
	for i := range l.Places() {
		b, _ := l.Read(i)
		texts = append(texts, strings.TrimRight(string(b), "\x00"))
	}
	return texts
}

// bits are n bools: those of a number.
func bits(number, n int) []bool {
	list := make([]bool, n)
	for i := range n {
		list[i] = number>>i&1 == 1
	}
	return list
}

// unmade are disks that New did not give.
func unmade(t *testing.T) []*disk.Disk {
	copied := *fresh(t, 20)
	return []*disk.Disk{nil, {}, &copied}
}

// The chapter's example, and the document's third: a change of six places.
func TestExample(t *testing.T) {
	l, d := laid(t, 1)
	commits(t, l, up(0, "a"))
	restarts(t, d)
	shows(t, opens(t, d), 1, "a")
	l, d = laid(t, 6)
	commits(t, l, ups(0, 6, "six")...)
	restarts(t, d)
	shows(t, opens(t, d), 1, "six", "six", "six", "six", "six", "six")
}

// P4.1: a log of any size: no changes, all places 0, whatever the disk had, all of it flushed.
func TestFormat(t *testing.T) {
	for n := 10; n <= 256; n++ {
		for _, d := range []*disk.Disk{fresh(t, n), noisy(t, n)} {
			answers(t, "Format", wal.Format(d), api.OK)
			if d.Dirty() != 0 || !d.On() {
				t.Fatalf("%d sectors are not flushed, power %t", d.Dirty(), d.On())
			}
			for i := 9; i < n; i++ {
				if b, err := d.Read(i); err != api.OK || !bytes.Equal(b, make([]byte, 64)) {
					t.Fatalf("sector %d: % X, %v", i, b, err)
				}
			}
			shows(t, opens(t, d), 0, make([]string, n-9)...)
			restarts(t, d)
			shows(t, opens(t, d), 0, make([]string, n-9)...)
		}
	}
}

// P4.1: no log lies on too few sectors, on none, or on a disk that was not made; ErrArg is named ahead of ErrDown.
func TestTooSmall(t *testing.T) {
	disks := unmade(t)
	for n := 1; n < 10; n++ {
		off := noisy(t, n)
		off.Cut()
		disks = append(disks, fresh(t, n), noisy(t, n), off)
	}
	for _, d := range disks {
		on := d.On()
		answers(t, "Format", wal.Format(d), api.ErrArg)
		if l, err := wal.Open(d); l != nil || err != api.ErrArg {
			t.Fatalf("Open: %v, %v", l, err)
		}
		if d.On() != on || d.Dirty() != 0 {
			t.Fatalf("power %t, %d sectors in the cache", d.On(), d.Dirty())
		}
	}
}

// P4.1: a Format over a log leaves nothing of it, and numbers begin again; as often as one likes.
func TestFormatAgain(t *testing.T) {
	l, d := laid(t, 8)
	for round := range 7 {
		for n := range round + 1 {
			commits(t, l, ups(n%3, 6, "x")...)
		}
		answers(t, "Format", wal.Format(d), api.OK)
		restarts(t, d)
		l = opens(t, d)
		shows(t, l, 0, make([]string, 8)...)
		commits(t, l, up(7, "y"))
		shows(t, l, 1, "", "", "", "", "", "", "", "y")
		l = opens(t, d)
		shows(t, l, 1, "", "", "", "", "", "", "", "y")
	}
}

// P4.1: without power there is no Format and no Open, and neither turns anything; ErrDown is named ahead of ErrForm.
func TestDown(t *testing.T) {
	for _, bare := range []bool{true, false} {
		d := fresh(t, 12)
		if !bare {
			answers(t, "Format", wal.Format(d), api.OK)
			commits(t, opens(t, d), up(1, "a"))
		}
		d.Cut()
		answers(t, "Format", wal.Format(d), api.ErrDown)
		if l, err := wal.Open(d); l != nil || err != api.ErrDown {
			t.Fatalf("Open: %v, %v", l, err)
		}
		restarts(t, d)
		if !bare {
			shows(t, opens(t, d), 1, "", "a", "")
		} else if l, err := wal.Open(d); l != nil || err != api.ErrForm {
			t.Fatalf("Open: %v, %v", l, err)
		}
	}
}

// summed is a disk of small numbers with their sums.
func summed(t *testing.T, sectors int) *disk.Disk {
	t.Helper()
	d := fresh(t, sectors)
	for i := range sectors {
		var w pack.Writer
		w.Put(9, 1, 2, 0, 5, 6, 7)
		answers(t, "Write", d.Write(i, sum.Seal(append(w.Bytes(), 0, 0, 0, 0))), api.OK)
	}
	return d
}

// P4.1: where no log is, none is opened: no bytes, any bytes, a log's sectors without its heads.
func TestForm(t *testing.T) {
	headless := fresh(t, 12)
	answers(t, "Format", wal.Format(headless), api.OK)
	commits(t, opens(t, headless), up(0, "a"))
	for i := range 2 {
		answers(t, "Write", headless.Write(i, nil), api.OK)
	}
	same := fresh(t, 12)
	for i := range 12 {
		answers(t, "Write", same.Write(i, bytes.Repeat([]byte{255}, 64)), api.OK)
	}
	for _, d := range []*disk.Disk{fresh(t, 10), fresh(t, 256), noisy(t, 10), noisy(t, 256), headless, same, summed(t, 12)} {
		dirty := d.Dirty()
		if l, err := wal.Open(d); l != nil || err != api.ErrForm {
			t.Fatalf("Open: %v, %v", l, err)
		}
		if !d.On() || d.Dirty() != dirty {
			t.Fatalf("Open of no log turned the disk: power %t, %d in the cache", d.On(), d.Dirty())
		}
		answers(t, "Format", wal.Format(d), api.OK)
		shows(t, opens(t, d), 0, make([]string, d.Sectors()-9)...)
	}
}

// P4.1, R1: one bit that is turned in a head leaves the log, or no log: no Open panics, and none shows what was not there.
func TestTurnedBits(t *testing.T) {
	for head := range 2 {
		for bit := range 64 * 8 {
			l, d := laid(t, 2)
			commits(t, l, up(0, "a"), up(1, "b"))
			b, err := d.Read(head)
			answers(t, "Read", err, api.OK)
			b[bit/8] ^= 1 << (bit % 8)
			answers(t, "Write", d.Write(head, b), api.OK)
			if again, err := wal.Open(d); err == api.OK {
				shows(t, again, 1, "a", "b")
			} else {
				answers(t, "Open", err, api.ErrForm)
			}
		}
	}
}

// pending is a disk on which the last change has yet to be brought to its places by Open: the power went off between.
func pending(t *testing.T) *disk.Disk {
	t.Helper()
	for fuse := 0; ; fuse++ {
		l, d := laid(t, 3)
		breaks(t, l, d, fuse, 0, ups(0, 3, "a")...)
		b, err := d.Read(9)
		answers(t, "Read", err, api.OK)
		if again := opens(t, d); again.Number() == 0 || b[0] != 0 {
			continue
		}
		l, d = laid(t, 3)
		breaks(t, l, d, fuse, 0, ups(0, 3, "a")...)
		return d
	}
}

// P4.1, R1, R7: a change of which a note is gone is mended by no Open, now or later.
func TestNoteGone(t *testing.T) {
	for note := range 3 {
		d := pending(t)
		answers(t, "Write", d.Write(2+note, noise(1, 64)), api.OK)
		answers(t, "Flush", d.Flush(), api.OK)
		for range 2 {
			if l, err := wal.Open(d); l != nil || err != api.ErrForm {
				t.Fatalf("Open: %v, %v", l, err)
			}
			if d.Dirty() != 0 {
				t.Fatalf("%d sectors in the cache", d.Dirty())
			}
		}
		answers(t, "Format", wal.Format(d), api.OK)
		shows(t, opens(t, d), 0, "", "", "")
	}
}

// P4.1, R1: a note of no place is mended by no Open, either, and none of its change is.
func TestNoteNoPlace(t *testing.T) {
	for note := range 3 {
		for _, at := range []uint64{3, 4, 247, 256, 1 << 32, 1 << 63, math.MaxUint64} {
			d := pending(t)
			var w pack.Writer
			w.Put(at)
			forged := append(w.Bytes(), row("forged", 52)...)
			answers(t, "Write", d.Write(2+note, sum.Seal(forged)), api.OK)
			answers(t, "Flush", d.Flush(), api.OK)
			if l, err := wal.Open(d); l != nil || err != api.ErrForm {
				t.Fatalf("Open with a note of the place %d: %v, %v", at, l, err)
			}
			if d.Dirty() != 0 {
				t.Fatalf("%d sectors in the cache", d.Dirty())
			}
		}
	}
}

// R1: whatever numbers stand in heads and notes, under sums that are right, Open, Read and Commit end without a panic, and Open answers a log or ErrForm.
func TestForged(t *testing.T) {
	for sector := range 9 {
		for at := range 40 {
			for _, forged := range []byte{0, 1, 2, 3, 6, 7, 8, 63, 64, 127, 128, 255} {
				d := pending(t)
				b, err := d.Read(sector)
				answers(t, "Read", err, api.OK)
				b[at] = forged
				answers(t, "Write", d.Write(sector, sum.Seal(b[:60])), api.OK)
				l, err := wal.Open(d)
				if err == api.OK {
					seen(l)
					answers(t, "Commit", l.Commit(up(1, "b")), api.OK)
				} else {
					answers(t, "Open", err, api.ErrForm)
				}
			}
		}
	}
}

// P4.5: an Open turns no place and no number, however many there are; logs that were open go on.
func TestOpenAgain(t *testing.T) {
	l, d := laid(t, 3)
	want := state{0, make([]string, 3)}
	for n := range 20 {
		for range 3 {
			again := opens(t, d)
			if !want.fits(again) || !want.fits(l) {
				t.Fatalf("behind %d changes: %q and %q", n, seen(again), seen(l))
			}
		}
		updates := []wal.Update{up(n%3, strings.Repeat("x", n))}
		if n%2 == 1 {
			l = opens(t, d)
		}
		commits(t, l, updates...)
		want = want.behind(updates...)
	}
}

// P4.5: an Open of a log that is whole takes no step, so that it is there behind any fuse.
func TestOpenNoStep(t *testing.T) {
	l, d := laid(t, 7)
	commits(t, l, ups(1, 6, "a")...)
	d.Arm(0)
	shows(t, opens(t, d), 1, "", "a", "a", "a", "a", "a", "a")
	if !d.On() {
		t.Fatal("the power went off")
	}
}

// P4.2: what a change may have: none to six updates, of the first place to the last one, in any order.
func TestCommitCounts(t *testing.T) {
	for _, places := range []int{1, 2, 5, 6, 7, 20, 247} {
		for n := 0; n <= min(6, places); n++ {
			l, d := laid(t, places)
			want := state{0, make([]string, places)}
			for round := range 3 {
				var updates []wal.Update
				for i, at := range rand.New(rand.NewSource(int64(round))).Perm(places)[:n] {
					updates = append(updates, up(at, string(noise(int64(100*round+i), 48))))
				}
				commits(t, l, updates...)
				want = want.behind(updates...)
				if d.Dirty() != 0 {
					t.Fatalf("%d sectors are not flushed", d.Dirty())
				}
				shows(t, l, want.number, want.texts...)
			}
			restarts(t, d)
			shows(t, opens(t, d), want.number, want.texts...)
		}
	}
}

// P4.2: the first place and the last one.
func TestCommitEnds(t *testing.T) {
	l, d := laid(t, 247)
	commits(t, l, up(246, "last"), up(0, "first"))
	want := make([]string, 247)
	want[0], want[246] = "first", "last"
	shows(t, l, 1, want...)
	restarts(t, d)
	shows(t, opens(t, d), 1, want...)
}

// P4.2: bytes of any length up to 48, and 0 behind them, whatever the place had.
func TestCommitLengths(t *testing.T) {
	l, d := laid(t, 3)
	number := 0
	for n := range 49 {
		text := string(bytes.Repeat([]byte{255}, n))
		for _, ahead := range []string{"", string(noise(4, 48))} {
			commits(t, l, up(1, ahead))
			commits(t, l, up(1, text), up(2, text[:n/2]))
			number += 2
			shows(t, l, number, "", text, text[:n/2])
			restarts(t, d)
			shows(t, opens(t, d), number, "", text, text[:n/2])
		}
	}
}

// P4.2, R6: no bytes, nil or empty, make a place 0; no updates are a change with a number.
func TestCommitNone(t *testing.T) {
	l, d := laid(t, 2)
	for n, none := range [][]byte{nil, {}} {
		commits(t, l, up(0, "a"), up(1, "b"))
		commits(t, l, wal.Update{At: 0, Data: none})
		shows(t, l, 4*n+2, "", "b")
		commits(t, l)
		shows(t, l, 4*n+3, "", "b")
		restarts(t, d)
		shows(t, opens(t, d), 4*n+3, "", "b")
		commits(t, l, []wal.Update{}...)
		shows(t, l, 4*n+4, "", "b")
		restarts(t, d)
		shows(t, opens(t, d), 4*n+4, "", "b")
	}
}

// P4.2: the place i is the sector 9 and i: its bytes, and 0 behind them; no place that a change does not name is turned.
func TestSectors(t *testing.T) {
	l, d := laid(t, 9)
	commits(t, l, up(8, "eight"), up(0, "nought"), up(3, string(noise(9, 48))))
	want := []string{"nought", "", "", string(noise(9, 48)), "", "", "", "", "eight"}
	for range 2 {
		for i, text := range want {
			b, err := d.Read(9 + i)
			answers(t, "Read", err, api.OK)
			if !bytes.Equal(b, row(text, 64)) {
				t.Fatalf("sector %d: % X, want %q", 9+i, b, text)
			}
		}
		restarts(t, d)
	}
}

// P4.2, R1, R7: what is no change: ErrArg is named ahead of ErrTwice, ErrTwice ahead of ErrMany, all of them ahead of ErrDown; none turns anything, and none takes a step.
func TestRefused(t *testing.T) {
	long := strings.Repeat("x", 49)
	for _, c := range []struct {
		why     string
		updates []wal.Update
		want    api.Errno
	}{
		{"no place", ups(-1, 1, "x"), api.ErrArg},
		{"no place", ups(8, 1, "x"), api.ErrArg},
		{"no place", ups(9, 1, "x"), api.ErrArg},
		{"no place", ups(math.MinInt, 1, ""), api.ErrArg},
		{"no place", ups(math.MaxInt, 1, ""), api.ErrArg},
		{"no place", ups(1<<32, 1, ""), api.ErrArg},
		{"no place at the end", append(ups(0, 5, "x"), up(-1, "")), api.ErrArg},
		{"too long", ups(0, 1, long), api.ErrArg},
		{"too long at the end", append(ups(0, 5, "x"), up(5, strings.Repeat("\x00", 49))), api.ErrArg},
		{"far too long", ups(7, 1, strings.Repeat("x", 1<<16)), api.ErrArg},
		{"no place, and one twice", []wal.Update{up(0, "x"), up(0, "x"), up(8, "x")}, api.ErrArg},
		{"too long, and twice", []wal.Update{up(0, "x"), up(0, long)}, api.ErrArg},
		{"no place twice", []wal.Update{up(8, "x"), up(8, "x")}, api.ErrArg},
		{"no place, and too many", ups(0, 9, "x"), api.ErrArg},
		{"too long, and too many", append(ups(0, 6, "x"), up(6, long)), api.ErrArg},
		{"twice", []wal.Update{up(0, "x"), up(0, "x")}, api.ErrTwice},
		{"twice, the last ones", append(ups(2, 5, "x"), up(6, "")), api.ErrTwice},
		{"twice, first and last", append(ups(2, 5, "x"), up(2, "y")), api.ErrTwice},
		{"twice, and too many", append(ups(0, 8, "x"), up(7, "")), api.ErrTwice},
		{"seven times", append(append(ups(1, 1, ""), ups(1, 1, "")...), ups(1, 1, "")...), api.ErrTwice},
		{"seven", ups(0, 7, "x"), api.ErrMany},
		{"eight", ups(0, 8, ""), api.ErrMany},
	} {
		for _, on := range []bool{true, false} {
			l, d := laid(t, 8)
			commits(t, l, up(0, "a"), up(7, "b"))
			d.Arm(0)
			if !on {
				d.Cut()
			}
			answers(t, c.why, l.Commit(c.updates...), c.want)
			if d.On() != on || d.Dirty() != 0 || l.Number() != 1 {
				t.Fatalf("%s: power %t, %d in the cache, number %d", c.why, d.On(), d.Dirty(), l.Number())
			}
			restarts(t, d)
			shows(t, l, 1, "a", "", "", "", "", "", "", "b")
			shows(t, opens(t, d), 1, "a", "", "", "", "", "", "", "b")
			commits(t, l, up(1, "c"))
			shows(t, l, 2, "a", "c", "", "", "", "", "", "b")
		}
	}
}

// P4.2: hundreds of updates are too many, and with more of them than places some place is there twice.
func TestRefusedMany(t *testing.T) {
	l, _ := laid(t, 247)
	answers(t, "Commit of all places", l.Commit(ups(0, 247, "x")...), api.ErrMany)
	answers(t, "Commit of one twice", l.Commit(append(ups(0, 247, "x"), up(246, "x"))...), api.ErrTwice)
	answers(t, "Commit of one too far", l.Commit(ups(0, 248, "x")...), api.ErrArg)
	shows(t, l, 0, make([]string, 247)...)
}

// P4.2: a Read of no place is ErrArg, with or without power; without it all others are ErrDown.
func TestRead(t *testing.T) {
	for _, places := range []int{1, 2, 247} {
		l, d := laid(t, places)
		commits(t, l, up(places-1, "x"))
		for _, on := range []bool{true, false} {
			if !on {
				d.Cut()
			}
			for _, at := range []int{math.MinInt, -9, -1, places, places + 1, 248, 1 << 32, math.MaxInt} {
				if b, err := l.Read(at); len(b) != 0 || err != api.ErrArg {
					t.Fatalf("Read(%d): % X, %v", at, b, err)
				}
			}
		}
		for at := range places {
			if b, err := l.Read(at); len(b) != 0 || err != api.ErrDown {
				t.Fatalf("Read(%d): % X, %v", at, b, err)
			}
		}
	}
}

// P4.2: a place has 48 bytes, at first, too.
func TestReadLength(t *testing.T) {
	l, _ := laid(t, 2)
	commits(t, l, up(0, "a"))
	for at := range 2 {
		if b, err := l.Read(at); len(b) != 48 || err != api.OK {
			t.Fatalf("Read(%d): %d bytes, %v", at, len(b), err)
		}
	}
}

// P4.2: without power nothing is done; Number and Places answer, Number that of the last change that was done.
func TestCommitDown(t *testing.T) {
	l, d := laid(t, 3)
	for n := 1; n < 5; n++ {
		commits(t, l, up(1, strings.Repeat("x", n)))
		d.Cut()
		for range 2 {
			answers(t, "Commit", l.Commit(up(0, "lost")), api.ErrDown)
			answers(t, "Commit", l.Commit(), api.ErrDown)
			if l.Number() != n || l.Places() != 3 {
				t.Fatalf("number %d, %d places", l.Number(), l.Places())
			}
		}
		restarts(t, d)
		shows(t, l, n, "", strings.Repeat("x", n), "")
		shows(t, opens(t, d), n, "", strings.Repeat("x", n), "")
	}
}

// P4.3, R5: a nil log, and one that Open did not give, have nothing, whatever is called; ErrNil is named first.
func TestNil(t *testing.T) {
	for _, l := range []*wal.Log{nil, {}, new(wal.Log)} {
		for range 2 {
			answers(t, "Commit", l.Commit(), api.ErrNil)
			answers(t, "Commit", l.Commit(up(0, "x")), api.ErrNil)
			answers(t, "Commit", l.Commit(up(-1, "x"), up(-1, "x")), api.ErrNil)
			for _, at := range []int{math.MinInt, -1, 0, 1, math.MaxInt} {
				if b, err := l.Read(at); len(b) != 0 || err != api.ErrNil {
					t.Fatalf("Read(%d): % X, %v", at, b, err)
				}
			}
			if l.Number() != 0 || l.Places() != 0 {
				t.Fatalf("number %d, %d places", l.Number(), l.Places())
			}
		}
	}
}

// R4: what is handed in is not written into, and not kept; what is answered is the caller's.
func TestMemory(t *testing.T) {
	l, d := laid(t, 2)
	data := append(make([]byte, 0, 64), "abc"...)
	behind := data[:64]
	behind[3] = 'z'
	updates := []wal.Update{{At: 0, Data: data}, {At: 1, Data: data[:1]}}
	commits(t, l, updates...)
	if string(behind[:5]) != "abcz\x00" || updates[0].At != 0 || updates[1].At != 1 || len(updates[0].Data) != 3 {
		t.Fatalf("Commit wrote into %q, %v", behind, updates)
	}
	data[0], updates[0].At = 'x', 1
	shows(t, l, 1, "abc", "a")
	b, err := l.Read(0)
	answers(t, "Read", err, api.OK)
	again, err := l.Read(0)
	answers(t, "Read", err, api.OK)
	b[0] = 'y'
	_ = append(b, "zzzz"...)
	if again[0] != 'a' {
		t.Fatal("two answers have one memory")
	}
	shows(t, l, 1, "abc", "a")
	restarts(t, d)
	shows(t, opens(t, d), 1, "abc", "a")
}

// breaks commits with a fuse of so many steps, and gives the power back, with those sectors of the cache that keep says. It tells whether the change was done.
func breaks(t *testing.T, l *wal.Log, d *disk.Disk, fuse, keep int, updates ...wal.Update) bool {
	t.Helper()
	number := l.Number()
	d.Arm(fuse)
	err := l.Commit(updates...)
	d.Arm(-1)
	if err == api.OK {
		if !d.On() {
			t.Fatal("Commit is OK, and the power off")
		}
		return true
	}
	answers(t, "Commit", err, api.ErrDown)
	if l.Number() != number || d.On() {
		t.Fatalf("behind ErrDown: number %d, want %d; power %t", l.Number(), number, d.On())
	}
	answers(t, "Start", d.Start(bits(keep, 8)), api.OK)
	return false
}

// P4.4: whatever the step at which the power goes off in a Commit, and whatever is kept of the cache, the change is whole or not there.
func TestPower(t *testing.T) {
	for n := 0; n <= 6; n++ {
		ahead, after := ups(0, 6, "ahead"), ups(1, n, "after, and longer")
		done := false
		for fuse := 0; !done; fuse++ {
			for keep := range 1 << 6 {
				l, d := laid(t, 8)
				commits(t, l, ahead...)
				was := state{0, make([]string, 8)}.behind(ahead...)
				is := was.behind(after...)
				if done = breaks(t, l, d, fuse, keep, after...); done {
					restarts(t, d)
				}
				l = opens(t, d)
				if !is.fits(l) && (done || !was.fits(l)) {
					t.Fatalf("%d updates, fuse %d, kept %b: number %d, %q", n, fuse, keep, l.Number(), seen(l))
				}
				if fuse == 0 && is.fits(l) {
					t.Fatal("a change was done without a step")
				}
				// And nothing of what was broken off comes later.
				was = state{l.Number(), seen(l)}
				restarts(t, d, true, true, true, true, true, true, true, true)
				l = opens(t, d)
				commits(t, l, up(7, "more"))
				if !was.behind(up(7, "more")).fits(l) {
					t.Fatalf("%d updates, fuse %d, kept %b, one change more: number %d, %q", n, fuse, keep, l.Number(), seen(l))
				}
			}
		}
	}
}

// P4.4: the power goes off in a Commit, and again in the Open behind it: any step of both, any sectors kept.
func TestPowerInOpen(t *testing.T) {
	const n = 3
	ahead, after := ups(0, n, "ahead"), ups(1, n, "after")
	was := state{0, make([]string, 5)}.behind(ahead...)
	is := was.behind(after...)
	broken := 0
	done := false
	for fuse := 0; !done; fuse++ {
		for keep := range 1 << n {
			opened := false
			for second := 0; !opened; second++ {
				for kept := range 1 << n {
					l, d := laid(t, 5)
					commits(t, l, ahead...)
					done = breaks(t, l, d, fuse, keep, after...)
					d.Arm(second)
					l, err := wal.Open(d)
					d.Arm(-1)
					opened = err == api.OK
					if !opened {
						answers(t, "Open", err, api.ErrDown)
						if l != nil || d.On() {
							t.Fatalf("behind ErrDown: log %v, power %t", l, d.On())
						}
						broken++
						answers(t, "Start", d.Start(bits(kept, n)), api.OK)
						l = opens(t, d)
					}
					if !is.fits(l) && (done || !was.fits(l)) {
						t.Fatalf("fuses %d and %d, kept %b and %b: number %d, %q", fuse, second, keep, kept, l.Number(), seen(l))
					}
				}
			}
		}
	}
	if broken == 0 {
		t.Fatal("no Open had anything to mend")
	}
}

// P4.1, P4.4: the power goes off in a Format, where a log was and where none was: there is the log of old, whole, or an empty one, or still none.
func TestPowerInFormat(t *testing.T) {
	const places = 3
	was := state{0, make([]string, places)}.behind(ups(0, places, "ahead")...)
	is := state{0, make([]string, places)}
	for _, bare := range []bool{true, false} {
		done := false
		for fuse := 0; !done; fuse++ {
			for keep := range 1 << places {
				d := noisy(t, 9+places)
				if !bare {
					answers(t, "Format", wal.Format(d), api.OK)
					commits(t, opens(t, d), ups(0, places, "ahead")...)
				}
				d.Arm(fuse)
				err := wal.Format(d)
				d.Arm(-1)
				if done = err == api.OK; !done {
					answers(t, "Format", err, api.ErrDown)
				}
				if d.On() != done {
					t.Fatalf("Format: %v, power %t", err, d.On())
				}
				restarts(t, d, bits(keep, places)...)
				l, err := wal.Open(d)
				switch {
				case err == api.OK && is.fits(l):
				case err == api.OK && !done && !bare && was.fits(l):
				case err == api.ErrForm && !done && bare:
				default:
					t.Fatalf("fuse %d, kept %b: %v, number %d, %q", fuse, keep, err, l.Number(), seen(l))
				}
				if err == api.OK {
					was := state{l.Number(), seen(l)}
					commits(t, l, up(1, "x"))
					if !was.behind(up(1, "x")).fits(l) {
						t.Fatalf("fuse %d, kept %b, one change more: number %d, %q", fuse, keep, l.Number(), seen(l))
					}
				}
			}
		}
	}
}

// P4.2, P4.4: a log that stays open over a loss of power goes on as one that Open gives: no change is lost, none comes back, none is half.
func TestPowerNoOpen(t *testing.T) {
	ahead, after, more := ups(0, 3, "ahead"), ups(1, 3, "after"), ups(2, 3, "more")
	for _, look := range []bool{true, false} {
		done := false
		for fuse := 0; !done; fuse++ {
			for keep := range 1 << 3 {
				l, d := laid(t, 5)
				commits(t, l, ahead...)
				was := state{0, make([]string, 5)}.behind(ahead...)
				is := was.behind(after...)
				done = breaks(t, l, d, fuse, keep, after...)
				if look {
					seen(l)
					if !is.fits(l) && (done || !was.fits(l)) {
						t.Fatalf("fuse %d, kept %b: number %d, %q", fuse, keep, l.Number(), seen(l))
					}
				}
				commits(t, l, more...)
				restarts(t, d)
				for _, l := range []*wal.Log{l, opens(t, d)} {
					if !is.behind(more...).fits(l) && (done || !was.behind(more...).fits(l)) {
						t.Fatalf("fuse %d, kept %b, one change more: number %d, %q", fuse, keep, l.Number(), seen(l))
					}
				}
			}
		}
	}
}

// P4.4: what is done by one of two open logs is there for the other one, and its numbers go on.
func TestTwoLogs(t *testing.T) {
	one, d := laid(t, 3)
	two := opens(t, d)
	commits(t, one, up(0, "a"))
	commits(t, two, up(1, "b"))
	shows(t, two, 2, "a", "b", "")
	commits(t, one, up(2, "c"))
	shows(t, one, 3, "a", "b", "c")
	restarts(t, d)
	shows(t, opens(t, d), 3, "a", "b", "c")
}

// R3: the same calls leave the same bytes on the disk, and have the same answers.
func TestSame(t *testing.T) {
	var disks []*disk.Disk
	for range 2 {
		l, d := laid(t, 6)
		for n := range 5 {
			commits(t, l, ups(n%2, n, "same")...)
		}
		disks = append(disks, d)
	}
	for i := range 15 {
		a, _ := disks[0].Read(i)
		b, _ := disks[1].Read(i)
		if !bytes.Equal(a, b) {
			t.Fatalf("sector %d: % X and % X", i, a, b)
		}
	}
}

// chance is a change of some places, and what it does.
func chance(random *rand.Rand, places int) []wal.Update {
	var updates []wal.Update
	for _, at := range random.Perm(places)[:random.Intn(min(places, 6)+1)] {
		data := make([]byte, random.Intn(49))
		// Few bytes, so that sums are alike more often than by noise.
		for i := range data {
			data[i] = byte(random.Intn(2))
		}
		updates = append(updates, wal.Update{At: at, Data: data})
	}
	return updates
}

// mended gives the power back, and opens, though the power goes off again in it now and then.
func mended(t *testing.T, random *rand.Rand, d *disk.Disk) *wal.Log {
	t.Helper()
	for {
		d.Cut()
		answers(t, "Start", d.Start(bits(random.Intn(256), 8)), api.OK)
		d.Arm(random.Intn(20))
		l, err := wal.Open(d)
		if err == api.OK {
			d.Arm(-1)
			return l
		}
		answers(t, "Open", err, api.ErrDown)
	}
}

// P4.1 to P4.5 against a plain list of places: changes, fuses, losses of power and opens, as they come.
func TestPlain(t *testing.T) {
	random := rand.New(rand.NewSource(44))
	for range 300 {
		places := 1 + random.Intn(12)
		l, d := laid(t, places)
		want := state{0, make([]string, places)}
		for range 60 {
			updates := chance(random, places)
			if random.Intn(3) == 0 {
				d.Arm(random.Intn(20))
			}
			err := l.Commit(updates...)
			switch {
			case err == api.OK:
				want = want.behind(updates...)
				d.Arm(-1)
				if random.Intn(4) == 0 {
					l = mended(t, random, d)
				}
			case err == api.ErrDown:
				if l.Number() != want.number {
					t.Fatalf("behind ErrDown: number %d, want %d", l.Number(), want.number)
				}
				if l = mended(t, random, d); l.Number() != want.number {
					want = want.behind(updates...)
				}
			default:
				t.Fatalf("Commit: %v", err)
			}
			if !want.fits(l) {
				t.Fatalf("number %d, %q: want %d, %q", l.Number(), seen(l), want.number, want.texts)
			}
		}
	}
}
