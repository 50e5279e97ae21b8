package alloc_test

import (
	"math"
	"math/rand"
	"testing"

	"jackstay/alloc"
	"jackstay/api"
)

// answers asks for an error, api.OK among them.
func answers(t *testing.T, what string, got, want api.Errno) {
	t.Helper()
	if got != want {
		t.Fatalf("%s: %v, want %v", what, got, want)
	}
}

func fresh(t *testing.T, units int) *alloc.Alloc {
	t.Helper()
	a, err := alloc.New(units)
	if a == nil || err != api.OK {
		t.Fatalf("New(%d): %v, %v", units, a, err)
	}
	return a
}

func takes(t *testing.T, a *alloc.Alloc, n, from int) {
	t.Helper()
	if got, err := a.Take(n); got != from || err != api.OK {
		t.Fatalf("Take(%d): %d, %v: want %d", n, got, err, from)
	}
}

// refuses asks for a Take's error.
func refuses(t *testing.T, a *alloc.Alloc, n int, want api.Errno) {
	t.Helper()
	if from, err := a.Take(n); from != 0 || err != want {
		t.Fatalf("Take(%d): %d, %v: want 0, %v", n, from, err, want)
	}
}

func shares(t *testing.T, a *alloc.Alloc, from, n int) {
	t.Helper()
	answers(t, "Share", a.Share(from, n), api.OK)
}

func drops(t *testing.T, a *alloc.Alloc, from, n, waiting int) {
	t.Helper()
	if got, err := a.Drop(from, n); got != waiting || err != api.OK {
		t.Fatalf("Drop(%d, %d): %d, %v: want %d", from, n, got, err, waiting)
	}
}

// fails asks for the error of a Share and of a Drop.
func fails(t *testing.T, a *alloc.Alloc, from, n int, share, drop api.Errno) {
	t.Helper()
	if err := a.Share(from, n); err != share {
		t.Fatalf("Share(%d, %d): %v, want %v", from, n, err, share)
	}
	if got, err := a.Drop(from, n); got != 0 || err != drop {
		t.Fatalf("Drop(%d, %d): %d, %v: want 0, %v", from, n, got, err, drop)
	}
}

func settles(t *testing.T, a *alloc.Alloc, units int) {
	t.Helper()
	if got := a.Settle(); got != units {
		t.Fatalf("Settle: %d, want %d", got, units)
	}
}

// stands asks how many units are free and wait.
func stands(t *testing.T, a *alloc.Alloc, free, waiting int) {
	t.Helper()
	if a.Free() != free || a.Waiting() != waiting {
		t.Fatalf("%d free, %d waiting: want %d, %d", a.Free(), a.Waiting(), free, waiting)
	}
}

// counts asks for the counts of the units from 0 on, and for those beside them, which are of no unit.
func counts(t *testing.T, a *alloc.Alloc, list ...int) {
	t.Helper()
	for i, want := range list {
		if got := a.Count(i); got != want {
			t.Fatalf("Count(%d): %d, want %d", i, got, want)
		}
	}
	for _, i := range []int{math.MinInt, -1, len(list), math.MaxInt} {
		if got := a.Count(i); got != 0 {
			t.Fatalf("Count(%d): %d, want 0", i, got)
		}
	}
}

// P5.1: how many units there may be, all free.
func TestNew(t *testing.T) {
	for _, n := range []int{math.MinInt, -4097, -1, 0, 4097, 4098, 1 << 20, math.MaxInt} {
		if a, err := alloc.New(n); a != nil || err != api.ErrArg {
			t.Errorf("New(%d): %v, %v: want nil, ErrArg", n, a, err)
		}
	}
	for n := 1; n <= 4096; n++ {
		a := fresh(t, n)
		stands(t, a, n, 0)
		settles(t, a, 0)
		refuses(t, a, n+1, api.ErrFull)
		takes(t, a, n, 0)
		stands(t, a, 0, 0)
	}
	counts(t, fresh(t, 4096), make([]int, 4096)...)
}

// The chapter's example.
func TestExample(t *testing.T) {
	a := fresh(t, 4)
	takes(t, a, 2, 0)
	takes(t, a, 2, 2)
	refuses(t, a, 1, api.ErrFull)
	drops(t, a, 0, 1, 1)
	stands(t, a, 0, 1)
	settles(t, a, 1)
	takes(t, a, 1, 0)
}

// P5.1: what may not be taken, of an allocator with room and of one without.
func TestTakeArg(t *testing.T) {
	for _, held := range []bool{false, true} {
		a := fresh(t, 3)
		list := []int{0, 0, 0}
		if held {
			takes(t, a, 3, 0)
			list = []int{1, 1, 1}
		}
		free := a.Free()
		for _, n := range []int{math.MinInt, -3, -1, 0} {
			refuses(t, a, n, api.ErrArg)
			stands(t, a, free, 0)
			counts(t, a, list...)
		}
		for _, n := range []int{4, 5, 4096, 1 << 40, math.MaxInt} {
			refuses(t, a, n, api.ErrFull)
			stands(t, a, free, 0)
			counts(t, a, list...)
		}
	}
}

// P5.1: each unit that is taken is held once, and no other one.
func TestTake(t *testing.T) {
	for _, units := range []int{1, 2, 9, 4096} {
		for _, n := range []int{1, 2, 3, 4, units - 1, units} {
			if n < 1 || n > units {
				continue
			}
			a := fresh(t, units)
			takes(t, a, n, 0)
			list := make([]int, units)
			for i := range n {
				list[i] = 1
			}
			counts(t, a, list...)
			stands(t, a, units-n, 0)
		}
	}
}

// P5.1: units that are free, but not in a row, are no room.
func TestTakeRow(t *testing.T) {
	a := fresh(t, 8)
	takes(t, a, 8, 0)
	for i := 0; i < 8; i += 2 {
		drops(t, a, i, 1, 1)
	}
	settles(t, a, 4)
	refuses(t, a, 2, api.ErrFull)
	drops(t, a, 5, 1, 1)
	refuses(t, a, 2, api.ErrFull)
	settles(t, a, 1)
	refuses(t, a, 4, api.ErrFull)
	stands(t, a, 5, 0)
	counts(t, a, 0, 1, 0, 1, 0, 0, 0, 1)
	takes(t, a, 3, 4)
	counts(t, a, 0, 1, 0, 1, 1, 1, 1, 1)
	takes(t, a, 1, 0)
	takes(t, a, 1, 2)
	refuses(t, a, 1, api.ErrFull)
}

// P5.1: a row does not go on from the last unit to the first one.
func TestTakeNoRing(t *testing.T) {
	a := fresh(t, 5)
	takes(t, a, 5, 0)
	drops(t, a, 0, 2, 2)
	drops(t, a, 3, 2, 2)
	settles(t, a, 4)
	refuses(t, a, 3, api.ErrFull)
	refuses(t, a, 4, api.ErrFull)
	takes(t, a, 2, 0)
	takes(t, a, 2, 3)
}

// made is an allocator whose units are held as often as states tell, or are free ('.'), or wait ('w').
func made(t *testing.T, states string) *alloc.Alloc {
	t.Helper()
	a := fresh(t, len(states))
	takes(t, a, len(states), 0)
	for i, s := range states {
		if s == '.' {
			drops(t, a, i, 1, 1)
		}
	}
	a.Settle()
	for i, s := range states {
		if s == 'w' {
			drops(t, a, i, 1, 1)
		}
		for k := '1'; k < s && s <= '9'; k++ {
			shares(t, a, i, 1)
		}
	}
	return a
}

// held are the counts that states tell of.
func held(states string) []int {
	var list []int
	for _, s := range states {
		if s == '.' || s == 'w' {
			s = '0'
		}
		list = append(list, int(s-'0'))
	}
	return list
}

// all are all texts of n of the letters.
func all(letters string, n int) []string {
	if n == 0 {
		return []string{""}
	}
	var list []string
	for _, rest := range all(letters, n-1) {
		for _, l := range letters {
			list = append(list, rest+string(l))
		}
	}
	return list
}

// first is where the first n free units in a row begin, or -1.
func first(states string, n int) int {
	for from := 0; from+n <= len(states); from++ {
		ok := true
		for _, s := range states[from : from+n] {
			ok = ok && s == '.'
		}
		if ok {
			return from
		}
	}
	return -1
}

// P5.1, P5.3: the first row that is long enough is taken, of units that are free, whatever the others are.
func TestTakeFirst(t *testing.T) {
	for _, states := range append(all(".12w", 5), all(".w", 8)...) {
		for n := 1; n <= len(states)+1; n++ {
			a := made(t, states)
			free, waiting, list := a.Free(), a.Waiting(), held(states)
			from := first(states, n)
			if from < 0 {
				refuses(t, a, n, api.ErrFull)
			} else {
				takes(t, a, n, from)
				free -= n
				for i := range n {
					list[from+i] = 1
				}
			}
			stands(t, a, free, waiting)
			counts(t, a, list...)
		}
	}
}

// P5.2: no unit from a place on, so many: of Share and of Drop, though one has the count 0.
func TestArg(t *testing.T) {
	for _, states := range []string{"213", "...", "www", "2.w"} {
		a := made(t, states)
		free, waiting := a.Free(), a.Waiting()
		for _, c := range [][2]int{
			{0, 0}, {1, 0}, {2, 0}, {3, 0}, {0, -1}, {3, -1}, {2, -2}, {0, math.MinInt},
			{-1, 1}, {-1, 2}, {-1, 4}, {-3, 3}, {-3, 6}, {math.MinInt, 1}, {math.MinInt, math.MaxInt},
			{3, 1}, {4, 1}, {2, 2}, {1, 3}, {0, 4}, {0, 5}, {4096, 1}, {0, 4097},
			{0, math.MaxInt}, {1, math.MaxInt}, {2, math.MaxInt}, {3, math.MaxInt}, {math.MaxInt, 1}, {math.MaxInt, math.MaxInt},
			{math.MaxInt, 0}, {math.MinInt, 0}, {math.MinInt, math.MinInt}, {-1, 0}, {-1, -1}, {3, math.MinInt},
		} {
			fails(t, a, c[0], c[1], api.ErrArg, api.ErrArg)
			stands(t, a, free, waiting)
			counts(t, a, held(states)...)
		}
	}
}

// P5.2, R7: a unit that is free, or waits, is neither shared nor dropped, wherever it lies, and then none is.
func TestNone(t *testing.T) {
	for _, states := range all(".1w", 5) {
		a := made(t, states)
		free, waiting := a.Free(), a.Waiting()
		for from := range 5 {
			for n := 1; from+n <= 5; n++ {
				part := states[from : from+n]
				if part == "11111"[:n] {
					continue
				}
				fails(t, a, from, n, api.ErrNone, api.ErrNone)
				stands(t, a, free, waiting)
				counts(t, a, held(states)...)
			}
		}
	}
}

// P5.2: what is shared is held once more, and no other unit.
func TestShare(t *testing.T) {
	a := fresh(t, 6)
	takes(t, a, 5, 0)
	shares(t, a, 1, 3)
	counts(t, a, 1, 2, 2, 2, 1, 0)
	shares(t, a, 3, 1)
	counts(t, a, 1, 2, 2, 3, 1, 0)
	shares(t, a, 0, 5)
	counts(t, a, 2, 3, 3, 4, 2, 0)
	stands(t, a, 1, 0)
	takes(t, a, 1, 5)
	shares(t, a, 5, 1)
	counts(t, a, 2, 3, 3, 4, 2, 2)
	stands(t, a, 0, 0)
}

// P5.2: what is dropped is held once less; only those that come to 0 wait.
func TestDrop(t *testing.T) {
	a := made(t, "12131.")
	drops(t, a, 1, 1, 0)
	counts(t, a, 1, 1, 1, 3, 1, 0)
	stands(t, a, 1, 0)
	drops(t, a, 0, 4, 3)
	counts(t, a, 0, 0, 0, 2, 1, 0)
	stands(t, a, 1, 3)
	drops(t, a, 3, 2, 1)
	counts(t, a, 0, 0, 0, 1, 0, 0)
	stands(t, a, 1, 4)
	drops(t, a, 3, 1, 1)
	counts(t, a, 0, 0, 0, 0, 0, 0)
	stands(t, a, 1, 5)
	for i := range 6 {
		fails(t, a, i, 1, api.ErrNone, api.ErrNone)
	}
}

// P5.2: those that wait are free behind a Settle, and only they; a second one has nothing left.
func TestSettle(t *testing.T) {
	a := made(t, "1w2.w1")
	stands(t, a, 1, 2)
	settles(t, a, 2)
	stands(t, a, 3, 0)
	counts(t, a, 1, 0, 2, 0, 0, 1)
	settles(t, a, 0)
	stands(t, a, 3, 0)
	counts(t, a, 1, 0, 2, 0, 0, 1)
	takes(t, a, 2, 3)
	takes(t, a, 1, 1)
	counts(t, a, 1, 1, 2, 1, 1, 1)
	settles(t, a, 0)
	counts(t, a, 1, 1, 2, 1, 1, 1)
}

// P5.2, R7: a unit is held 2^20 times and no more, and then no unit beside it is shared.
func TestMany(t *testing.T) {
	const most = 1 << 20
	a := made(t, "1111.w")
	for k := 1; k < most; k++ {
		if err := a.Share(1, 1); err != api.OK {
			t.Fatalf("Share of a unit that is held %d times: %v", k, err)
		}
	}
	counts(t, a, 1, most, 1, 1, 0, 0)
	for _, c := range [][2]int{{1, 1}, {0, 2}, {1, 2}, {0, 4}, {1, 3}} {
		answers(t, "Share", a.Share(c[0], c[1]), api.ErrMany)
		counts(t, a, 1, most, 1, 1, 0, 0)
		stands(t, a, 1, 1)
	}
	answers(t, "Share of a free one, too", a.Share(0, 5), api.ErrNone)
	answers(t, "Share of no unit, too", a.Share(0, 7), api.ErrArg)
	answers(t, "Share of no units", a.Share(1, 0), api.ErrArg)
	shares(t, a, 2, 2)
	shares(t, a, 0, 1)
	drops(t, a, 0, 4, 0)
	counts(t, a, 1, most-1, 1, 1, 0, 0)
	shares(t, a, 0, 4)
	counts(t, a, 2, most, 2, 2, 0, 0)
	for k := 1; k < most; k++ {
		drops(t, a, 1, 1, 0)
	}
	stands(t, a, 1, 1)
	drops(t, a, 1, 1, 1)
	stands(t, a, 1, 2)
	settles(t, a, 2)
	takes(t, a, 1, 1)
	counts(t, a, 2, 1, 2, 2, 0, 0)
}

// P5.2: of errors that apply together the count 0 is told ahead of 2^20, whichever lies ahead.
func TestNoneAheadOfMany(t *testing.T) {
	a := made(t, ".1w1")
	for range 1<<20 - 1 {
		shares(t, a, 1, 1)
	}
	for _, c := range [][2]int{{0, 2}, {1, 2}, {0, 3}, {0, 4}, {1, 3}} {
		answers(t, "Share", a.Share(c[0], c[1]), api.ErrNone)
	}
	answers(t, "Share", a.Share(1, 1), api.ErrMany)
	counts(t, a, 0, 1<<20, 0, 1)
	stands(t, a, 1, 1)
}

// P5.3: what waits is not taken, though there is no other room, until it is settled.
func TestWaitsIsNotTaken(t *testing.T) {
	a := fresh(t, 4)
	takes(t, a, 4, 0)
	drops(t, a, 1, 2, 2)
	refuses(t, a, 1, api.ErrFull)
	refuses(t, a, 2, api.ErrFull)
	stands(t, a, 0, 2)
	counts(t, a, 1, 0, 0, 1)
	settles(t, a, 2)
	takes(t, a, 2, 1)
	counts(t, a, 1, 1, 1, 1)
}

// P5.5: what was dropped as often as it was held, and settled, is free: the whole of it is taken again.
func TestFreeAgain(t *testing.T) {
	random := rand.New(rand.NewSource(2))
	for _, units := range []int{1, 2, 3, 64, 4096} {
		a := fresh(t, units)
		for range 5 {
			takes(t, a, units, 0)
			for range 20 {
				from := random.Intn(units)
				shares(t, a, from, 1+random.Intn(units-from))
			}
			waiting := 0
			for i := range units {
				for a.Count(i) > 1 {
					drops(t, a, i, 1, 0)
				}
				waiting++
				drops(t, a, i, 1, 1)
				stands(t, a, 0, waiting)
			}
			settles(t, a, units)
			stands(t, a, units, 0)
		}
	}
}

// P5.2, R1, R5: a nil allocator, and ones that New did not give, a copy of one among them.
func TestNil(t *testing.T) {
	whole := fresh(t, 4)
	takes(t, whole, 3, 0)
	drops(t, whole, 2, 1, 1)
	copied := *whole
	numbers := []int{math.MinInt, -1, 0, 1, 2, 4097, math.MaxInt}
	for name, a := range map[string]*alloc.Alloc{"nil": nil, "zero": {}, "new": new(alloc.Alloc), "copied": &copied} {
		for _, n := range numbers {
			refuses(t, a, n, api.ErrNil)
			for _, from := range numbers {
				fails(t, a, from, n, api.ErrNil, api.ErrNil)
			}
			if got := a.Count(n); got != 0 {
				t.Fatalf("%s: Count(%d): %d", name, n, got)
			}
		}
		settles(t, a, 0)
		stands(t, a, 0, 0)
	}
	stands(t, whole, 1, 1)
	counts(t, whole, 1, 1, 0, 0)
}

// R3: allocators hang on no other one.
func TestApart(t *testing.T) {
	one, two := fresh(t, 3), fresh(t, 3)
	takes(t, one, 2, 0)
	shares(t, one, 0, 1)
	drops(t, one, 1, 1, 1)
	stands(t, two, 3, 0)
	counts(t, two, 0, 0, 0)
	takes(t, two, 3, 0)
	drops(t, two, 0, 3, 3)
	settles(t, two, 3)
	stands(t, one, 1, 1)
	counts(t, one, 2, 0, 0)
}

// plain is an allocator as the chapter words it: of each unit how often it is held, and whether it waits.
type plain struct {
	held  []int
	waits []bool
}

func (p *plain) free() int {
	free := 0
	for i, h := range p.held {
		if h == 0 && !p.waits[i] {
			free++
		}
	}
	return free
}

func (p *plain) waiting() int {
	waiting := 0
	for _, w := range p.waits {
		if w {
			waiting++
		}
	}
	return waiting
}

func (p *plain) take(n int) (int, api.Errno) {
	if n < 1 {
		return 0, api.ErrArg
	}
	for from := 0; from+n <= len(p.held); from++ {
		part := plain{p.held[from : from+n], p.waits[from : from+n]}
		if part.free() == n {
			for i := range part.held {
				part.held[i] = 1
			}
			return from, api.OK
		}
	}
	return 0, api.ErrFull
}

// turn holds units once more, or once less: how many wait then that did not.
func (p *plain) turn(from, n, by int) (int, api.Errno) {
	if n < 1 || from < 0 || from+n > len(p.held) {
		return 0, api.ErrArg
	}
	for _, h := range p.held[from : from+n] {
		if h == 0 {
			return 0, api.ErrNone
		}
	}
	ahead := p.waiting()
	for i := from; i < from+n; i++ {
		p.held[i] += by
		p.waits[i] = p.held[i] == 0
	}
	return p.waiting() - ahead, api.OK
}

func (p *plain) settle() int {
	settled := p.waiting()
	clear(p.waits)
	return settled
}

// P5.1 to P5.5, R5, R7: methods in any order are as their words, and free, waiting and held units are all together.
func TestPlain(t *testing.T) {
	random := rand.New(rand.NewSource(5))
	for range 2000 {
		units := 1 + random.Intn(12)
		a, p := fresh(t, units), &plain{make([]int, units), make([]bool, units)}
		for range 80 {
			from, n := random.Intn(units+2)-1, random.Intn(5)
			var got, want int
			var gotErr, wantErr api.Errno
			what := "Drop"
			switch random.Intn(10) {
			case 0:
				what = "Settle"
				got, want = a.Settle(), p.settle()
			case 1, 2, 3:
				what = "Take"
				got, gotErr = a.Take(n)
				want, wantErr = p.take(n)
			case 4, 5:
				what = "Share"
				gotErr = a.Share(from, n)
				_, wantErr = p.turn(from, n, 1)
			default:
				got, gotErr = a.Drop(from, n)
				want, wantErr = p.turn(from, n, -1)
			}
			if got != want || gotErr != wantErr {
				t.Fatalf("%s(%d, %d): %d, %v: want %d, %v", what, from, n, got, gotErr, want, wantErr)
			}
			stands(t, a, p.free(), p.waiting())
			counts(t, a, p.held...)
			holding := 0
			for i := range units {
				if a.Count(i) > 0 {
					holding++
				}
			}
			if all := a.Free() + a.Waiting() + holding; all != units {
				t.Fatalf("%d units free, waiting and held, want %d", all, units)
			}
		}
	}
}
