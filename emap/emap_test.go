package emap_test

import (
	"math"
	"math/rand"
	"slices"
	"testing"

	"jackstay/api"
	"jackstay/emap"
)

const (
	all = 1024
	far = 1 << 40
)

// mark is an extent that no call answers.
var mark = api.Extent{Off: -7, Len: -7, Phys: -7, Birth: -7}

func ext(off, n, phys, birth int) api.Extent {
	return api.Extent{Off: off, Len: n, Phys: phys, Birth: birth}
}

// list are extents, four numbers each.
func list(numbers ...int) []api.Extent {
	var l []api.Extent
	for i := 0; i < len(numbers); i += 4 {
		l = append(l, ext(numbers[i], numbers[i+1], numbers[i+2], numbers[i+3]))
	}
	return l
}

// calls runs a call on a list with room behind it, and asks that both stay as they are, and share nothing with the answer.
func calls(t *testing.T, l []api.Extent, call func(l []api.Extent) ([]api.Extent, api.Errno)) ([]api.Extent, api.Errno) {
	t.Helper()
	room := append(slices.Clone(l), mark, mark, mark)
	want := slices.Clone(room)
	got, err := call(room[:len(l)])
	if !slices.Equal(room, want) {
		t.Fatalf("%v was handed in, and is %v", want, room)
	}
	answer := slices.Clone(got)
	for i := range room {
		room[i] = mark
	}
	if !slices.Equal(got, answer) {
		t.Fatalf("the answer %v shares memory with the argument", answer)
	}
	copy(room, want)
	got = got[:cap(got)]
	for i := range got {
		got[i] = mark
	}
	if !slices.Equal(room, want) {
		t.Fatalf("the argument %v shares memory with the answer", want)
	}
	return answer, err
}

func form(t *testing.T, l []api.Extent) ([]api.Extent, api.Errno) {
	t.Helper()
	return calls(t, l, emap.Form)
}

func put(t *testing.T, l []api.Extent, x api.Extent) ([]api.Extent, api.Errno) {
	t.Helper()
	return calls(t, l, func(l []api.Extent) ([]api.Extent, api.Errno) { return emap.Put(l, x) })
}

func cut(t *testing.T, l []api.Extent, off, n int) ([]api.Extent, api.Errno) {
	t.Helper()
	return calls(t, l, func(l []api.Extent) ([]api.Extent, api.Errno) { return emap.Cut(l, off, n) })
}

func part(t *testing.T, l []api.Extent, off, n int) ([]api.Extent, api.Errno) {
	t.Helper()
	return calls(t, l, func(l []api.Extent) ([]api.Extent, api.Errno) { return emap.Part(l, off, n) })
}

func since(t *testing.T, l []api.Extent, birth int) ([]api.Extent, api.Errno) {
	t.Helper()
	return calls(t, l, func(l []api.Extent) ([]api.Extent, api.Errno) { return emap.Since(l, birth) })
}

// answers asks for a call's list, which is right.
func answers(t *testing.T, what string, got []api.Extent, err api.Errno, want []api.Extent) {
	t.Helper()
	if err != api.OK || !slices.Equal(got, want) {
		t.Fatalf("%s: %v, %v: want %v", what, got, err, want)
	}
	if !emap.Right(got) {
		t.Fatalf("%s: %v is not right", what, got)
	}
}

// refuses asks for ErrArg, and no list.
func refuses(t *testing.T, what string, got []api.Extent, err api.Errno) {
	t.Helper()
	if err != api.ErrArg || len(got) != 0 {
		t.Fatalf("%s: %v, %v: want none, ErrArg", what, got, err)
	}
}

// wrong asks that no call but Form takes l.
func wrong(t *testing.T, l []api.Extent) {
	t.Helper()
	if emap.Right(l) {
		t.Fatalf("%v is right", l)
	}
	got, err := put(t, l, ext(0, 1, 0, 0))
	refuses(t, "Put", got, err)
	got, err = put(t, l, ext(0, all, 0, 0))
	refuses(t, "Put of all blocks", got, err)
	got, err = cut(t, l, 0, 1)
	refuses(t, "Cut", got, err)
	got, err = cut(t, l, 0, all)
	refuses(t, "Cut of all blocks", got, err)
	got, err = part(t, l, 0, 1)
	refuses(t, "Part", got, err)
	got, err = part(t, l, 0, all)
	refuses(t, "Part of all blocks", got, err)
	for _, birth := range []int{math.MinInt, -1, 0, 1, far, math.MaxInt} {
		got, err = since(t, l, birth)
		refuses(t, "Since", got, err)
	}
	for off := -1; off <= 8; off++ {
		lacks(t, l, off)
	}
}

// lacks asks that l does not have a block.
func lacks(t *testing.T, l []api.Extent, off int) {
	t.Helper()
	if unit, birth, ok := emap.At(l, off); unit != 0 || birth != 0 || ok {
		t.Fatalf("At(%v, %d): %d, %d, %v: want 0, 0, false", l, off, unit, birth, ok)
	}
}

// block is what a list has of a block.
type block struct {
	there       bool
	unit, birth int
}

// volume are all blocks.
type volume [all]block

// set gives blocks to an extent.
func (v *volume) set(x api.Extent) {
	for i := range x.Len {
		v[x.Off+i] = block{true, x.Phys + i, x.Birth}
	}
}

// of are the blocks of a list.
func of(l []api.Extent) volume {
	var v volume
	for _, x := range l {
		v.set(x)
	}
	return v
}

// told is the list of blocks from from to ahead of to, as long runs as can be.
func (v *volume) told(from, to int) []api.Extent {
	var l []api.Extent
	for i := from; i < to; i++ {
		b := v[i]
		if !b.there {
			continue
		}
		if i > from && v[i-1] == (block{true, b.unit - 1, b.birth}) {
			l[len(l)-1].Len++
			continue
		}
		l = append(l, ext(i, 1, b.unit, b.birth))
	}
	return l
}

// without are the blocks but those from off on, so many.
func (v volume) without(off, n int) volume {
	clear(v[off : off+n])
	return v
}

// younger are the blocks of a later generation.
func (v volume) younger(birth int) volume {
	for i, b := range v {
		if b.birth <= birth {
			v[i] = block{}
		}
	}
	return v
}

// asks asks At for blocks.
func (v *volume) asks(t *testing.T, l []api.Extent, from, to int) {
	t.Helper()
	for i := from; i < to; i++ {
		if unit, birth, ok := emap.At(l, i); v[i] != (block{ok, unit, birth}) {
			t.Fatalf("At(%v, %d): %d, %d, %v: want %v", l, i, unit, birth, ok, v[i])
		}
	}
}

// The chapter's example.
func TestExample(t *testing.T) {
	got, err := put(t, list(0, 4, 0, 0), ext(1, 2, 9, 0))
	answers(t, "Put", got, err, list(0, 1, 0, 0, 1, 2, 9, 0, 3, 1, 3, 0))
}

// P6.1, P6.2: the edges of what an extent may be.
func TestMay(t *testing.T) {
	for _, x := range list(
		0, 1, 0, 0,
		0, 1024, 0, 0,
		1023, 1, 0, 0,
		1, 1023, 0, 0,
		512, 512, 7, 9,
		0, 1, far-1, far,
		0, 1024, far-1024, far,
		1023, 1, far-1, 0,
		0, 2, far-2, far-1,
	) {
		l := []api.Extent{x}
		if !emap.Right(l) {
			t.Fatalf("%v is not right", l)
		}
		got, err := form(t, l)
		answers(t, "Form", got, err, l)
		got, err = put(t, nil, x)
		answers(t, "Put", got, err, l)
		got, err = part(t, l, 0, all)
		answers(t, "Part", got, err, l)
		got, err = cut(t, l, 0, all)
		answers(t, "Cut", got, err, nil)
		v := of(l)
		v.asks(t, l, 0, all)
	}
}

// P6.1, P6.2, P6.3: an extent that may not be, in a list, and to be put in.
func TestMayNot(t *testing.T) {
	for _, x := range list(
		0, 0, 0, 0,
		0, 0, 5, 5,
		3, 0, 5, 5,
		1024, 0, 0, 0,
		0, -1, 0, 0,
		5, -1, 5, 5,
		-1, 1, 0, 0,
		-1, 2, 0, 0,
		-2, 9, 9, 0,
		0, 1025, 0, 0,
		1, 1024, 0, 0,
		1023, 2, 0, 0,
		1024, 1, 0, 0,
		0, 1, -1, 0,
		0, 9, -1, 0,
		0, 1, far, 0,
		0, 2, far-1, 0,
		0, 1024, far-1023, 0,
		0, 1, far+1, 0,
		0, 1, 0, -1,
		0, 1, 0, far+1,
		math.MaxInt, 1, 0, 0,
		math.MinInt, 1, 0, 0,
		1, math.MaxInt, 0, 0,
		0, math.MaxInt, 0, 0,
		0, math.MinInt, 0, 0,
		math.MaxInt, math.MaxInt, 0, 0,
		math.MinInt, math.MinInt, 0, 0,
		math.MinInt, math.MaxInt, 0, 0,
		0, 1, math.MaxInt, 0,
		0, 1, math.MinInt, 0,
		0, 1, 0, math.MaxInt,
		0, 1, 0, math.MinInt,
		math.MaxInt, math.MaxInt, math.MaxInt, math.MaxInt,
	) {
		for _, l := range [][]api.Extent{{x}, {x, ext(5, 1, 5, 5)}, {ext(0, 1, 5, 5), x}, {ext(0, 1, 3, 3), x, ext(1023, 1, 3, 3)}} {
			wrong(t, l)
			got, err := form(t, l)
			refuses(t, "Form", got, err)
		}
		for _, l := range [][]api.Extent{nil, list(0, 4, 0, 0), list(1, 2, 9, 1, 1023, 1, 3, 1)} {
			got, err := put(t, l, x)
			refuses(t, "Put", got, err)
		}
	}
}

// P6.1: lists that do not rise, or with extents beyond the beginning of the next one.
func TestNoList(t *testing.T) {
	for _, l := range [][]api.Extent{
		list(0, 1, 0, 0, 0, 1, 0, 0),
		list(0, 1, 0, 0, 0, 1, 9, 1),
		list(1, 1, 0, 0, 0, 1, 9, 0),
		list(1, 1, 1, 0, 0, 1, 0, 0),
		list(0, 2, 0, 0, 1, 1, 9, 0),
		list(0, 2, 0, 0, 1, 1, 1, 0),
		list(0, 9, 0, 0, 3, 2, 9, 0),
		list(0, 1, 0, 0, 2, 2, 9, 0, 3, 1, 5, 0),
		list(0, 1, 0, 0, 4, 1, 9, 0, 3, 1, 5, 0),
		list(0, 2, 0, 0, 1, 1, 5, 0, 4, 1, 9, 0),
		list(0, 1024, 0, 0, 1023, 1, 0, 0),
		list(4, 1, 0, 0, 6, 1, 0, 0, 5, 1, 0, 0),
	} {
		wrong(t, l)
		got, err := form(t, l)
		refuses(t, "Form", got, err)
	}
}

// P6.1: lists with neighbours that are one are lists, and not right.
func TestForm(t *testing.T) {
	for _, c := range [][2][]api.Extent{
		{list(0, 1, 0, 0, 1, 1, 1, 0), list(0, 2, 0, 0)},
		{list(3, 2, 9, 4, 5, 3, 11, 4), list(3, 5, 9, 4)},
		{list(0, 1, 0, 0, 1, 1, 1, 0, 2, 1, 2, 0), list(0, 3, 0, 0)},
		{list(0, 1, 5, 1, 1, 1, 6, 1, 2, 1, 8, 1, 3, 1, 9, 1), list(0, 2, 5, 1, 2, 2, 8, 1)},
		{list(0, 1, 5, 1, 1, 1, 6, 2, 2, 1, 7, 2), list(0, 1, 5, 1, 1, 2, 6, 2)},
		{list(0, 1, 5, 1, 1, 1, 6, 1, 2, 1, 7, 2), list(0, 2, 5, 1, 2, 1, 7, 2)},
		{list(0, 512, 0, far, 512, 512, 512, far), list(0, 1024, 0, far)},
		{list(1022, 1, far-2, 0, 1023, 1, far-1, 0), list(1022, 2, far-2, 0)},
	} {
		wrong(t, c[0])
		got, err := form(t, c[0])
		answers(t, "Form", got, err, c[1])
		got, err = form(t, c[1])
		answers(t, "Form of a form", got, err, c[1])
	}
}

// P6.1: neighbours that are not one: a gap between the blocks, or the units, or units that go back, or another generation.
func TestRight(t *testing.T) {
	for _, l := range [][]api.Extent{
		nil,
		{},
		list(0, 1, 0, 0, 2, 1, 1, 0),
		list(0, 1, 0, 0, 2, 1, 2, 0),
		list(0, 1, 0, 0, 1, 1, 2, 0),
		list(0, 1, 0, 0, 1, 1, 0, 0),
		list(0, 2, 0, 0, 2, 1, 1, 0),
		list(0, 1, 1, 0, 1, 1, 0, 0),
		list(0, 1, 0, 0, 1, 1, 1, 1),
		list(0, 1, 0, 1, 1, 1, 1, 0),
		list(0, 1, 0, 0, 1, 1, 9, 0, 2, 1, 1, 0),
		list(0, 1, 5, 0, 7, 1, 5, 0),
		list(0, 1023, 0, 0, 1023, 1, 0, 0),
	} {
		if !emap.Right(l) {
			t.Fatalf("%v is not right", l)
		}
		got, err := form(t, l)
		answers(t, "Form", got, err, l)
		v := of(l)
		v.asks(t, l, 0, all)
	}
}

// P6.1: as many extents as there are blocks: in their form, and all one.
func TestManyExtents(t *testing.T) {
	var apart, row []api.Extent
	for i := range all {
		apart = append(apart, ext(i, 1, i, i%2))
		row = append(row, ext(i, 1, i, 1))
	}
	if !emap.Right(apart) {
		t.Fatal("1024 extents are not right")
	}
	got, err := form(t, apart)
	answers(t, "Form", got, err, apart)
	got, err = part(t, apart, 0, all)
	answers(t, "Part", got, err, apart)
	got, err = put(t, apart, ext(7, 1, 99, 1))
	answers(t, "Put", got, err, slices.Concat(apart[:7], list(7, 1, 99, 1), apart[8:]))
	got, err = put(t, apart, ext(7, 1, 7, 0))
	answers(t, "Put", got, err, slices.Concat(apart[:6], list(6, 3, 6, 0), apart[9:]))
	got, err = cut(t, apart, 1023, 1)
	answers(t, "Cut", got, err, apart[:1023])
	got, err = form(t, row)
	answers(t, "Form", got, err, list(0, 1024, 0, 1))
	wrong(t, row)
	wrong(t, slices.Concat(apart, list(1023, 1, 5, 5)))
	wrong(t, slices.Concat(apart, list(1024, 1, 5, 5)))
	got, err = form(t, slices.Concat(apart, list(1024, 1, 5, 5)))
	refuses(t, "Form", got, err)
}

// P6.2: what are no blocks, of a list and of none.
func TestNoBlocks(t *testing.T) {
	for _, l := range [][]api.Extent{nil, list(0, 1024, 0, 0), list(1, 2, 9, 1, 1023, 1, 3, 1)} {
		for _, c := range [][2]int{
			{0, 0}, {1, 0}, {1023, 0}, {1024, 0}, {0, -1}, {5, -1}, {1024, -1}, {1025, -1},
			{-1, 0}, {-1, 1}, {-1, 2}, {-1, 1025}, {-5, -5},
			{1024, 1}, {1023, 2}, {1, 1024}, {0, 1025}, {1025, 1},
			{0, math.MaxInt}, {1, math.MaxInt}, {1023, math.MaxInt}, {math.MaxInt, 1}, {math.MaxInt, math.MaxInt},
			{0, math.MinInt}, {math.MaxInt, math.MinInt}, {math.MinInt, 1}, {math.MinInt, math.MaxInt}, {math.MinInt, math.MinInt}, {-1024, math.MaxInt},
		} {
			got, err := cut(t, l, c[0], c[1])
			refuses(t, "Cut", got, err)
			got, err = part(t, l, c[0], c[1])
			refuses(t, "Part", got, err)
		}
	}
}

// P6.2: a Put over all, a part, the ends and the middle of an extent, and over several.
func TestPut(t *testing.T) {
	base := list(2, 4, 10, 1, 6, 2, 30, 2, 9, 3, 50, 1)
	for _, c := range []struct {
		x    api.Extent
		want []api.Extent
	}{
		{ext(0, 1, 7, 7), list(0, 1, 7, 7, 2, 4, 10, 1, 6, 2, 30, 2, 9, 3, 50, 1)},
		{ext(20, 1, 7, 7), list(2, 4, 10, 1, 6, 2, 30, 2, 9, 3, 50, 1, 20, 1, 7, 7)},
		{ext(8, 1, 7, 7), list(2, 4, 10, 1, 6, 2, 30, 2, 8, 1, 7, 7, 9, 3, 50, 1)},
		{ext(2, 4, 7, 7), list(2, 4, 7, 7, 6, 2, 30, 2, 9, 3, 50, 1)},
		{ext(2, 1, 7, 7), list(2, 1, 7, 7, 3, 3, 11, 1, 6, 2, 30, 2, 9, 3, 50, 1)},
		{ext(5, 1, 7, 7), list(2, 3, 10, 1, 5, 1, 7, 7, 6, 2, 30, 2, 9, 3, 50, 1)},
		{ext(3, 2, 7, 7), list(2, 1, 10, 1, 3, 2, 7, 7, 5, 1, 13, 1, 6, 2, 30, 2, 9, 3, 50, 1)},
		{ext(5, 2, 7, 7), list(2, 3, 10, 1, 5, 2, 7, 7, 7, 1, 31, 2, 9, 3, 50, 1)},
		{ext(3, 7, 7, 7), list(2, 1, 10, 1, 3, 7, 7, 7, 10, 2, 51, 1)},
		{ext(0, 1024, 7, 7), list(0, 1024, 7, 7)},
		{ext(1, 1, 9, 1), list(1, 5, 9, 1, 6, 2, 30, 2, 9, 3, 50, 1)},
		{ext(1, 1, 9, 2), list(1, 1, 9, 2, 2, 4, 10, 1, 6, 2, 30, 2, 9, 3, 50, 1)},
		{ext(12, 2, 53, 1), list(2, 4, 10, 1, 6, 2, 30, 2, 9, 5, 50, 1)},
		{ext(12, 2, 54, 1), list(2, 4, 10, 1, 6, 2, 30, 2, 9, 3, 50, 1, 12, 2, 54, 1)},
		{ext(6, 3, 14, 1), list(2, 7, 10, 1, 9, 3, 50, 1)},
		{ext(6, 3, 47, 1), list(2, 4, 10, 1, 6, 6, 47, 1)},
		{ext(4, 1, 12, 1), base},
		{ext(3, 2, 11, 1), base},
		{ext(7, 1, 31, 2), base},
	} {
		got, err := put(t, base, c.x)
		answers(t, "Put", got, err, c.want)
	}
	got, err := put(t, list(0, 2, 5, 3, 2, 1, 9, 3, 3, 2, 8, 3), ext(2, 1, 7, 3))
	answers(t, "Put between two that become one with it", got, err, list(0, 5, 5, 3))
}

// P6.2: a Cut, and a Part, of all, a part, the ends and the middle of an extent, of several, and of none.
func TestCutAndPart(t *testing.T) {
	base := list(2, 4, 10, 1, 6, 2, 30, 2, 9, 3, 50, 1)
	for _, c := range []struct {
		off, n    int
		cut, part []api.Extent
	}{
		{0, 2, base, nil},
		{8, 1, base, nil},
		{12, 1012, base, nil},
		{0, 1024, nil, base},
		{2, 10, nil, base},
		{2, 4, base[1:], base[:1]},
		{9, 3, base[:2], base[2:]},
		{2, 1, list(3, 3, 11, 1, 6, 2, 30, 2, 9, 3, 50, 1), list(2, 1, 10, 1)},
		{5, 1, list(2, 3, 10, 1, 6, 2, 30, 2, 9, 3, 50, 1), list(5, 1, 13, 1)},
		{3, 2, list(2, 1, 10, 1, 5, 1, 13, 1, 6, 2, 30, 2, 9, 3, 50, 1), list(3, 2, 11, 1)},
		{5, 2, list(2, 3, 10, 1, 7, 1, 31, 2, 9, 3, 50, 1), list(5, 1, 13, 1, 6, 1, 30, 2)},
		{1, 3, list(4, 2, 12, 1, 6, 2, 30, 2, 9, 3, 50, 1), list(2, 2, 10, 1)},
		{10, 5, list(2, 4, 10, 1, 6, 2, 30, 2, 9, 1, 50, 1), list(10, 2, 51, 1)},
	} {
		got, err := cut(t, base, c.off, c.n)
		answers(t, "Cut", got, err, c.cut)
		got, err = part(t, base, c.off, c.n)
		answers(t, "Part", got, err, c.part)
	}
	got, err := cut(t, nil, 0, 1)
	answers(t, "Cut of none", got, err, nil)
	got, err = part(t, nil, 1023, 1)
	answers(t, "Part of none", got, err, nil)
}

// P6.3: units and generations of blocks that are there, and none of others.
func TestAt(t *testing.T) {
	l := list(1, 2, 10, 0, 3, 1, 0, far, 1020, 4, far-4, 3)
	v := of(l)
	v.asks(t, l, 0, all)
	for _, off := range []int{math.MinInt, -1024, -1, 1024, 1025, far, math.MaxInt} {
		lacks(t, l, off)
		lacks(t, nil, off)
		lacks(t, list(0, 1024, 0, 5), off)
	}
	if unit, birth, ok := emap.At(l, 1023); unit != far-1 || birth != 3 || !ok {
		t.Fatal(unit, birth, ok)
	}
	if unit, birth, ok := emap.At(l, 3); unit != 0 || birth != far || !ok {
		t.Fatal(unit, birth, ok)
	}
}

// P6.3: those with a later generation, whole, however late, or early, the one asked for is.
func TestSince(t *testing.T) {
	l := list(0, 2, 9, 0, 2, 1, 11, 1, 3, 3, 12, 2, 9, 1, 5, far, 10, 4, 7, 1)
	for _, c := range []struct {
		birth int
		want  []api.Extent
	}{
		{math.MinInt, l},
		{-1, l},
		{0, l[1:]},
		{1, l[2:4]},
		{2, l[3:4]},
		{far - 1, l[3:4]},
		{far, nil},
		{math.MaxInt, nil},
	} {
		got, err := since(t, l, c.birth)
		answers(t, "Since", got, err, c.want)
		got, err = since(t, nil, c.birth)
		answers(t, "Since of none", got, err, nil)
	}
}

// every are all lists in their form over so many blocks, each of which is there not at all, or in one of three ways.
func every(blocks int) []volume {
	if blocks == 0 {
		return []volume{{}}
	}
	i := blocks - 1
	var vs []volume
	for _, v := range every(i) {
		for _, b := range []block{{}, {true, i, 1}, {true, i, 2}, {true, i + 1, 1}} {
			v[i] = b
			vs = append(vs, v)
		}
	}
	return vs
}

// P6.1, P6.5: whichever way a list of blocks is laid apart, its form is the same, and only that is right.
func TestEveryForm(t *testing.T) {
	const blocks = 4
	for _, v := range every(blocks) {
		want := v.told(0, blocks)
		for mask := range 1 << (blocks - 1) {
			var l []api.Extent
			for _, x := range want {
				from := 0
				for i := 1; i <= x.Len; i++ {
					if i == x.Len || mask>>(x.Off+i-1)&1 == 1 {
						l = append(l, ext(x.Off+from, i-from, x.Phys+from, x.Birth))
						from = i
					}
				}
			}
			if emap.Right(l) != slices.Equal(l, want) {
				t.Fatalf("Right(%v): %v", l, emap.Right(l))
			}
			got, err := form(t, l)
			answers(t, "Form", got, err, want)
		}
	}
}

// P6.1: of every two extents whether they are a list, and in its form.
func TestEveryPair(t *testing.T) {
	var xs []api.Extent
	for off := -1; off <= 3; off++ {
		for n := -1; n <= 3; n++ {
			for phys := -1; phys <= 3; phys++ {
				for birth := -1; birth <= 1; birth++ {
					xs = append(xs, ext(off, n, phys, birth))
				}
			}
		}
	}
	for _, a := range xs {
		for _, b := range xs {
			l := []api.Extent{a, b}
			is := min(a.Off, a.Phys, a.Birth, b.Off, b.Phys, b.Birth) >= 0 && min(a.Len, b.Len) > 0 && a.Off+a.Len <= b.Off
			one := b.Off-a.Off == a.Len && b.Phys-a.Phys == a.Len && a.Birth == b.Birth
			if emap.Right(l) != (is && !one) {
				t.Fatalf("Right(%v): %v", l, emap.Right(l))
			}
			got, err := emap.Form(l)
			if !is {
				refuses(t, "Form", got, err)
				continue
			}
			if one {
				l = []api.Extent{ext(a.Off, a.Len+b.Len, a.Phys, a.Birth)}
			}
			answers(t, "Form", got, err, l)
		}
	}
}

// tries asks for a Cut and a Part of these blocks, and for a Put of x there.
func tries(t *testing.T, l []api.Extent, v *volume, x api.Extent) []api.Extent {
	t.Helper()
	off, n := x.Off, x.Len
	rest := v.without(off, n)
	got, err := cut(t, l, off, n)
	answers(t, "Cut", got, err, rest.told(0, all))
	there, err := part(t, l, off, n)
	answers(t, "Part", there, err, v.told(off, off+n))
	// P6.6: of the blocks none is in both, and none in neither.
	for _, y := range there {
		rest.set(y)
	}
	if rest != *v {
		t.Fatalf("Cut(%v, %d, %d) and Part are not all", l, off, n)
	}
	rest.set(x)
	got, err = put(t, l, x)
	answers(t, "Put", got, err, rest.told(0, all))
	return got
}

// P6.2, P6.4 to P6.6: every Cut, Part and Put of every small list.
func TestEverySmall(t *testing.T) {
	const blocks = 4
	for _, v := range every(blocks) {
		l := v.told(0, blocks)
		v.asks(t, l, 0, blocks+1)
		for birth := range 3 {
			young := v.younger(birth)
			got, err := since(t, l, birth)
			answers(t, "Since", got, err, young.told(0, blocks))
		}
		for off := range blocks + 1 {
			for n := 1; off+n <= blocks+1; n++ {
				tries(t, l, &v, ext(off, n, off, 1))
				tries(t, l, &v, ext(off, n, off+1, 1))
				tries(t, l, &v, ext(off, n, off, 2))
			}
		}
	}
}

// P6.4, P6.5: whatever is put and cut, a list is the one that its blocks tell of.
func TestWalk(t *testing.T) {
	random := rand.New(rand.NewSource(6))
	for _, blocks := range []int{3, 12, 100, all} {
		for range 20 {
			var l []api.Extent
			var v volume
			for range 60 {
				off := random.Intn(blocks)
				n := 1 + random.Intn(min(blocks-off, 1+random.Intn(blocks)))
				x := ext(off, n, off+random.Intn(2)*random.Intn(3), random.Intn(3))
				l = tries(t, l, &v, x)
				v.set(x)
				v.asks(t, l, off, off+n)
				if random.Intn(3) == 0 {
					from := random.Intn(blocks)
					n := 1 + random.Intn(blocks-from)/2
					l, _ = cut(t, l, from, n)
					v = v.without(from, n)
				}
				birth := random.Intn(4) - 1
				young := v.younger(birth)
				got, err := since(t, l, birth)
				answers(t, "Since", got, err, young.told(0, all))
			}
		}
	}
}

// P6.4: what was put stands there, and what was cut does not, and every other block is as it was, told by At alone.
func TestBehind(t *testing.T) {
	l := list(0, 300, 500, 1, 300, 24, 800, 2, 400, 624, 0, 3)
	x := ext(290, 120, 77, 4)
	got, err := put(t, l, x)
	if err != api.OK {
		t.Fatal(err)
	}
	rest, err := cut(t, l, x.Off, x.Len)
	if err != api.OK {
		t.Fatal(err)
	}
	for i := range all {
		unit, birth, ok := emap.At(l, i)
		was := block{ok, unit, birth}
		unit, birth, ok = emap.At(rest, i)
		behind := block{ok, unit, birth}
		unit, birth, ok = emap.At(got, i)
		put := block{ok, unit, birth}
		if i >= 290 && i < 410 {
			if put != (block{true, 77 + i - 290, 4}) || behind != (block{}) {
				t.Fatal(i, put, behind)
			}
			continue
		}
		if put != was || behind != was {
			t.Fatal(i, was, put, behind)
		}
	}
}

// P6.5: lists that come about another way, and have the same blocks, are the same.
func TestFormHangsOnBlocks(t *testing.T) {
	random := rand.New(rand.NewSource(65))
	want := list(0, 10, 100, 1, 10, 10, 110, 2, 20, 10, 300, 2)
	for range 200 {
		var l []api.Extent
		for range 20 {
			l, _ = put(t, l, ext(random.Intn(25), 1+random.Intn(5), random.Intn(50), random.Intn(3)))
		}
		for _, i := range random.Perm(30) {
			unit, birth, _ := emap.At(want, i)
			l, _ = put(t, l, ext(i, 1, unit, birth))
		}
		answers(t, "Put of each block", l, api.OK, want)
	}
}

// P6.6: all blocks are cut and put in again, part by part.
func TestCutAndPartAreAll(t *testing.T) {
	l := list(0, 4, 9, 1, 4, 4, 13, 2, 10, 5, 40, 2, 1000, 24, 0, 0)
	for off := range 30 {
		for n := 1; n <= 30; n++ {
			rest, err := cut(t, l, off, n)
			if err != api.OK {
				t.Fatal(err)
			}
			there, err := part(t, l, off, n)
			if err != api.OK {
				t.Fatal(err)
			}
			for _, x := range there {
				if x.Off < off || x.Off+x.Len > off+n {
					t.Fatalf("Part(%v, %d, %d): %v", l, off, n, there)
				}
				rest, err = put(t, rest, x)
			}
			answers(t, "Cut and Part together", rest, err, l)
		}
	}
}

// R3: the same call has the same answer, whatever was called between.
func TestAgain(t *testing.T) {
	l := list(0, 4, 9, 1, 4, 4, 90, 2)
	first, _ := emap.Put(l, ext(2, 4, 1, 3))
	kept := slices.Clone(first)
	emap.Put(first, ext(0, 8, 5, 5))
	emap.Cut(first, 1, 2)
	again, err := emap.Put(l, ext(2, 4, 1, 3))
	answers(t, "Put", again, err, kept)
	answers(t, "the first answer", first, api.OK, kept)
}
