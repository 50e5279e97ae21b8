package net

import (
	"bytes"
	"slices"

	"jackstay/api"
)

// Bag has datagrams on their way.
type Bag struct {
	// self is the bag itself, if New gave it: a copy would have the same datagrams, so that it is none.
	self *Bag
	// grams are the datagrams, in the order in which they were put in.
	grams []gram
}

// gram is a datagram, and whether it is spoilt. Nothing else has its bytes.
type gram struct {
	bytes  []byte
	spoilt bool
}

// New is an empty bag.
func New() *Bag {
	b := &Bag{}
	b.self = b
	return b
}

// Put puts datagrams in.
func (b *Bag) Put(grams ...[]byte) int {
	if !b.made() {
		return 0
	}
	return b.add(false, grams...)
}

// Take takes one out.
func (b *Bag) Take(i int) ([]byte, bool, api.Errno) {
	if err := b.refuse(i); err != api.OK {
		return nil, false, err
	}
	g := b.grams[i]
	b.grams = slices.Delete(b.grams, i, i+1)
	return g.bytes, g.spoilt, api.OK
}

// Twice doubles one.
func (b *Bag) Twice(i int) api.Errno {
	if err := b.refuse(i); err != api.OK {
		return err
	}
	if b.add(b.grams[i].spoilt, b.grams[i].bytes) == 0 {
		return api.ErrMany
	}
	return api.OK
}

// Turn turns a byte of one.
func (b *Bag) Turn(i, at int, by byte) api.Errno {
	if err := b.refuse(i); err != api.OK {
		return err
	}
	g := &b.grams[i]
	n := len(g.bytes)
	switch {
	case g.spoilt:
		return api.ErrTwice
	case n == 0 || by == 0:
		return api.ErrArg
	}
	at %= n
	if at < 0 {
		// Of a number below 0 the language's remainder is below 0, too.
		at += n
	}
	g.bytes[at] ^= by
	g.spoilt = true
	return api.OK
}

// Size is how many there are.
func (b *Bag) Size() int {
	if !b.made() {
		return 0
	}
	return len(b.grams)
}

// made tells whether New gave the bag.
func (b *Bag) made() bool {
	return b != nil && b.self == b
}

// refuse is the error of a call that is about the i-th datagram.
func (b *Bag) refuse(i int) api.Errno {
	if !b.made() {
		return api.ErrNil
	}
	if i < 0 || i >= len(b.grams) {
		return api.ErrNone
	}
	return api.OK
}

// add puts datagrams behind, as long as there is room: how many came.
func (b *Bag) add(spoilt bool, grams ...[]byte) int {
	came := min(len(grams), api.MaxGrams-len(b.grams))
	for _, g := range grams[:came] {
		b.grams = append(b.grams, gram{bytes: bytes.Clone(g), spoilt: spoilt})
	}
	return came
}
