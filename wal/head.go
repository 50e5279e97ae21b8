package wal

import (
	"jackstay/api"
	"jackstay/disk"
	"jackstay/pack"
)

const (
	// heads is how many sectors bear a head. They take turns, so that the one that holds is not written over.
	heads = 2
	// mark is what a head begins with.
	mark = 0x7961747368636A77
	// wipe stands in the place of a count of notes: all places are to be 0.
	wipe = most + 1
	// top is the greatest number that a head may tell of: the next one is an int, too.
	top = 1 << 62
)

// head is what holds of a log: its turn, from 1 on, the last change's number, and how many notes of the journal are to be done.
type head struct {
	turn   int
	number int
	todo   int
}

// next is the head behind h.
func (h head) next(number, todo int) head {
	return head{turn: h.turn + 1, number: number, todo: todo}
}

// write makes h the head that holds. What it tells of must be on the disk ahead: no order is kept among the sectors of a cache.
func (h head) write(d *disk.Disk) api.Errno {
	var w pack.Writer
	w.Put(mark, uint64(h.turn), uint64(h.number), uint64(h.todo))
	if err := write(d, h.turn%heads, w.Bytes()); err != api.OK {
		return err
	}
	return d.Flush()
}

// parse is the head that b tells of, and of turn 0, if it tells of none.
func parse(b []byte) head {
	r := pack.New(b)
	if r.Get() != mark {
		return head{}
	}
	h := head{turn: r.Int(top), number: r.Int(top), todo: r.Int(wipe)}
	if r.Fault() != (api.Fault{}) {
		return head{}
	}
	return h
}

// newest is the head that holds.
func newest(d *disk.Disk) (head, api.Errno) {
	var last head
	for i := range heads {
		b, err := read(d, i)
		if err == api.ErrDown {
			return head{}, err
		}
		if h := parse(b); h.turn > last.turn {
			last = h
		}
	}
	if last.turn == 0 {
		return head{}, api.ErrForm
	}
	return last, api.OK
}

// settle does what is left to be done, and is the head behind that.
func settle(d *disk.Disk) (head, api.Errno) {
	h, err := newest(d)
	if err != api.OK || h.todo == 0 {
		return h, err
	}
	if h.todo == wipe {
		err = clean(d)
	} else {
		err = redo(d, h.todo)
	}
	if err != api.OK {
		return head{}, err
	}
	done := h.next(h.number, 0)
	if err := done.write(d); err != api.OK {
		return head{}, err
	}
	return done, api.OK
}
