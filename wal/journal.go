package wal

import (
	"jackstay/api"
	"jackstay/disk"
	"jackstay/pack"
	"jackstay/sum"
)

const (
	// journal is the sector of the first note.
	journal = heads
	// sealed is how many bytes of a head's or a note's sector lie ahead of their sum.
	sealed = api.Sector - 4
)

// write writes a sector with its sum.
func write(d *disk.Disk, i int, b []byte) api.Errno {
	var s [sealed]byte
	copy(s[:], b)
	return d.Write(i, sum.Seal(s[:]))
}

// read is what write wrote, if the sector has that.
func read(d *disk.Disk, i int) ([]byte, api.Errno) {
	b, err := d.Read(i)
	if err != api.OK {
		return nil, err
	}
	s, err := sum.Open(b)
	if err != api.OK {
		return nil, api.ErrForm
	}
	return s, api.OK
}

// note lays a change's updates into the journal, whose notes are all done.
func note(d *disk.Disk, updates []Update) api.Errno {
	for i, u := range updates {
		var r row
		copy(r[:], u.Data)
		var w pack.Writer
		w.Put(uint64(u.At))
		if err := write(d, journal+i, append(w.Bytes(), r[:]...)); err != api.OK {
			return err
		}
	}
	return d.Flush()
}

// noted are the updates of the journal's first notes.
func noted(d *disk.Disk, notes int) ([]Update, api.Errno) {
	var updates []Update
	for i := range notes {
		b, err := read(d, journal+i)
		if err != api.OK {
			return nil, err
		}
		r := pack.New(b)
		at := r.Int(d.Sectors() - least)
		if r.Fault() != (api.Fault{}) {
			return nil, api.ErrForm
		}
		updates = append(updates, Update{At: at, Data: b[r.At():][:width]})
	}
	return updates, api.OK
}

// redo writes the places of the journal's first notes. Broken off and begun again it comes to the same.
func redo(d *disk.Disk, notes int) api.Errno {
	updates, err := noted(d, notes)
	if err != api.OK {
		return err
	}
	for _, u := range updates {
		if err := d.Write(places+u.At, u.Data); err != api.OK {
			return err
		}
	}
	return d.Flush()
}

// clean makes all places 0.
func clean(d *disk.Disk) api.Errno {
	for i := places; i < d.Sectors(); i++ {
		if err := d.Write(i, nil); err != api.OK {
			return err
		}
	}
	return d.Flush()
}
