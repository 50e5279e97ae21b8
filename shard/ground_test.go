package shard

import (
	"math/rand"
	"testing"

	"jackstay/api"
)

// Beside the volumes that are told of, no more is kept than some trees and their units, however long a shard goes on.
func TestKept(t *testing.T) {
	for _, n := range []int{1, 7, 100, api.MaxBlocks} {
		r := rand.New(rand.NewSource(int64(n)))
		s, _ := New(n)
		greatest := 0
		for range 40000 {
			id := 1 + r.Intn(40)
			switch r.Intn(60) {
			case 0:
				s.Flush()
			case 1:
				s.Snap(id)
			case 2:
				s.Delete(id)
			case 3:
				s.Rollback(id)
			case 4:
				s.Crash([]bool{true, true, false, true})
			case 5:
				s.Do(api.Op{Kind: api.Trim, Off: r.Intn(n), Len: 1})
			default:
				off := r.Intn(n)
				s.Do(api.Op{Kind: api.Write, Off: off, Data: make([]uint64, 1+r.Intn(min(64, n-off)))})
			}
			trees, units := s.ground.forest.Trees(), len(s.ground.units)
			if trees > crowd+s.Dirty() || units > (1+api.MaxSnaps)*n+(crowd+s.Dirty())*api.MaxData {
				t.Fatalf("%d trees and %d units are kept of %d blocks, %d snapshots and %d open ops", trees, units, n, len(s.Snaps()), s.Dirty())
			}
			greatest = max(greatest, trees)
		}
		if greatest < crowd {
			t.Fatalf("%d trees alone", greatest)
		}
	}
}

// Snapshots have the trees of volumes in common, and those the nodes that were not changed: a snapshot lays nothing anew.
func TestCommon(t *testing.T) {
	s, _ := New(api.MaxBlocks)
	for i := range 100 {
		s.Do(api.Op{Kind: api.Write, Off: 9 * i, Data: []uint64{1}})
	}
	s.Snap(1)
	trees, units := s.ground.forest.Trees(), len(s.ground.units)
	s.Snap(2)
	s.Rollback(1)
	if s.ground.forest.Trees() != trees || len(s.ground.units) != units || s.snaps[1] != s.snaps[2] || s.snaps[1] != s.now {
		t.Fatalf("%d trees and %d units, and then %d and %d", trees, units, s.ground.forest.Trees(), len(s.ground.units))
	}
	s.Do(api.Op{Kind: api.Trim, Off: 450, Len: 1})
	if fresh := s.ground.forest.Fresh(s.durable, s.now); fresh > 20 {
		t.Fatalf("%d nodes are fresh behind an op of one block", fresh)
	}
}
