package volume

import (
	"errors"
	"testing"

	"jackstay/api"
)

// around has an error in it.
type around struct{ in error }

func (a around) Error() string { return "around: " + a.in.Error() }
func (a around) Unwrap() error { return a.in }

// A refusal bears its node, and its number is taken out of it, also when it lies in another error.
func TestRefusal(t *testing.T) {
	v, _ := New(4, 0, 1)
	v.Freeze(1, true)
	for node := -1; node <= 16; node++ {
		var want api.Errno
		_, err := v.shard(node)
		if node < 0 || node == 16 {
			want = api.ErrNone
		} else {
			err = first(err, v.spare(node, 0), v.thawed(node))
		}
		if node == 1 {
			want = api.ErrState
		}
		if why(err) != want {
			t.Fatalf("of the node %d: %v, and not %v", node, err, want)
		}
		var r *refusal
		if errors.As(err, &r) != (want != api.OK) || r != nil && r.node != node {
			t.Fatalf("of the node %d: %v", node, err)
		}
		if err != nil && why(around{around{err}}) != want {
			t.Fatalf("of the node %d, in another error: %v", node, why(around{err}))
		}
	}
	if err := v.thawed(1); err == nil || err.Error() != "node 1: error 11" {
		t.Fatal(err)
	}
	if why(nil) != api.OK || first() != nil || first(nil, nil) != nil {
		t.Fatal(why(nil), first(), first(nil, nil))
	}
}
