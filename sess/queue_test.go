package sess

import (
	"slices"
	"testing"
)

// Nothing lies behind a queue, so that what two copies put behind it is apart; none is written into.
func TestQueue(t *testing.T) {
	var q queue[int]
	for n := range 20 {
		for first := range n + 1 {
			rest := q.rest(first)
			one, other := rest.with(-1), rest.with(-2)
			if !slices.Equal(rest, q[first:]) || !slices.Equal(one, append(slices.Clone(rest), -1)) || !slices.Equal(other, append(slices.Clone(rest), -2)) {
				t.Fatalf("of %v from %d on: %v, %v, %v", q, first, rest, one, other)
			}
			for _, each := range []queue[int]{q, rest, one, other} {
				if cap(each) != len(each) {
					t.Fatalf("behind %v lies room for %d", each, cap(each)-len(each))
				}
			}
			if len(one) > 1 {
				one[0] = -9
				if slices.Contains(rest, -9) || slices.Contains(other, -9) || slices.Contains(q, -9) {
					t.Fatalf("%v, %v and %v are one", rest, other, q)
				}
			}
		}
		q = q.with(n)
	}
}

// A queue is one of anything.
func TestQueueOfTexts(t *testing.T) {
	var q queue[string]
	for _, text := range []string{"a", "b", "c"} {
		q = q.with(text)
	}
	if got := q.rest(1).with("d").rest(1); !slices.Equal(got, []string{"c", "d"}) {
		t.Fatal(got)
	}
	if got := q.rest(3); got != nil {
		t.Fatalf("%v is left of nothing", got)
	}
}
