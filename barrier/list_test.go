package barrier

import (
	"slices"
	"testing"
)

// What goes out of a list is gone from it wherever it stands; the list itself is not written into.
func TestWithout(t *testing.T) {
	for n := range 6 {
		var list []int
		for i := range n {
			list = append(list, i%3)
		}
		for gone := -1; gone <= 3; gone++ {
			before := slices.Clone(list)
			left := without(list, gone)
			want := slices.DeleteFunc(slices.Clone(list), func(i int) bool { return i == gone })
			if !slices.Equal(left, want) || !slices.Equal(list, before) {
				t.Fatalf("of %v without %d: %v; the list: %v", before, gone, left, list)
			}
			for i := range left {
				left[i] = 9
			}
			if !slices.Equal(list, before) {
				t.Fatalf("%v has become %v", before, list)
			}
		}
	}
}

// A list is one of anything.
func TestWithoutText(t *testing.T) {
	if got := without([]string{"a", "b", "a", "c"}, "a"); !slices.Equal(got, []string{"b", "c"}) {
		t.Fatal(got)
	}
	if got := without([]Order{{1, 2, 3}}, Order{1, 2, 3}); len(got) != 0 {
		t.Fatal(got)
	}
}
