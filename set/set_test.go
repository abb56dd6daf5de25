package set_test

import (
	"slices"
	"testing"

	"bartizan/set"
)

func TestSet(t *testing.T) {
	s := set.Of(3, 1, 3)
	s.Add()
	s.Add(2, 1)
	if got := s.Rising(); !slices.Equal(got, []int{1, 2, 3}) {
		t.Errorf("Rising = %v", got)
	}
	if !s.Has(2) || s.Has(4) {
		t.Errorf("Has(2) = %t, Has(4) = %t", s.Has(2), s.Has(4))
	}
	other := set.Of(2, 3, 4)
	s.Drop(other)
	if got := s.Rising(); !slices.Equal(got, []int{1}) {
		t.Errorf("behind Drop Rising = %v", got)
	}
	if got := other.Rising(); !slices.Equal(got, []int{2, 3, 4}) {
		t.Errorf("Drop has changed the other set: %v", got)
	}
}

func TestOfNothing(t *testing.T) {
	for _, s := range []set.Set[string]{nil, set.Of[string](), {}} {
		s.Drop(set.Of("a"))
		if s.Has("a") || s.Has("") || len(s.Rising()) > 0 {
			t.Errorf("%v isn't empty", s)
		}
	}
}

func TestWithout(t *testing.T) {
	isEven := func(n int) bool { return n%2 == 0 }
	l := []int{1, 2, 3, 4, 6, 5, 1}
	rest := set.Without(l, isEven)
	if !slices.Equal(rest, []int{1, 3, 5, 1}) {
		t.Errorf("Without = %v", rest)
	}
	rest[0] = 9
	if !slices.Equal(l, []int{1, 2, 3, 4, 6, 5, 1}) {
		t.Errorf("the list has changed: %v", l)
	}
	if got := set.Without(nil, isEven); len(got) > 0 {
		t.Errorf("Without of nothing = %v", got)
	}
	if got := set.Without([]int{2, 4}, isEven); len(got) > 0 {
		t.Errorf("Without of what goes = %v", got)
	}
}
