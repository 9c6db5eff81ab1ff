package past_test

import (
	"math"
	"slices"
	"testing"

	"sargasso/api"
	"sargasso/past"
)

// P12.1: Median is the one in the middle by size: of an even number the greater one of both, of none 0.
func TestMedian(t *testing.T) {
	expectMedian(t, 0)
	expectMedian(t, 2, 3, 1, 2)
	for _, x := range []struct {
		times []uint32
		want  uint32
	}{
		{nil, 0},
		{[]uint32{}, 0},
		{[]uint32{0}, 0},
		{[]uint32{7}, 7},
		{[]uint32{1, 2}, 2},
		{[]uint32{2, 1}, 2},
		{[]uint32{0, 5}, 5},
		{[]uint32{5, 5}, 5},
		{[]uint32{1, 2, 9}, 2},
		{[]uint32{9, 1, 2}, 2},
		{[]uint32{2, 9, 1}, 2},
		{[]uint32{1, 2, 3, 4}, 3},
		{[]uint32{4, 3, 2, 1}, 3},
		{[]uint32{10, 40, 20, 30}, 30},
		{[]uint32{50, 10, 40, 20, 30}, 30},
		{[]uint32{60, 50, 10, 40, 20, 30}, 40},
		{[]uint32{70, 60, 50, 10, 40, 20, 30}, 40},
		{[]uint32{70, 60, 80, 50, 10, 40, 20, 30}, 50},
		{[]uint32{90, 10, 80, 20, 70, 30, 60, 40, 50}, 50},
		{[]uint32{90, 10, 80, 20, 70, 30, 60, 40, 50, 100}, 60},
		{[]uint32{110, 90, 10, 80, 20, 70, 30, 60, 40, 50, 100}, 60},
	} {
		expectMedian(t, x.want, x.times...)
	}
}

// P12.1: equal ones count each by itself.
func TestMedianOfEqualOnes(t *testing.T) {
	expectMedian(t, 1, 1, 1, 9)
	expectMedian(t, 9, 9, 1, 9)
	expectMedian(t, 9, 1, 9, 1, 9)
	expectMedian(t, 1, 1, 9, 1, 9, 1)
	expectMedian(t, 4, 4, 4, 4, 4, 4, 4, 4, 4, 4, 4, 4)
	expectMedian(t, 7, 7, 3, 7, 3, 7, 3, 7, 3, 7, 3, 7)
	expectMedian(t, 3, 3, 7, 3, 7, 3, 7, 3, 7, 3, 7, 3)
	expectMedian(t, 0, 0, 0, 0, 5)
}

// P12.1: by size, up to the greatest ones: those from 2^31 on are no lesser ones, and none goes round.
func TestMedianOfGreatOnes(t *testing.T) {
	expectMedian(t, math.MaxUint32, math.MaxUint32)
	expectMedian(t, math.MaxUint32, 0, math.MaxUint32)
	expectMedian(t, math.MaxUint32, math.MaxUint32-1, math.MaxUint32)
	expectMedian(t, 1<<31, 1<<31, 1, math.MaxUint32)
	expectMedian(t, 1<<31, 1<<31-1, 1<<31, 0, math.MaxUint32)
	expectMedian(t, 1<<31-1, 1<<31, 1<<31-1, 0)
	expectMedian(t, 1<<16, 1<<24, 1<<16, 1<<8)
	expectMedian(t, math.MaxUint32, slices.Repeat([]uint32{math.MaxUint32}, 50)...)
}

// P12.1: only the last Span count: from Span on the first ones go out, one by one.
func TestMedianOfTheLast(t *testing.T) {
	if api.Span != 11 {
		t.Fatalf("Span is %d", api.Span)
	}
	l := []uint32{1000, 1, 2, 3, 4, 5, 6, 7, 8, 9, 10, 11, 12, 13, 14, 15, 16}
	for n, want := range []uint32{0, 1000, 1000, 2, 3, 3, 4, 4, 5, 5, 6, 6, 6, 7, 8, 9, 10, 11} {
		expectMedian(t, want, l[:n]...)
	}
	expectMedian(t, 6, 99, 98, 1, 2, 3, 4, 5, 6, 7, 8, 9, 10, 11)
	expectMedian(t, 6, 0, 0, 0, 11, 10, 9, 8, 7, 6, 5, 4, 3, 2, 1)
	expectMedian(t, 8, slices.Concat(slices.Repeat([]uint32{7}, 5000), slices.Repeat([]uint32{8}, 6))...)
	expectMedian(t, 7, slices.Concat(slices.Repeat([]uint32{7}, 5000), slices.Repeat([]uint32{8}, 5))...)
}

// P12.1: in whatever order the last Span stand, it is the same one.
func TestMedianInAnyOrder(t *testing.T) {
	turn := &turns{1}
	for many := 1; many <= api.Span; many++ {
		var l []uint32
		for i := range many {
			l = append(l, uint32(10*i))
		}
		for range 200 {
			i, j := turn.below(many), turn.below(many)
			l[i], l[j] = l[j], l[i]
			expectMedian(t, uint32(many/2*10), l...)
		}
	}
}

// P12.1: many lists, held against the model.
func TestMedianAgainstTheModel(t *testing.T) {
	turn := &turns{2}
	for range 3000 {
		var l []uint32
		for range turn.below(30) {
			l = append(l, turn.time())
		}
		expectMedian(t, middle(l), l...)
	}
}

// P12.1, P0.4: what is handed in is not changed; what lies around it in its memory is neither read nor written.
func TestMedianLeavesWhatIsHandedIn(t *testing.T) {
	for many := range 30 {
		whole := make([]uint32, 90)
		for i := range whole {
			whole[i] = uint32(1000 - i)
		}
		was := slices.Clone(whole)
		l := whole[30 : 30+many]
		want := middle(l)
		for range 2 {
			if got := past.Median(l...); got != want {
				t.Errorf("of %v: %d, not %d", l, got, want)
			}
		}
		if !slices.Equal(whole, was) {
			t.Errorf("%d: %v was %v", many, whole, was)
		}
		for i := range whole {
			if i < 30 || i >= 30+many {
				whole[i] = math.MaxUint32
			}
		}
		if got := past.Median(l...); got != want {
			t.Errorf("of %v, with other ones around: %d, not %d", l, got, want)
		}
	}
}
