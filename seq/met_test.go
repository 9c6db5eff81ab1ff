package seq_test

import (
	"math"
	"testing"

	"sargasso/api"
)

// P14.2: Met is false where Need is, however high and late.
func TestMetOfWrongCounts(t *testing.T) {
	for _, version := range []uint32{0, 1, 2, math.MaxUint32} {
		for _, x := range []sample{
			{of(version, 0), []int{1}, nil},
			{of(version, 0), nil, []uint32{1}},
			{of(version, 0), []int{1}, []uint32{1}},
			{of(version, 0, 5), nil, nil},
			{of(version, 0, 5), []int{1}, nil},
			{of(version, 0, 5), nil, []uint32{1}},
			{of(version, 0, 5), []int{1, 1}, []uint32{1}},
			{of(version, 0, 5), []int{1}, []uint32{1, 1}},
			{of(version, 0, api.Final, api.Final), []int{1}, []uint32{1}},
		} {
			expectMet(t, "wrong counts", false, x, api.MaxHeight, math.MaxUint32)
			expectMet(t, "wrong counts", false, x, 1, 1)
		}
	}
}

// P14.2: the height has to be above Need's, no past helps.
func TestMetByHeight(t *testing.T) {
	x := sample{of(2, 0, 5), []int{100}, []uint32{7}}
	for _, past := range []uint32{0, 1, 104, 106, math.MaxUint32} {
		for _, height := range []int{-1, 0, 99, 103, 104, 105, 106, api.MaxHeight} {
			expectMet(t, "by height", height > 104, x, height, past)
		}
	}
	expectMet(t, "its coin's own height", true, sample{of(2, 0, 0), []int{100}, []uint32{7}}, 100, 0)
	expectMet(t, "below its coin's", false, sample{of(2, 0, 0), []int{100}, []uint32{7}}, 99, 0)
	expectMet(t, "above all heights", false, sample{of(2, 0, 0xffff), []int{api.MaxHeight}, []uint32{7}}, api.MaxHeight, 0)
}

// P14.2: the past has to be above Need's, no height helps; all of its 32 bits count.
func TestMetByPast(t *testing.T) {
	x := sample{of(2, 0, api.ByTime|1), []int{100}, []uint32{7}}
	for _, height := range []int{0, 1, 100, api.MaxHeight} {
		for _, past := range []uint32{0, 7, 517, 518, 519, 520, 1 << 31, math.MaxUint32} {
			expectMet(t, "by time", past > 518, x, height, past)
		}
	}
	late := sample{of(2, 0, api.ByTime), []int{100}, []uint32{1 << 31}}
	expectMet(t, "from 2^31 on", true, late, 0, 1<<31)
	expectMet(t, "from 2^31 on", true, late, 0, math.MaxUint32)
	expectMet(t, "below 2^31", false, late, 0, 1<<31-1)
	last := sample{of(2, 0, api.ByTime), []int{100}, []uint32{math.MaxUint32}}
	expectMet(t, "the last one", true, last, 0, math.MaxUint32)
	expectMet(t, "ahead of the last one", false, last, 0, math.MaxUint32-1)
	never := sample{of(2, 0, api.ByTime|1), []int{100}, []uint32{math.MaxUint32}}
	for _, past := range []uint32{0, 510, 511, 512, math.MaxUint32} {
		expectMet(t, "above all pasts", false, never, api.MaxHeight, past)
	}
}

// P14.2: both have to be above.
func TestMetByBoth(t *testing.T) {
	x := sample{of(2, 0, 5, api.ByTime|1), []int{100, 100}, []uint32{7, 7}}
	expectMet(t, "neither", false, x, 104, 518)
	expectMet(t, "the height alone", false, x, 105, 518)
	expectMet(t, "the past alone", false, x, 104, 519)
	expectMet(t, "both", true, x, 105, 519)
}

// P14.2: of none each height from 0 on is above -1, and each past; the height -1 is not.
func TestMetOfNone(t *testing.T) {
	for _, x := range []sample{
		{},
		{of(1, 0, 5), []int{100}, []uint32{7}},
		{of(2, 0), nil, nil},
		{of(2, 0, api.Final), []int{100}, []uint32{7}},
		{of(2, 0, api.Locked|5, api.Locked|api.ByTime|5), []int{100, 100}, []uint32{7, 7}},
	} {
		expectMet(t, "none", true, x, 0, 0)
		expectMet(t, "none", true, x, api.MaxHeight, math.MaxUint32)
		expectMet(t, "the height -1", false, x, -1, 0)
		expectMet(t, "the height -1", false, x, -1, math.MaxUint32)
	}
	expectMet(t, "a coin of height -1", true, sample{of(2, 0, 0), []int{-1}, []uint32{0}}, -1, 0)
	expectMet(t, "one above it", false, sample{of(2, 0, 1), []int{-1}, []uint32{0}}, -1, 0)
}

// P14.2: Met asks for no Time.
func TestMetAsksNoTime(t *testing.T) {
	for _, time := range []uint32{0, 1, api.MaxHeight, api.Split, math.MaxUint32} {
		expectMet(t, "a Time", true, sample{of(2, time, 5), []int{100}, []uint32{7}}, 105, 0)
		expectMet(t, "a Time", false, sample{of(2, time, 5), []int{100}, []uint32{7}}, 104, math.MaxUint32)
	}
}

// P14.2: many, held against the model, heights and pasts beside the bound among them; again the same.
func TestMetAgainstTheModel(t *testing.T) {
	r := &turns{5}
	seen := map[bool]int{}
	for range 20000 {
		x := r.sample()
		want := modelNeed(x)
		height, past := r.height(), r.time()
		if r.below(3) > 0 {
			height = max(-1, want.height+r.below(3)-1)
		}
		if r.below(3) > 0 {
			past = uint32(min(max(0, want.past+int64(r.below(3))-1), math.MaxUint32))
		}
		met := want.is && height > want.height && int64(past) > want.past
		seen[met]++
		for range 2 {
			expectMet(t, "of many", met, x, height, past)
		}
	}
	if seen[true] < 1000 || seen[false] < 1000 {
		t.Errorf("too few of one kind: %v", seen)
	}
}
