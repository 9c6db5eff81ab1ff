package past_test

import (
	"math"
	"slices"
	"testing"

	"sargasso/api"
	"sargasso/head"
	"sargasso/past"
	"sargasso/tree"
)

// P12.1: of the start alone it is its Time, whatever that is.
func TestStartAlone(t *testing.T) {
	for _, time := range []uint32{0, 1, 50, 1<<31 - 1, 1 << 31, math.MaxUint32} {
		r := begun(time)
		expect(t, "the start", r, r.Start(), time)
	}
	r := tree.New(api.Head{})
	expect(t, "the zero value", r, r.Start(), 0)
	expectNone(t, "the zero value's Prev", r, api.Hash{})
}

// P12.1: Of is the Median of the last Span Times down from a block, its own among them; All is that of each, from height 0 on.
func TestBranch(t *testing.T) {
	r := begun(50)
	ids := grow(t, r, r.Start(), 1, 10, 60, 20, 30, 70, 80, 90, 15, 100, 110, 120, 130)
	want := []uint32{50, 50, 50, 50, 30, 50, 50, 60, 50, 60, 60, 70, 80}
	expect(t, "the start", r, r.Start(), want[0])
	for i, id := range ids {
		expect(t, "a block", r, id, want[:i+2]...)
	}
}

// P12.1: the start is among the last Span up to height Span - 1, and not above that.
func TestStartGoesOut(t *testing.T) {
	low, high := uint32(1000), uint32(2000)
	r := begun(high)
	ids := grow(t, r, r.Start(), 1, slices.Concat(slices.Repeat([]uint32{low}, 5), slices.Repeat([]uint32{high}, 5), []uint32{low, low})...)
	for i, want := range []uint32{high, low, low, low, low, low, low, low, high, high, low, low} {
		if n, is := past.Of(r, ids[i]); n != want || !is {
			t.Errorf("of height %d: %d, %v, not %d", i+1, n, is, want)
		}
	}
}

// P12.1: only a block's own branch counts: not those that part from it, nor what stands on it, in whatever order they come.
func TestBranches(t *testing.T) {
	r := begun(100)
	stem := []uint32{100, 110, 90, 120}
	left := []uint32{500, 510, 520, 530, 540, 550, 560, 570, 580, 590, 600, 610}
	right := []uint32{1, 2, 3, 4, 5, 6, 7, 8, 9, 10, 11, 12}
	ids := slices.Concat([]api.Hash{r.Start()}, grow(t, r, r.Start(), 1, stem[1:]...))
	lastLeft, lastRight := ids[3], ids[3]
	for i := range left {
		lastLeft = grow(t, r, lastLeft, 100+uint32(i), left[i])[0]
		lastRight = grow(t, r, lastRight, 200+uint32(i), right[i])[0]
		expect(t, "left", r, lastLeft, middles(slices.Concat(stem, left[:i+1]))...)
		expect(t, "right", r, lastRight, middles(slices.Concat(stem, right[:i+1]))...)
		for n, id := range ids {
			expect(t, "the stem", r, id, middles(stem[:n+1])...)
		}
	}
	if n, _ := past.Of(r, lastLeft); n != 560 {
		t.Errorf("left: %d", n)
	}
	if n, _ := past.Of(r, lastRight); n != 7 {
		t.Errorf("right: %d", n)
	}
}

// P12.1: of what is not there it is none: far from what is, one bit beside it, what was refused, what a header names.
func TestNone(t *testing.T) {
	r := begun(50)
	ids := append(grow(t, r, r.Start(), 1, 60, 70, 80), r.Start())
	for range 2 {
		expectNone(t, "the zero value", r, api.Hash{})
		expectNone(t, "the start's Prev", r, someHash(99))
		expectNone(t, "a Root", r, someHash(1))
		expectNone(t, "far from all", r, someHash(98))
	}
	for _, id := range ids {
		first, last := id, id
		first[0] ^= 0x80
		last[31] ^= 1
		expectNone(t, "a first bit", r, first)
		expectNone(t, "a last bit", r, last)
	}
	early := api.Head{Prev: someHash(97), Time: 90, Work: 1}
	if err := r.Add(early); err != api.ErrParent {
		t.Fatalf("Add: %v", err)
	}
	expectNone(t, "refused", r, head.ID(early))
	expectNone(t, "another tree's", begun(51), ids[0])
}

// P12.1: what is asked ahead of an Add takes part in nothing, and a block that comes in later is seen then.
func TestBetweenAdds(t *testing.T) {
	r := begun(9)
	h := api.Head{Prev: r.Start(), Time: 3, Work: 1}
	expectNone(t, "not yet", r, head.ID(h))
	if err := r.Add(h); err != nil {
		t.Fatalf("Add: %v", err)
	}
	expect(t, "now", r, head.ID(h), 9, 9)
	expect(t, "the start", r, r.Start(), 9)
	if r.Len() != 2 {
		t.Errorf("Len is %d", r.Len())
	}
}

// P12.1: many trees, each block of each held against the model.
func TestAgainstTheModel(t *testing.T) {
	for round := range 40 {
		turn := &turns{uint32(round)}
		times := [][]uint32{{turn.time()}}
		r := begun(times[0][0])
		ids := []api.Hash{r.Start()}
		for n := range 60 {
			parent := len(ids) - 1 - turn.below(1+turn.below(min(4, len(ids))))
			time := turn.time()
			ids = append(ids, grow(t, r, ids[parent], uint32(n)+1, time)...)
			times = append(times, slices.Concat(times[parent], []uint32{time}))
		}
		for i, id := range ids {
			expect(t, "a round", r, id, middles(times[i])...)
		}
		if t.Failed() {
			t.Fatalf("round %d", round)
		}
	}
}

// P12.1: of a branch as long as a tree may hold it is told whole.
func TestFullTree(t *testing.T) {
	turn := &turns{5}
	times := []uint32{turn.time()}
	r := begun(times[0])
	for range api.MaxNodes - 1 {
		times = append(times, turn.time())
	}
	ids := slices.Concat([]api.Hash{r.Start()}, grow(t, r, r.Start(), 1, times[1:]...))
	want := middles(times)
	for _, n := range []int{0, 1, 9, 10, 11, 12, 2000, len(ids) - 2, len(ids) - 1} {
		expect(t, "a full tree", r, ids[n], want[:n+1]...)
	}
	for n, id := range ids {
		if got, is := past.Of(r, id); got != want[n] || !is {
			t.Errorf("Of at height %d is %d, %v, not %d", n, got, is, want[n])
		}
	}
}

// P12.1, P0.4: each list of All is new memory: a write into one, its spare room too, is seen in no other one, and not in the tree.
func TestAllIsNewMemory(t *testing.T) {
	r := begun(50)
	times := []uint32{50, 10, 60, 20, 30, 70, 80, 90, 15, 100, 110, 120, 130}
	ids := slices.Concat([]api.Hash{r.Start()}, grow(t, r, r.Start(), 1, times[1:]...))
	want := middles(times)
	for n, id := range ids {
		before, _ := past.All(r, id)
		spoilt, _ := past.All(r, id)
		whole := spoilt[:cap(spoilt)]
		for i := range whole {
			whole[i] = 7777
		}
		if !slices.Equal(before, want[:n+1]) {
			t.Errorf("at height %d: %v, not %v", n, before, want[:n+1])
		}
	}
	for n, id := range ids {
		expect(t, "spoilt", r, id, want[:n+1]...)
		if h, _ := r.Head(id); h.Time != times[n] {
			t.Errorf("Time at height %d is %d", n, h.Time)
		}
	}
}
