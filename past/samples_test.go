package past_test

import (
	"slices"
	"testing"

	"sargasso/api"
	"sargasso/head"
	"sargasso/past"
	"sargasso/tree"
)

// someHash is a digest of unlike bytes, another one for each n.
func someHash(n int) (h api.Hash) {
	for i := range h {
		h[i] = byte(11*i + 17*n + 3)
	}
	return h
}

// turns are numbers that look like chance, always the same ones.
type turns struct{ next uint32 }

// below is a number below n.
func (r *turns) below(n int) int {
	r.next = r.next*1664525 + 1013904223
	return int(r.next>>8) % n
}

// time is a time of all 32 bits, for the most part one of few, so that there are equal ones.
func (r *turns) time() uint32 {
	if r.below(3) == 0 {
		return uint32(r.below(1<<16))<<16 | uint32(r.below(1<<16))
	}
	return uint32(r.below(20))
}

// middle is what Median should be: the one of the last eleven that has half of them, rounded down, ahead of it. Of equal ones the later one stands behind.
func middle(times []uint32) uint32 {
	l := slices.Clone(times)
	for len(l) > 11 {
		l = l[1:]
	}
	for i, n := range l {
		ahead := 0
		for j, other := range l {
			if other < n || other == n && j < i {
				ahead++
			}
		}
		if ahead == len(l)/2 {
			return n
		}
	}
	return 0
}

// middles are what All should be of a branch of these Times.
func middles(times []uint32) (l []uint32) {
	for i := range times {
		l = append(l, middle(times[:i+1]))
	}
	return l
}

// expectMedian asks for Median of these, and that they stay as they are.
func expectMedian(t *testing.T, want uint32, times ...uint32) {
	t.Helper()
	was := slices.Clone(times)
	if got := past.Median(times...); got != want {
		t.Errorf("Median of %v is %d, not %d", times, got, want)
	}
	if !slices.Equal(times, was) {
		t.Errorf("Median makes %v of %v", times, was)
	}
}

// expect asks for All up to id, and for Of, the last one of it.
func expect(t *testing.T, what string, r *tree.Tree, id api.Hash, want ...uint32) {
	t.Helper()
	if got, is := past.All(r, id); !slices.Equal(got, want) || !is {
		t.Errorf("%s: All is %v, %v, not %v", what, got, is, want)
	}
	if n, is := past.Of(r, id); n != want[len(want)-1] || !is {
		t.Errorf("%s: Of is %d, %v, not %d", what, n, is, want[len(want)-1])
	}
}

// expectNone asks that there is neither Of nor All of id.
func expectNone(t *testing.T, what string, r *tree.Tree, id api.Hash) {
	t.Helper()
	if n, is := past.Of(r, id); n != 0 || is {
		t.Errorf("%s: Of is %d, %v", what, n, is)
	}
	if l, is := past.All(r, id); len(l) != 0 || is {
		t.Errorf("%s: All is %v, %v", what, l, is)
	}
}

// begun is a tree of a start of this Time, whose Prev is none of the tree's.
func begun(time uint32) *tree.Tree {
	return tree.New(api.Head{Version: 1, Prev: someHash(99), Root: someHash(1), Time: time, Work: 1})
}

// grow puts blocks of these Times on the one that goes by id, one on the other, and tells their ids. Their Nonces, from n on, tell them apart from others.
func grow(t *testing.T, r *tree.Tree, id api.Hash, n uint32, times ...uint32) (ids []api.Hash) {
	t.Helper()
	for i, time := range times {
		h := api.Head{Version: 1, Prev: id, Root: someHash(i), Time: time, Work: 1, Nonce: n + uint32(i)}
		if err := r.Add(h); err != nil {
			t.Fatalf("Add of number %d: %v", i, err)
		}
		id = head.ID(h)
		ids = append(ids, id)
	}
	return ids
}
