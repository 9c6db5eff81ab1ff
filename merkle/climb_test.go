package merkle_test

import (
	"math"
	"slices"
	"testing"

	"sargasso/api"
	"sargasso/merkle"
)

// expectNoClimb asks that there is no root, and that nothing is answered beside.
func expectNoClimb(t *testing.T, at, of, steps int) {
	t.Helper()
	if got, is := merkle.Climb(api.Hash{7}, at, of, make([]api.Hash, steps)); got != (api.Hash{}) || is {
		t.Errorf("number %d of %d by %d steps: %x, %v", at, of, steps, got, is)
	}
}

// P6.1: one alone is its own root.
func TestClimbOfOne(t *testing.T) {
	for _, h := range append(leaves(3), api.Hash{}) {
		for _, path := range [][]api.Hash{nil, {}} {
			if got, is := merkle.Climb(h, 0, 1, path); got != h || !is {
				t.Errorf("%x alone: %x, %v", h, got, is)
			}
		}
	}
}

// P6.1: climbs written out: the place tells, row by row, on which side the path's digest stands.
func TestClimbWrittenOut(t *testing.T) {
	l := leaves(5)
	leaf, p, q, r := l[0], l[1], l[2], l[3]
	for _, x := range []struct {
		at, of int
		path   []api.Hash
		want   api.Hash
	}{
		{0, 2, []api.Hash{p}, twice(leaf, p)},
		{1, 2, []api.Hash{p}, twice(p, leaf)},
		{2, 3, []api.Hash{leaf, q}, twice(q, twice(leaf, leaf))},
		{0, 4, []api.Hash{p, q}, twice(twice(leaf, p), q)},
		{1, 4, []api.Hash{p, q}, twice(twice(p, leaf), q)},
		{2, 4, []api.Hash{p, q}, twice(q, twice(leaf, p))},
		{3, 4, []api.Hash{p, q}, twice(q, twice(p, leaf))},
		{0, 8, []api.Hash{p, q, r}, twice(twice(twice(leaf, p), q), r)},
		{3, 8, []api.Hash{p, q, r}, twice(twice(q, twice(p, leaf)), r)},
		{5, 8, []api.Hash{p, q, r}, twice(r, twice(twice(p, leaf), q))},
		{6, 7, []api.Hash{leaf, q, r}, twice(r, twice(q, twice(leaf, leaf)))},
	} {
		if got, is := merkle.Climb(leaf, x.at, x.of, x.path); got != x.want || !is {
			t.Errorf("number %d of %d: %x, %v, not %x", x.at, x.of, got, is, x.want)
		}
	}
}

// P6.1: the path's digest is taken as it stands, beside the last of an odd row too.
func TestClimbTakesThePathAsItIs(t *testing.T) {
	l := leaves(3)
	if got, is := merkle.Climb(l[0], 2, 3, l[1:]); got != twice(l[2], twice(l[0], l[1])) || !is {
		t.Errorf("%x, %v", got, is)
	}
}

// P6.2: Climb of Path is Root, at each place of each count.
func TestClimbOfPathIsRoot(t *testing.T) {
	for _, n := range counts() {
		l := leaves(n)
		root := merkle.Root(l...)
		for at := range l {
			path, is := merkle.Path(at, l...)
			if got, has := merkle.Climb(l[at], at, n, path); got != root || !is || !has {
				t.Fatalf("number %d of %d: %x, %v, %v, not %x", at, n, got, is, has, root)
			}
		}
	}
}

// P6.2: so it is where digests stand more than once, or are 32 bytes of 0.
func TestClimbOfPathIsRootOfLikeOnes(t *testing.T) {
	for n := 1; n <= 20; n++ {
		l := slices.Repeat(leaves(1), n)
		if n%3 == 0 {
			clear(l)
		}
		root := merkle.Root(l...)
		for at := range l {
			path, _ := merkle.Path(at, l...)
			if got, is := merkle.Climb(l[at], at, n, path); got != root || !is {
				t.Errorf("number %d of %d: %x, %v, not %x", at, n, got, is, root)
			}
		}
	}
}

// P6.1: another leaf, another digest of the path, or the path the other way round, is another root.
func TestClimbOfOthers(t *testing.T) {
	for _, n := range []int{2, 3, 4, 5, 8, 11, 16} {
		l := leaves(n)
		root := merkle.Root(l...)
		for at := range l {
			path, _ := merkle.Path(at, l...)
			if got, is := merkle.Climb(api.Hash{9}, at, n, path); got == root || !is {
				t.Errorf("another leaf, number %d of %d: %v", at, n, is)
			}
			for i := range path {
				other := slices.Clone(path)
				other[i][31] ^= 1
				if got, is := merkle.Climb(l[at], at, n, other); got == root || !is {
					t.Errorf("another path at step %d, number %d of %d: %v", i, at, n, is)
				}
			}
			if len(path) > 1 {
				slices.Reverse(path)
				if got, is := merkle.Climb(l[at], at, n, path); got == root || !is {
					t.Errorf("the path turned round, number %d of %d: %v", at, n, is)
				}
			}
		}
	}
}

// P6.1: a climb from another place of as many is another root.
func TestClimbOfAnotherPlace(t *testing.T) {
	for _, n := range []int{2, 4, 5, 8, 16} {
		l := leaves(n)
		root := merkle.Root(l...)
		for at := range l {
			path, _ := merkle.Path(at, l...)
			for other := range l {
				if got, _ := merkle.Climb(l[at], other, n, path); other != at && got == root {
					t.Errorf("number %d of %d as number %d", at, n, other)
				}
			}
		}
	}
}

// P6.1: at has to be from 0 to below of.
func TestClimbOfNoPlace(t *testing.T) {
	for of, steps := range map[int]int{1: 0, 2: 1, 3: 2, 4: 2, 5: 3, 8: 3, 9: 4, most: 20} {
		for _, at := range []int{-1, -2, -of, -of - 1, math.MinInt, of, of + 1, 2 * of, math.MaxInt} {
			expectNoClimb(t, at, of, steps)
		}
		for _, at := range []int{0, of / 2, of - 1} {
			if got, is := merkle.Climb(api.Hash{7}, at, of, make([]api.Hash, steps)); got == (api.Hash{}) || !is {
				t.Errorf("number %d of %d by %d steps: %x, %v", at, of, steps, got, is)
			}
		}
	}
}

// P6.1: of has to be from 1 to 2^20.
func TestClimbOfNoCount(t *testing.T) {
	for _, of := range []int{0, -1, -2, -most, math.MinInt, most + 1, most + 2, 2 * most, 1 << 32, math.MaxInt} {
		for _, at := range []int{0, -1, 1, of - 1, of} {
			for steps := range 65 {
				expectNoClimb(t, at, of, steps)
			}
		}
	}
}

// P6.1: a path has as many as there are rows but the last, no more and no fewer.
func TestClimbByEachLength(t *testing.T) {
	for of, rows := range map[int]int{
		1: 1, 2: 2, 3: 3, 4: 3, 5: 4, 6: 4, 7: 4, 8: 4, 9: 5, 15: 5, 16: 5, 17: 6, 31: 6, 32: 6, 33: 7, 200: 9, 256: 9, 257: 10,
		1<<19 - 1: 20, 1 << 19: 20, 1<<19 + 1: 21, most - 1: 21, most: 21,
	} {
		for steps := range 70 {
			if steps != rows-1 {
				expectNoClimb(t, 0, of, steps)
				expectNoClimb(t, of-1, of, steps)
				continue
			}
			for _, at := range []int{0, of - 1} {
				if _, is := merkle.Climb(api.Hash{7}, at, of, make([]api.Hash, steps)); !is {
					t.Errorf("number %d of %d by %d steps: none", at, of, steps)
				}
			}
		}
	}
}

// P6.1, P0.4: the path is not changed, and what lies behind its length is not read.
func TestClimbLeavesThePathAlone(t *testing.T) {
	memory := leaves(6)
	for of, steps := range map[int]int{1: 0, 2: 1, 4: 2, 8: 3, 16: 4} {
		for at := range of {
			got, is := merkle.Climb(api.Hash{7}, at, of, memory[:steps])
			want, _ := merkle.Climb(api.Hash{7}, at, of, leaves(6)[:steps:steps])
			if got != want || !is || !slices.Equal(memory, leaves(6)) {
				t.Errorf("number %d of %d: %x, %v, not %x", at, of, got, is, want)
			}
		}
		expectNoClimb(t, 0, of, steps+1)
		if got, is := merkle.Climb(api.Hash{7}, 0, 32, memory[:steps]); got != (api.Hash{}) || is {
			t.Errorf("%d of 5 steps, with the others behind the length: %x, %v", steps, got, is)
		}
	}
}

// P6.1, P6.2: the greatest count that Climb comes to.
func TestClimbOfTheGreatestCount(t *testing.T) {
	l := leaves(most)
	root := merkle.Root(l...)
	path, is := merkle.Path(most-2, l...)
	if all := rows(l); root != all[20][0] || !slices.Equal(path, pathIn(all, most-2)) || !is {
		t.Errorf("the root %x, a path of %d steps, %v", root, len(path), is)
	}
	if got, is := merkle.Climb(l[most-2], most-2, most, path); got != root || !is {
		t.Errorf("%x, %v, not %x", got, is, root)
	}
}

// P6.1: of one more there are still paths, but no climb.
func TestPathBehindTheGreatestCount(t *testing.T) {
	l := leaves(most + 1)
	path, is := merkle.Path(most, l...)
	if !slices.Equal(path, pathIn(rows(l), most)) || len(path) != 21 || !is {
		t.Errorf("%d steps, %v", len(path), is)
	}
	if got, is := merkle.Climb(l[most], most, most+1, path); got != (api.Hash{}) || is {
		t.Errorf("%x, %v", got, is)
	}
}
