package best_test

import (
	"bytes"
	"math"
	"slices"
	"testing"

	"sargasso/api"
	"sargasso/best"
	"sargasso/head"
	"sargasso/tree"
)

// P13.1: Best of the start alone is it, whatever its work.
func TestBestOfTheStart(t *testing.T) {
	for _, work := range []uint32{0, 1, 5, 1 << 24, math.MaxUint32} {
		r, m := begun(work)
		x := best.New(r)
		expectBest(t, "the start", x, m.start)
		expect(t, "the start", x, m)
		if x.Over(m.start, m.start) {
			t.Error("the start is Over itself")
		}
	}
}

// P13.1: the work of the whole branch counts: not a block's own, not its height, not when it came.
func TestWorkOfTheBranch(t *testing.T) {
	r, m := begun(5)
	x := best.New(r)
	long := row(m.start, 1, 10, 2)
	short := row(m.start, 20, 2, 11)
	own := on(m.start, 30, 21)
	add(t, r, m, own)
	expectBest(t, "its own", x, head.ID(own))
	add(t, r, m, long...)
	expectBest(t, "a long one of less", x, head.ID(own))
	add(t, r, m, short...)
	expectBest(t, "a short one of more", x, head.ID(short[1]))
	expectOver(t, "a short one of more", x, head.ID(short[1]), head.ID(own))
	expectOver(t, "a short one of more", x, head.ID(own), head.ID(long[9]))
	expectOver(t, "a short one of more", x, head.ID(long[0]), m.start)
	more := row(head.ID(long[9]), 40, 2, 2)
	add(t, r, m, more...)
	expectBest(t, "the long one has more", x, head.ID(more[1]))
	expect(t, "all", x, m)
}

// P13.1: each of many that come, one a time, asked each time and asked at the end only.
func TestBestAsTheTreeGrows(t *testing.T) {
	r, m := begun(5)
	each, end := best.New(r), best.New(r)
	for _, h := range some(m.start) {
		add(t, r, m, h)
		expect(t, "each", each, m)
	}
	expect(t, "at the end", end, m)
}

// P13.1: of as much work the lesser id is Over the other one, be it the first that came or not, higher or not.
func TestAsMuchWork(t *testing.T) {
	r, m := begun(5)
	x := best.New(r)
	var as []api.Hash
	for n := range uint32(20) {
		low := on(m.start, 100+n, 10+n)
		high := on(head.ID(low), 200+n, 90-n)
		add(t, r, m, low, high)
		as = append(as, head.ID(high))
	}
	single := on(m.start, 300, 100)
	add(t, r, m, single)
	as = append(as, head.ID(single))
	came := slices.Clone(as)
	slices.SortFunc(as, func(a, b api.Hash) int { return bytes.Compare(a[:], b[:]) })
	if slices.Equal(came, as) {
		t.Fatal("they came in the order of their ids")
	}
	for i, a := range as {
		for _, b := range as[i+1:] {
			expectOver(t, "as much", x, a, b)
		}
		if x.Over(a, a) {
			t.Errorf("%x is Over itself", a)
		}
	}
	for _, id := range as {
		expectBest(t, "as much", x, id)
		bad(t, "as much", x, m, id)
	}
	expect(t, "as much", x, m)
}

// P13.1: the first byte that is unlike decides, be it a high one or not.
func TestLesserIds(t *testing.T) {
	r, m := begun(5)
	x := best.New(r)
	var heads []api.Head
	for n := range uint32(300) {
		heads = append(heads, on(m.start, n, 7))
	}
	add(t, r, m, heads...)
	ids := idsOf(heads)
	low := slices.MinFunc(ids, func(a, b api.Hash) int { return bytes.Compare(a[:], b[:]) })
	high := slices.MaxFunc(ids, func(a, b api.Hash) int { return bytes.Compare(a[:], b[:]) })
	if low[0] >= 0x80 || high[0] < 0x80 {
		t.Fatal("too few to tell anything")
	}
	expectBest(t, "as much", x, low)
	expectOver(t, "as much", x, low, high)
	for i, a := range ids {
		for _, b := range ids[:i] {
			if a[0] == b[0] {
				first, second := a, b
				if bytes.Compare(b[:], a[:]) < 0 {
					first, second = b, a
				}
				expectOver(t, "the first byte is one", x, first, second)
			}
		}
	}
}

// P13.1: a block of no work of its own has as much as its parent: the lesser id of both is the best.
func TestNoWork(t *testing.T) {
	lesser := map[bool]int{}
	for n := range uint32(20) {
		for _, work := range []uint32{0, 5} {
			r, m := begun(work)
			x := best.New(r)
			h := on(m.start, n, 0)
			id := head.ID(h)
			add(t, r, m, h)
			child := bytes.Compare(id[:], m.start[:]) < 0
			lesser[child]++
			want, other := m.start, id
			if child {
				want, other = id, m.start
			}
			expectBest(t, "no work", x, want)
			expectOver(t, "no work", x, want, other)
			bad(t, "no work", x, m, id)
			expectBest(t, "no work", x, m.start)
		}
	}
	if lesser[true] == 0 || lesser[false] == 0 {
		t.Errorf("too few to tell anything: %v", lesser)
	}
}

// P13.1: works above 32 bits are held against each other whole.
func TestGreatWorks(t *testing.T) {
	r, m := begun(math.MaxUint32)
	x := best.New(r)
	long := row(m.start, 1, 300, math.MaxUint32)
	add(t, r, m, long...)
	tops := slices.Concat([]api.Hash{m.start}, idsOf(long))
	for i := range tops[1:] {
		expectOver(t, "one more", x, tops[i+1], tops[i])
	}
	expectOver(t, "many more", x, tops[300], tops[0])
	side := row(tops[299], 400, 2, math.MaxUint32/2)
	add(t, r, m, side...)
	expectBest(t, "by 1", x, tops[300])
	expectOver(t, "by 1", x, tops[300], head.ID(side[1]))
	one := on(head.ID(side[1]), 500, 2)
	add(t, r, m, one)
	expectBest(t, "by 1", x, head.ID(one))
	expectOver(t, "by 1", x, head.ID(one), tops[300])
}

// P13.1: Over tells of marked ones what it tells of others.
func TestOverOfMarkedOnes(t *testing.T) {
	r, m, ids := someTree(t)
	x := best.New(r)
	bad(t, "marked", x, m, ids["a"], ids["l"])
	expectBest(t, "marked", x, ids["k"])
	for _, l := range []string{"i", "f", "d", "l"} {
		expectOver(t, l, x, ids[l], ids["k"])
	}
	expectOver(t, "both are marked", x, ids["i"], ids["a"])
	expect(t, "marked", x, m)
}

// P13.1: Over of one that is not there is false, be it the first, the second or both.
func TestOverOfWhatIsNotThere(t *testing.T) {
	r, m, ids := someTree(t)
	x := best.New(r)
	for _, none := range m.absent() {
		for _, id := range ids {
			if x.Over(none, id) || x.Over(id, none) {
				t.Errorf("Over of %x and %x", none, id)
			}
		}
		for _, other := range m.absent() {
			if x.Over(none, other) {
				t.Errorf("Over of %x and %x", none, other)
			}
		}
	}
	late := on(ids["i"], 70, 1000)
	if x.Over(head.ID(late), ids["a"]) {
		t.Error("Over of what is to come")
	}
	add(t, r, m, late)
	expectOver(t, "it came", x, head.ID(late), ids["a"])
}

// P13.1: as the best is marked, again and again, the next best comes, down to the start.
func TestBestOfTheRest(t *testing.T) {
	r, m, ids := someTree(t)
	x := best.New(r)
	for _, letter := range []string{"i", "d", "f", "l", "k", "h", "j", "g", "c", "e", "b", "a"} {
		expectBest(t, letter, x, ids[letter])
		bad(t, letter, x, m, ids[letter])
	}
	expectBest(t, "the start", x, m.start)
	expectMarks(t, "all", x, named(ids, "s"), named(ids, "abcdefghijkl")...)
	late := on(m.start, 80, 1)
	add(t, r, m, late, on(ids["a"], 81, 1000))
	expectBest(t, "one more", x, head.ID(late))
	expect(t, "one more", x, m)
}

// P13.1: a mark that falls between two that come doesn't let one of them be forgotten.
func TestMarksBetweenThoseThatCome(t *testing.T) {
	r, m := begun(5)
	x := best.New(r)
	heads := some(m.start)
	for i, h := range heads {
		add(t, r, m, h)
		if i%3 == 1 {
			expectBest(t, "it came", x, m.best())
		}
		if i%4 == 2 {
			bad(t, "it came", x, m, head.ID(h))
		}
	}
	expect(t, "all came", x, m)
}

// P13.1: a full tree, all on the start: each is the best, by its work and then by its id, as those ahead of it are marked.
func TestFullWide(t *testing.T) {
	r := tree.New(on(someHash(99), 0, 5))
	var heads []api.Head
	for n := range uint32(api.MaxNodes - 1) {
		heads = append(heads, on(r.Start(), n, n%50))
	}
	ids, works := idsOf(heads), map[api.Hash]uint32{}
	for i, h := range heads {
		if err := r.Add(h); err != nil {
			t.Fatal(err)
		}
		works[ids[i]] = h.Work
	}
	works[r.Start()] = 0
	ids = append(ids, r.Start())
	slices.SortFunc(ids, func(a, b api.Hash) int {
		if works[a] != works[b] {
			return int(works[b]) - int(works[a])
		}
		return bytes.Compare(a[:], b[:])
	})
	x := best.New(r)
	for i, id := range ids {
		if got := x.Best(); got != id {
			t.Fatalf("number %d: %x, not %x", i, got, id)
		}
		if id == r.Start() {
			break
		}
		if !x.Bad(id) {
			t.Fatalf("number %d can't be marked", i)
		}
	}
	expectFull(t, r)
}
