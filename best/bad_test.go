package best_test

import (
	"slices"
	"testing"

	"sargasso/api"
	"sargasso/best"
	"sargasso/head"
	"sargasso/tree"
)

const everyLetter = "sabcdefghijkl"

// P13.1: of the start alone nothing can be marked.
func TestStartCantBeMarked(t *testing.T) {
	r, m := begun(5)
	x := best.New(r)
	for range 2 {
		expect(t, "the start", x, m)
		bad(t, "the start", x, m, append(m.absent(), m.start)...)
	}
	expectMarks(t, "the start", x, []api.Hash{m.start})
}

// P13.1: Bad of the start is nothing where there are others, marked or not.
func TestBadOfTheStartIsNothing(t *testing.T) {
	r, m, ids := someTree(t)
	x := best.New(r)
	bad(t, "none marked", x, m, m.start)
	expectMarks(t, "none marked", x, named(ids, everyLetter))
	bad(t, "b marked", x, m, ids["b"], m.start)
	expectMarks(t, "b marked", x, named(ids, everyLetter), named(ids, "bcdef")...)
	expect(t, "b marked", x, m)
}

// P13.1: Bad marks one and all Under it, and nothing else.
func TestBadOfEach(t *testing.T) {
	for letter, marked := range map[string]string{
		"a": "abcdefghi", "b": "bcdef", "c": "cd", "d": "d", "e": "ef", "f": "f",
		"g": "gh", "h": "h", "i": "i", "j": "jk", "k": "k", "l": "l",
	} {
		r, m, ids := someTree(t)
		x := best.New(r)
		for range 2 {
			bad(t, letter, x, m, ids[letter])
			expectMarks(t, letter, x, named(ids, everyLetter), named(ids, marked)...)
			expect(t, letter, x, m)
		}
	}
}

// P13.1: each two, in each order: the one above the other, beside it, or it once more.
func TestBadOfTwo(t *testing.T) {
	for _, first := range "abcdefghijkl" {
		for _, second := range "abcdefghijkl" {
			r, m, ids := someTree(t)
			x := best.New(r)
			what := string(first) + ", " + string(second)
			bad(t, what, x, m, ids[string(first)], ids[string(second)])
			expect(t, what, x, m)
			bad(t, what, x, m, ids[string(first)])
			expect(t, what, x, m)
		}
	}
}

// P13.1: one that comes to be marked below others that are marked marks them no second time; All shows each once.
func TestBadBelowMarkedOnes(t *testing.T) {
	r, m, ids := someTree(t)
	x := best.New(r)
	for _, step := range []struct{ letter, marked string }{
		{"d", "d"}, {"f", "df"}, {"c", "cdf"}, {"h", "cdfh"}, {"b", "bcdefh"}, {"e", "bcdefh"},
		{"a", "abcdefghi"}, {"i", "abcdefghi"}, {"k", "abcdefghik"}, {"j", "abcdefghijk"}, {"l", "abcdefghijkl"},
	} {
		bad(t, step.letter, x, m, ids[step.letter])
		expectMarks(t, step.letter, x, named(ids, everyLetter), named(ids, step.marked)...)
		expect(t, step.letter, x, m)
	}
	expectBest(t, "all are marked", x, ids["s"])
}

// P13.1: what is not there is not marked, and not later either, when it comes.
func TestBadOfWhatComesLater(t *testing.T) {
	r, m := begun(5)
	x := best.New(r)
	heads := some(m.start)
	bad(t, "ahead", x, m, idsOf(heads)...)
	for i, h := range heads {
		add(t, r, m, h)
		bad(t, "ahead", x, m, idsOf(heads[i+1:])...)
		expect(t, "one more", x, m)
	}
	expectMarks(t, "all came", x, idsOf(heads))
}

// P13.1: all that come later on a marked one are marked, through as many as may be; those that come beside are not.
func TestLaterOnesAreMarked(t *testing.T) {
	for _, ask := range []bool{false, true} {
		r, m := begun(5)
		x := best.New(r)
		heads := some(m.start)
		ids := map[string]api.Hash{}
		for n, h := range heads {
			ids["abcdefghijkl"[n:n+1]] = head.ID(h)
		}
		add(t, r, m, heads[:2]...)
		bad(t, "b", x, m, ids["b"])
		for _, h := range heads[2:] {
			add(t, r, m, h)
			if ask {
				expect(t, "one more", x, m)
			}
		}
		expectMarks(t, "later", x, named(ids, "abcdefghijkl"), named(ids, "bcdef")...)
		expect(t, "later", x, m)
		bad(t, "later", x, m, ids["f"], ids["a"])
		more := row(ids["f"], 50, 9, 1000)
		add(t, r, m, more...)
		expectMarks(t, "later still", x, named(ids, "jkl"), append(named(ids, "abcdefghi"), idsOf(more)...)...)
		expect(t, "later still", x, m)
	}
}

// P13.1: a mark from before stays where one above it, and then one below it, is marked, too; what comes later on each is marked.
func TestLaterOnesOfManyMarks(t *testing.T) {
	r, m := begun(5)
	x := best.New(r)
	stem := row(m.start, 1, 9, 10)
	add(t, r, m, stem...)
	ids := idsOf(stem)
	for n, i := range []int{6, 8, 7, 3, 5, 3, 8, 1} {
		bad(t, "the stem", x, m, ids[i])
		for side := range ids {
			add(t, r, m, on(ids[side], uint32(100+20*n+side), 500))
		}
		expect(t, "the stem", x, m)
	}
}

// P13.1: Marks are over what was there ahead of them, too, and each is of its own; New changes nothing.
func TestMarksOfTheirOwn(t *testing.T) {
	r, m, ids := someTree(t)
	x, y := best.New(r), best.New(r)
	other := &model{start: m.start, heads: m.heads, ways: m.ways}
	bad(t, "x", x, m, ids["a"])
	bad(t, "y", y, other, ids["j"], ids["c"])
	expect(t, "x", x, m)
	expect(t, "y", y, other)
	add(t, r, m, on(ids["d"], 60, 1000), on(ids["k"], 61, 900))
	expect(t, "x", x, m)
	expect(t, "y", y, other)
	expect(t, "a new one", best.New(r), &model{start: m.start, heads: m.heads, ways: m.ways})
}

// P13.1: the calls leave the tree as it is.
func TestTheTreeStays(t *testing.T) {
	r, m, ids := someTree(t)
	untouched, _, _ := someTree(t)
	x := best.New(r)
	bad(t, "the tree", x, m, ids["b"], ids["j"], m.start, someHash(5))
	expect(t, "the tree", x, m)
	if r.Len() != untouched.Len() || !slices.Equal(r.Under(m.start), untouched.Under(m.start)) {
		t.Error("the tree is another one")
	}
	for _, id := range ids {
		h, is := r.Head(id)
		if h != m.heads[id] || !is {
			t.Errorf("Head of %x is %v, %v", id, h, is)
		}
	}
}

// P0.4: what All hands out is new memory, its spare room, too.
func TestAllIsNewMemory(t *testing.T) {
	r, m, ids := someTree(t)
	x := best.New(r)
	bad(t, "memory", x, m, ids["b"], ids["j"])
	one, two := x.All(), x.All()
	was := slices.Clone(two)
	spare := one[:cap(one)]
	for i := range spare {
		spare[i] = ids["l"]
	}
	_ = append(one, ids["i"], ids["g"])
	if !slices.Equal(two, was) {
		t.Error("another answer shows what was written")
	}
	_ = append(two, ids["g"])
	expect(t, "memory", x, m)
}

// P13.1: one tree's blocks marked in one order and in another are as well marked.
func TestOrderOfMarks(t *testing.T) {
	letters := []string{"d", "b", "h", "j"}
	r, _, ids := someTree(t)
	want := best.New(r)
	for _, letter := range letters {
		want.Bad(ids[letter])
	}
	for range 24 {
		x := best.New(r)
		for _, letter := range letters {
			x.Bad(ids[letter])
		}
		if !slices.Equal(x.All(), want.All()) || x.Best() != want.Best() {
			t.Errorf("%v: %x", letters, x.All())
		}
		letters = nextOrder(letters)
	}
}

// nextOrder is the order behind l of those that there are, the first one behind the last.
func nextOrder(l []string) []string {
	l = slices.Clone(l)
	i := len(l) - 2
	for i >= 0 && l[i] >= l[i+1] {
		i--
	}
	if i >= 0 {
		j := len(l) - 1
		for l[j] <= l[i] {
			j--
		}
		l[i], l[j] = l[j], l[i]
	}
	slices.Reverse(l[i+1:])
	return l
}

// P13.1: a full tree, in one row: marked from its lowest on, and from the middle.
func TestFullRow(t *testing.T) {
	r, m := begun(5)
	heads := row(m.start, 1, api.MaxNodes-1, 3)
	for _, h := range heads {
		if err := r.Add(h); err != nil {
			t.Fatal(err)
		}
	}
	ids := idsOf(heads)
	x := best.New(r)
	expectBest(t, "none marked", x, ids[len(ids)-1])
	for _, at := range []int{len(ids) - 1, len(ids) / 2, 0} {
		if !x.Bad(ids[at]) {
			t.Errorf("Bad of number %d", at)
		}
		want := m.start
		if at > 0 {
			want = ids[at-1]
		}
		expectBest(t, "marked", x, want)
		expectMarks(t, "marked", x, ids, ids[at:]...)
	}
	expectFull(t, r)
}

// expectFull asks that r takes no more.
func expectFull(t *testing.T, r *tree.Tree) {
	t.Helper()
	if err := r.Add(on(r.Start(), 9999, 1)); err != api.ErrFull || r.Len() != api.MaxNodes {
		t.Errorf("Add: %v, %d are there", err, r.Len())
	}
}
