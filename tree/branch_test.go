package tree_test

import (
	"bytes"
	"math"
	"slices"
	"testing"

	"sargasso/api"
	"sargasso/digest"
	"sargasso/head"
	"sargasso/tree"
)

// letters are the ids that these letters name, in order.
func letters(ids map[string]api.Hash, s string) (l []api.Hash) {
	for i := range s {
		l = append(l, ids[s[i:i+1]])
	}
	return l
}

// P11.1: Ancestor is the one of that height on the way down, itself too; false below 0, above itself, and of one that is not there.
func TestAncestor(t *testing.T) {
	r, _ := grown(t, someStart(), some()...)
	ids := named()
	for from, way := range map[string]string{
		"s": "s", "a": "sa", "b": "sab", "c": "sabc", "d": "sabcd", "e": "sabe",
		"f": "sabef", "g": "sag", "h": "sagh", "i": "sai", "j": "sj", "k": "sjk",
	} {
		for n, want := range letters(ids, way) {
			if got, is := r.Ancestor(ids[from], n); got != want || !is {
				t.Errorf("of %s at %d: %x, %v", from, n, got, is)
			}
		}
		for _, n := range []int{math.MinInt, math.MinInt32, -1 << 32, -1, len(way), len(way) + 1, math.MaxInt32, 1 << 32, math.MaxInt} {
			if got, is := r.Ancestor(ids[from], n); got != (api.Hash{}) || is {
				t.Errorf("of %s at %d: %x, %v", from, n, got, is)
			}
		}
	}
	for _, n := range []int{math.MinInt, -1, 0, 1, math.MaxInt} {
		if got, is := r.Ancestor(someHash(98), n); got != (api.Hash{}) || is {
			t.Errorf("of none at %d: %x, %v", n, got, is)
		}
	}
}

// P11.1: Common is the highest that is an ancestor of both, one of both too; Path is the way down to it and up from it, without it.
func TestCommonAndPath(t *testing.T) {
	r, _ := grown(t, someStart(), some()...)
	ids := named()
	for _, x := range []struct {
		a, b, common, back, on string
	}{
		{"s", "s", "s", "", ""},
		{"d", "d", "d", "", ""},
		{"s", "d", "s", "", "abcd"},
		{"s", "k", "s", "", "jk"},
		{"b", "d", "b", "", "cd"},
		{"c", "d", "c", "", "d"},
		{"d", "f", "b", "dc", "ef"},
		{"d", "e", "b", "dc", "e"},
		{"c", "f", "b", "c", "ef"},
		{"d", "h", "a", "dcb", "gh"},
		{"d", "i", "a", "dcb", "i"},
		{"h", "i", "a", "hg", "i"},
		{"b", "g", "a", "b", "g"},
		{"d", "k", "s", "dcba", "jk"},
		{"a", "j", "s", "a", "j"},
		{"a", "k", "s", "a", "jk"},
	} {
		expectWay(t, r, ids, x.a, x.b, x.common, x.back, x.on)
		expectWay(t, r, ids, x.b, x.a, x.common, turned(x.on), turned(x.back))
	}
}

// turned is s from its end to its beginning.
func turned(s string) string {
	b := []byte(s)
	slices.Reverse(b)
	return string(b)
}

// expectWay asks for Common and Path from a to b, all by their letters.
func expectWay(t *testing.T, r *tree.Tree, ids map[string]api.Hash, a, b, common, back, on string) {
	t.Helper()
	if got, is := r.Common(ids[a], ids[b]); got != ids[common] || !is {
		t.Errorf("Common of %s and %s: %x, %v", a, b, got, is)
	}
	gotBack, gotOn, is := r.Path(ids[a], ids[b])
	if !slices.Equal(gotBack, letters(ids, back)) || !slices.Equal(gotOn, letters(ids, on)) || !is {
		t.Errorf("Path from %s to %s: %x, %x, %v", a, b, gotBack, gotOn, is)
	}
}

// P11.1: Common and Path are none, and false, where one of both is not there, or neither is.
func TestCommonAndPathOfNone(t *testing.T) {
	r, m := grown(t, someStart(), some()...)
	none := m.absent()
	for _, x := range none {
		for _, pair := range [][2]api.Hash{{x, x}, {x, none[0]}, {none[0], x}} {
			expectNoWay(t, r, pair[0], pair[1])
		}
		for id := range m.heads {
			expectNoWay(t, r, x, id)
			expectNoWay(t, r, id, x)
		}
	}
}

// expectNoWay asks that there is neither Common nor Path of a and b.
func expectNoWay(t *testing.T, r *tree.Tree, a, b api.Hash) {
	t.Helper()
	if got, is := r.Common(a, b); got != (api.Hash{}) || is {
		t.Errorf("Common of %x and %x: %x, %v", a, b, got, is)
	}
	if back, on, is := r.Path(a, b); len(back) != 0 || len(on) != 0 || is {
		t.Errorf("Path from %x to %x: %x, %x, %v", a, b, back, on, is)
	}
}

// P11.1: Under are all that have it as an ancestor, itself too, by Less; none where it is not there.
func TestUnder(t *testing.T) {
	r, m := grown(t, someStart(), some()...)
	ids := named()
	for from, all := range map[string]string{
		"s": "sabcdefghijk", "a": "abcdefghi", "b": "bcdef", "c": "cd", "d": "d", "e": "ef",
		"f": "f", "g": "gh", "h": "h", "i": "i", "j": "jk", "k": "k",
	} {
		want := letters(ids, all)
		slices.SortFunc(want, func(a, b api.Hash) int { return bytes.Compare(a[:], b[:]) })
		if got := r.Under(ids[from]); !slices.Equal(got, want) {
			t.Errorf("Under of %s: %x, not %x", from, got, want)
		}
	}
	for _, id := range m.absent() {
		if got := r.Under(id); len(got) != 0 {
			t.Errorf("Under of %x: %x", id, got)
		}
	}
}

// P11.1: Under goes by Less, also where two ids begin alike, and where first bytes are above 127; not by height, nor by which came first.
func TestUnderByLess(t *testing.T) {
	r, m := grown(t, someStart())
	for n := range uint32(1000) {
		add(t, r, m, on(m.start, n+1, 1))
	}
	l := r.Under(m.start)
	if len(l) != 1001 || l[0][0] > 100 || l[1000][0] < 200 {
		t.Errorf("%d of them, from %x on", len(l), l[0])
	}
	alike := 0
	for i := range len(l) - 1 {
		if !digest.Less(l[i], l[i+1]) {
			t.Errorf("%x stands ahead of %x", l[i], l[i+1])
		}
		if l[i][0] == l[i+1][0] {
			alike++
		}
	}
	if alike == 0 {
		t.Error("no two begin alike")
	}
}

// P11.1: what is asked between two Adds takes part in nothing: a branch that grows is seen as it is by then.
func TestBetweenAdds(t *testing.T) {
	r, m := grown(t, someStart())
	left, right := row(m.start, 1, 6, 3), row(m.start, 100, 6, 4)
	for i := range left {
		add(t, r, m, left[i], right[i])
		for range 2 {
			expect(t, "both grow", r, m)
		}
	}
}

// P11.1: two long branches, from a place in the middle on: their ways are told whole.
func TestLongBranches(t *testing.T) {
	start := someStart()
	stem := row(head.ID(start), 1, 1000, 1)
	last := head.ID(stem[len(stem)-1])
	left, right := row(last, 10000, 2000, 1), row(last, 20000, 1095, 2)
	r := tree.New(start)
	for i, h := range slices.Concat(stem, left, right) {
		if err := r.Add(h); err != nil {
			t.Fatalf("number %d: %v", i, err)
		}
	}
	a, b := idsOf(left), idsOf(right)
	if got, is := r.Common(a[1999], b[1094]); got != last || !is {
		t.Errorf("Common: %x, %v", got, is)
	}
	back, on, is := r.Path(a[1999], b[1094])
	slices.Reverse(back)
	if !slices.Equal(back, a) || !slices.Equal(on, b) || !is {
		t.Errorf("Path: %d, %d, %v", len(back), len(on), is)
	}
	if w, _ := r.Work(b[1094]); w != 5+1000+2*1095 {
		t.Errorf("Work: %d", w)
	}
	if got := r.Under(last); len(got) != 1+2000+1095 {
		t.Errorf("Under: %d", len(got))
	}
}

// spoil writes into all of l's memory, its spare room too.
func spoil(l []api.Hash) {
	whole := l[:cap(l)]
	for i := range whole {
		whole[i] = someHash(97)
	}
}

// P11.1, P0.4: each list of Path and Under is new memory: a write into one is seen in no other one, and not in the tree.
func TestAnswersAreNewMemory(t *testing.T) {
	r, m := grown(t, someStart(), some()...)
	for a := range m.heads {
		before, under := r.Under(a), r.Under(a)
		spoil(under)
		if want := m.under(a); !slices.Equal(before, want) || !slices.Equal(r.Under(a), want) {
			t.Errorf("Under of %x is spoilt", a)
		}
		for b := range m.heads {
			_, back, on, _ := m.path(a, b)
			firstBack, firstOn, _ := r.Path(a, b)
			secondBack, secondOn, _ := r.Path(a, b)
			spoil(firstBack)
			if !slices.Equal(firstOn, on) {
				t.Errorf("Path from %x to %x: what is put on is spoilt by what is taken back", a, b)
			}
			spoil(firstOn)
			if !slices.Equal(secondBack, back) || !slices.Equal(secondOn, on) {
				t.Errorf("Path from %x to %x is spoilt", a, b)
			}
		}
	}
	expect(t, "spoilt", r, m)
}
