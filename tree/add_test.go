package tree_test

import (
	"bytes"
	"math"
	"slices"
	"testing"

	"sargasso/api"
	"sargasso/head"
	"sargasso/tree"
)

// P11.1: New is the start alone, of height 0, its work its own, whatever header it is.
func TestNew(t *testing.T) {
	ones := api.Hash(bytes.Repeat([]byte{0xff}, 32))
	for what, start := range map[string]api.Head{
		"some header":         someStart(),
		"the zero value":      {},
		"a Work alone":        {Work: 1 << 24},
		"no Work":             {Version: 1, Prev: someHash(1), Root: someHash(2), Time: 3, Nonce: 4},
		"the greatest fields": {Version: math.MaxUint32, Prev: ones, Root: ones, Time: math.MaxUint32, Work: math.MaxUint32, Nonce: math.MaxUint32},
	} {
		r := tree.New(start)
		id := head.ID(start)
		if r.Len() != 1 || r.Start() != id {
			t.Errorf("%s: Len is %d, Start %x", what, r.Len(), r.Start())
		}
		n, is := r.Height(id)
		w, has := r.Work(id)
		if n != 0 || !is || w != uint64(start.Work) || !has {
			t.Errorf("%s: Height is %d, %v, Work %d, %v", what, n, is, w, has)
		}
		expect(t, what, r, begun(start))
	}
}

// P11.1: Add takes each in on its parent, its height one more, its work the parent's and its own; those that were there stay as they were.
func TestAdd(t *testing.T) {
	r, m := grown(t, someStart())
	for i, h := range some() {
		add(t, r, m, h)
		if r.Len() != i+2 {
			t.Errorf("Len is %d behind number %d", r.Len(), i)
		}
		expect(t, "a step", r, m)
	}
	ids := named()
	for name, want := range map[string]struct {
		height int
		work   uint64
	}{
		"s": {0, 5}, "a": {1, 15}, "b": {2, 35}, "c": {3, 65}, "d": {4, 65 + 1<<24}, "e": {3, 36},
		"f": {4, 96}, "g": {2, 85}, "h": {3, 165}, "i": {2, 105}, "j": {1, 105}, "k": {2, 215},
	} {
		n, is := r.Height(ids[name])
		w, has := r.Work(ids[name])
		if n != want.height || !is || w != want.work || !has {
			t.Errorf("%s: Height is %d, %v, Work %d, %v", name, n, is, w, has)
		}
	}
}

// P11.1, P0.5: in whatever order they come, each behind its parent, the tree is the same.
func TestAddInAnyOrder(t *testing.T) {
	l := some()
	for _, order := range [][]int{
		{0, 1, 2, 3, 4, 5, 6, 7, 8, 9, 10},
		{9, 10, 0, 8, 6, 7, 1, 4, 5, 2, 3},
		{0, 9, 6, 1, 8, 10, 4, 2, 7, 5, 3},
		{9, 0, 8, 6, 1, 7, 4, 2, 10, 3, 5},
	} {
		r, m := grown(t, someStart())
		for _, i := range order {
			add(t, r, m, l[i])
		}
		expect(t, "another order", r, m)
	}
}

// P11.1: one that is there already is ErrKnown, and nothing is changed: the start, too, whose Prev is not there.
func TestAddKnown(t *testing.T) {
	r, m := grown(t, someStart())
	refused(t, "the start, alone", r, m, someStart(), api.ErrKnown)
	for i, h := range some() {
		add(t, r, m, h)
		for _, known := range some()[:i+1] {
			if err := r.Add(known); err != api.ErrKnown {
				t.Errorf("one that is there: %v", err)
			}
		}
		refused(t, "the last one", r, m, h, api.ErrKnown)
		refused(t, "the start", r, m, someStart(), api.ErrKnown)
	}
}

// P11.1: one whose Prev is not there is ErrParent, and nothing is changed: neither it nor one on it is there then.
func TestAddParent(t *testing.T) {
	r, m := grown(t, someStart(), some()...)
	for _, prev := range m.absent() {
		h := on(prev, 50, 1)
		if err := r.Add(h); err != api.ErrParent {
			t.Errorf("on %x: %v", prev, err)
		}
		if err := r.Add(on(head.ID(h), 51, 1)); err != api.ErrParent {
			t.Errorf("on one that was refused: %v", err)
		}
		expectNone(t, "refused", r, head.ID(h))
	}
	expect(t, "all were refused", r, m)
	refused(t, "the zero value", r, m, api.Head{}, api.ErrParent)
}

// P11.1: one that came ahead of its parent comes in behind it.
func TestAddAheadOfItsParent(t *testing.T) {
	r, m := grown(t, someStart())
	l := row(m.start, 1, 4, 7)
	for i, h := range l {
		for _, early := range l[i+1:] {
			refused(t, "ahead of its parent", r, m, early, api.ErrParent)
		}
		add(t, r, m, h)
		expect(t, "behind its parent", r, m)
	}
}

// P11.1: headers of which only one field is another one are unlike ones.
func TestAddUnlike(t *testing.T) {
	s := head.ID(someStart())
	first := on(s, 1, 10)
	l := slices.Repeat([]api.Head{first}, 7)
	l[1].Version++
	l[2].Prev = head.ID(first)
	l[3].Root[31]++
	l[4].Time++
	l[5].Work++
	l[6].Nonce++
	r, m := grown(t, someStart(), l...)
	expect(t, "unlike ones", r, m)
	for _, h := range l {
		refused(t, "a second time", r, m, h, api.ErrKnown)
	}
}

// P11.1: Add asks nothing of the other fields: not for a Work that head.Check takes, nor for a Time.
func TestAddOfAnyFields(t *testing.T) {
	r, m := grown(t, api.Head{Time: math.MaxUint32})
	prev := m.start
	for _, h := range []api.Head{
		{},
		{Work: 1<<24 + 1},
		{Work: math.MaxUint32},
		{Work: math.MaxUint32, Time: math.MaxUint32},
		{Work: math.MaxUint32, Nonce: math.MaxUint32},
		{Version: math.MaxUint32},
		{Root: someHash(1)},
	} {
		h.Prev = prev
		add(t, r, m, h)
		prev = head.ID(h)
	}
	expect(t, "any fields", r, m)
	if w, _ := r.Work(prev); w != 1<<24+1+3*math.MaxUint32 {
		t.Errorf("Work is %d", w)
	}
}

// P11.1: what one tree takes in no other one shows, also of one start.
func TestTwoTrees(t *testing.T) {
	a, am := grown(t, someStart(), some()[:3]...)
	b, bm := grown(t, someStart())
	c, cm := grown(t, some()[0])
	add(t, c, cm, some()[1])
	add(t, b, bm, some()[9:]...)
	add(t, a, am, some()[3])
	expect(t, "the first", a, am)
	expect(t, "the second", b, bm)
	expect(t, "the third", c, cm)
}

// filled asks that r is full: each error stands ahead of ErrFull that the chapter names ahead of it, and nothing is changed.
func filled(t *testing.T, r *tree.Tree, start api.Head, l []api.Head) {
	t.Helper()
	ids := idsOf(l)
	for range 2 {
		for _, x := range []struct {
			what string
			h    api.Head
			err  error
		}{
			{"on the start", on(head.ID(start), 1<<30, 1), api.ErrFull},
			{"on the first", on(ids[0], 1<<30, 1), api.ErrFull},
			{"on the last", on(ids[len(ids)-1], 1<<30, 1), api.ErrFull},
			{"the start", start, api.ErrKnown},
			{"the first", l[0], api.ErrKnown},
			{"the last", l[len(l)-1], api.ErrKnown},
			{"on none", on(someHash(98), 1<<30, 1), api.ErrParent},
			{"on one that was refused", on(head.ID(on(ids[0], 1<<30, 1)), 1, 1), api.ErrParent},
		} {
			if err := r.Add(x.h); err != x.err {
				t.Errorf("%s: %v, not %v", x.what, err, x.err)
			}
			if x.err != api.ErrKnown {
				expectNone(t, x.what, r, head.ID(x.h))
			}
		}
	}
	if r.Len() != api.MaxNodes || r.Len() != 4096 {
		t.Errorf("Len is %d", r.Len())
	}
	all := append(idsOf(l), head.ID(start))
	slices.SortFunc(all, func(a, b api.Hash) int { return bytes.Compare(a[:], b[:]) })
	if got := r.Under(head.ID(start)); !slices.Equal(got, all) {
		t.Errorf("%d are under the start", len(got))
	}
}

// P11.1: MaxNodes can be there, the start among them, in one row; one more is ErrFull. Their works are added up, above 32 bits too.
func TestFullRow(t *testing.T) {
	start := on(someHash(99), 0, math.MaxUint32)
	l := row(head.ID(start), 1, api.MaxNodes-1, math.MaxUint32)
	r := tree.New(start)
	for i, h := range l {
		if err := r.Add(h); err != nil {
			t.Fatalf("number %d: %v", i, err)
		}
	}
	filled(t, r, start, l)
	ids := slices.Concat([]api.Hash{head.ID(start)}, idsOf(l))
	last := ids[len(ids)-1]
	for i, id := range ids {
		n, _ := r.Height(id)
		w, _ := r.Work(id)
		h, _ := r.Head(id)
		if n != i || w != uint64(i+1)*math.MaxUint32 || i > 0 && h != l[i-1] {
			t.Errorf("number %d: Height %d, Work %d, Head %v", i, n, w, h)
		}
		if got, is := r.Ancestor(last, i); got != id || !is {
			t.Errorf("Ancestor of the last at %d is %x, %v", i, got, is)
		}
	}
	back, on, is := r.Path(last, ids[0])
	slices.Reverse(back)
	if !slices.Equal(back, ids[1:]) || len(on) != 0 || !is {
		t.Errorf("Path down: %d, %d, %v", len(back), len(on), is)
	}
	back, on, is = r.Path(ids[0], last)
	if len(back) != 0 || !slices.Equal(on, ids[1:]) || !is {
		t.Errorf("Path up: %d, %d, %v", len(back), len(on), is)
	}
}

// P11.1: MaxNodes can be there, all others on the start; one more is ErrFull.
func TestFullOnTheStart(t *testing.T) {
	start := someStart()
	var l []api.Head
	r := tree.New(start)
	for n := range uint32(api.MaxNodes - 1) {
		h := on(head.ID(start), n+1, n)
		l = append(l, h)
		if err := r.Add(h); err != nil {
			t.Fatalf("number %d: %v", n, err)
		}
	}
	filled(t, r, start, l)
	for i, id := range idsOf(l) {
		n, _ := r.Height(id)
		w, _ := r.Work(id)
		if n != 1 || w != 5+uint64(i) || !slices.Equal(r.Under(id), []api.Hash{id}) {
			t.Errorf("number %d: Height %d, Work %d", i, n, w)
		}
	}
}
