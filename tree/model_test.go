package tree_test

import (
	"testing"

	"sargasso/api"
	"sargasso/head"
)

// turns are numbers that look like chance, always the same ones.
type turns struct{ next uint32 }

// below is a number below n.
func (r *turns) below(n int) int {
	r.next = r.next*1664525 + 1013904223
	return int(r.next>>8) % n
}

// pick is a header for a turn: one that was made already, or one on one that was made, for the most part a late one; not all of those were taken in.
func pick(r *turns, made []api.Head) api.Head {
	late := made[len(made)-1-r.below(1+r.below(len(made)))]
	if r.below(5) == 0 {
		return late
	}
	h := on(head.ID(late), uint32(r.below(3)), uint32(r.below(100)))
	if r.below(6) == 0 {
		h.Prev = someHash(r.below(50))
	}
	return h
}

// P11.1: many turns, held against the model.
func TestAgainstAModel(t *testing.T) {
	counts := map[error]int{}
	for round := range 60 {
		turn := &turns{uint32(round)}
		r, m := grown(t, someStart())
		made := []api.Head{someStart()}
		for range 40 {
			h := pick(turn, made)
			made = append(made, h)
			got, want := r.Add(h), m.add(h)
			if got != want {
				t.Errorf("Add: %v, not %v", got, want)
			}
			counts[want]++
		}
		expect(t, "a round", r, m)
		for _, h := range made {
			if _, is := m.heads[head.ID(h)]; !is {
				expectNone(t, "refused", r, head.ID(h))
			}
		}
		if t.Failed() {
			t.Fatalf("round %d", round)
		}
	}
	if min(counts[nil], counts[api.ErrKnown], counts[api.ErrParent]) < 100 {
		t.Errorf("too few to tell anything: %v", counts)
	}
}
