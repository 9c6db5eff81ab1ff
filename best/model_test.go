package best_test

import (
	"testing"

	"sargasso/api"
	"sargasso/best"
	"sargasso/head"
)

// turns are numbers that look like chance, always the same ones.
type turns struct{ next uint32 }

// below is a number below n.
func (r *turns) below(n int) int {
	r.next = r.next*1664525 + 1013904223
	return int(r.next>>8) % n
}

// pick is one of made, for the most part a late one.
func pick(r *turns, made []api.Hash) api.Hash {
	return made[len(made)-1-r.below(1+r.below(len(made)))]
}

// P13.1: many turns, held against the model: trees that grow, marks in between, Best asked for or not. Works are small, so that there are as great ones.
func TestAgainstAModel(t *testing.T) {
	marks, ties := 0, 0
	for round := range 60 {
		turn := &turns{uint32(round)}
		r, m := begun(uint32(turn.below(3)))
		made := []api.Hash{m.start}
		x := best.New(r)
		for n := range 40 {
			switch turn.below(8) {
			case 0:
				bad(t, "a turn", x, m, pick(turn, made))
				marks++
			case 1:
				bad(t, "a turn", x, m, someHash(n))
			case 2:
				expectBest(t, "a turn", x, m.best())
			case 3:
				expectMarks(t, "a turn", x, made, m.all()...)
			default:
				h := on(pick(turn, made), uint32(n), uint32(turn.below(4)))
				add(t, r, m, h)
				made = append(made, head.ID(h))
			}
		}
		expect(t, "a round", x, m)
		ties += m.ties()
		if t.Failed() {
			t.Fatalf("round %d", round)
		}
	}
	if marks < 100 || ties < 10 {
		t.Errorf("too few to tell anything: %d marks, %d ties", marks, ties)
	}
}

// ties are how many others that are not marked have as much work as the best one.
func (m *model) ties() (n int) {
	top := m.best()
	for id := range m.heads {
		if id != top && !m.is(id) && m.work(id) == m.work(top) {
			n++
		}
	}
	return n
}
