package seq_test

import (
	"math"
	"slices"
	"testing"

	"sargasso/api"
	"sargasso/seq"
)

// someHash is a digest of unlike bytes, another one for each n.
func someHash(n int) (h api.Hash) {
	for i := range h {
		h[i] = byte(11*i + 17*n + 3)
	}
	return h
}

// of is a transaction whose Ins have these Seqs; its other fields are unlike.
func of(version, time uint32, seqs ...uint32) api.Tx {
	t := api.Tx{Version: version, Time: time, Outs: []api.Out{{Value: 700, Lock: someHash(50)}}}
	for i, n := range seqs {
		t.Ins = append(t.Ins, api.In{From: api.Point{Tx: someHash(i), N: uint32(i)}, Key: []byte{byte(i), 9}, Seq: n})
	}
	return t
}

// turns are numbers that look like chance, always the same ones.
type turns struct{ next uint32 }

// below is a number below n.
func (r *turns) below(n int) int {
	r.next = r.next*1664525 + 1013904223
	return int(r.next>>8) % n
}

// word is a number of all 32 bits.
func (r *turns) word() uint32 {
	return uint32(r.below(1<<16))<<16 | uint32(r.below(1<<16))
}

// pick is one of l.
func pick[T any](r *turns, l ...T) T {
	return l[r.below(len(l))]
}

// height is one from -1 to MaxHeight, for the most part a small one.
func (r *turns) height() int {
	return pick(r, -1, 0, 1, r.below(40), r.below(40), r.below(1<<17), r.below(api.MaxHeight+1), api.MaxHeight)
}

// time is one of a header, for the most part near another one's.
func (r *turns) time() uint32 {
	return pick(r, 0, uint32(r.below(20)), uint32(r.below(20)), uint32(r.below(1<<26)), api.Split+uint32(r.below(20)), r.word(), math.MaxUint32)
}

// seq is one of any bits, for the most part a lock that is near another one's.
func (r *turns) seq() uint32 {
	low := pick(r, 0, uint32(r.below(20)), uint32(r.below(1<<16)), api.Mask)
	return pick(r, low, low, low, low|api.ByTime, low|api.ByTime, low|api.Locked, api.Final, r.word(), r.word()&^api.Locked)
}

// sample is what the calls are asked with.
type sample struct {
	tx      api.Tx
	heights []int
	pasts   []uint32
}

// sample is one of up to five Ins, as a rule with as many heights and pasts.
func (r *turns) sample() (x sample) {
	x.tx = of(pick(r, 0, 1, 2, 2, 2, 3, r.word()), r.time())
	for range r.below(6) {
		x.tx.Ins = append(x.tx.Ins, api.In{Seq: r.seq()})
		x.heights = append(x.heights, r.height())
		x.pasts = append(x.pasts, r.time())
	}
	if r.below(10) == 0 {
		x.heights = append(x.heights, 5)
	}
	if r.below(10) == 0 {
		x.pasts = append(x.pasts, 5)
	}
	return x
}

// need is what Need should answer.
type need struct {
	height int
	past   int64
	is     bool
}

// none is what Need should answer where nothing is asked for.
var none = need{-1, -1, true}

// bit tells whether bit number n, from 0 on, of word is there.
func bit(word uint32, n uint) bool {
	return word>>n%2 == 1
}

// modelNeed is what Need should answer, by the numbers of the bits: one pass for each of the two.
func modelNeed(x sample) need {
	if len(x.heights) != len(x.tx.Ins) || len(x.pasts) != len(x.tx.Ins) {
		return need{}
	}
	want := none
	if x.tx.Version == 0 || x.tx.Version == 1 {
		return want
	}
	first := true
	for i, in := range x.tx.Ins {
		if n := x.heights[i] + int(in.Seq%65536) - 1; !bit(in.Seq, 31) && !bit(in.Seq, 22) && (first || n > want.height) {
			want.height, first = n, false
		}
	}
	first = true
	for i, in := range x.tx.Ins {
		if n := int64(x.pasts[i]) + 512*int64(in.Seq%65536) - 1; !bit(in.Seq, 31) && bit(in.Seq, 22) && (first || n > want.past) {
			want.past, first = n, false
		}
	}
	return want
}

// modelFinal is what Final should answer.
func modelFinal(t api.Tx, height int, past uint32) bool {
	others := slices.ContainsFunc(t.Ins, func(in api.In) bool { return in.Seq != math.MaxUint32 })
	byHeight := t.Time < 500000000 && int(t.Time) < height
	byPast := t.Time >= 500000000 && t.Time < past
	return t.Time == 0 || byHeight || byPast || !others
}

// seqs are those of t's Ins.
func seqs(t api.Tx) (l []uint32) {
	for _, in := range t.Ins {
		l = append(l, in.Seq)
	}
	return l
}

// expectFinal asks for Final.
func expectFinal(t *testing.T, what string, want bool, x api.Tx, height int, past uint32) {
	t.Helper()
	if got := seq.Final(x, height, past); got != want {
		t.Errorf("%s: Final of Time %d, Seqs %v, at height %d, past %d: %v", what, x.Time, seqs(x), height, past, got)
	}
}

// expectNeed asks for Need.
func expectNeed(t *testing.T, what string, want need, x sample) {
	t.Helper()
	if height, past, is := seq.Need(x.tx, x.heights, x.pasts); (need{height, past, is}) != want {
		t.Errorf("%s: Need of Version %d, Seqs %v, of heights %v, pasts %v: %d, %d, %v, not %v", what, x.tx.Version, seqs(x.tx), x.heights, x.pasts, height, past, is, want)
	}
}

// expectMet asks for Met.
func expectMet(t *testing.T, what string, want bool, x sample, height int, past uint32) {
	t.Helper()
	if got := seq.Met(x.tx, x.heights, x.pasts, height, past); got != want {
		t.Errorf("%s: Met of Version %d, Seqs %v, of heights %v, pasts %v, at height %d, past %d: %v", what, x.tx.Version, seqs(x.tx), x.heights, x.pasts, height, past, got)
	}
}
