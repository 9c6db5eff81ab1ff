package seq_test

import (
	"math"
	"testing"

	"sargasso/api"
)

// P14.1: Time 0 is Final, whatever else there is.
func TestFinalOfNoTime(t *testing.T) {
	for _, height := range []int{-1, 0, 1, api.MaxHeight} {
		for _, past := range []uint32{0, 1, api.Split, math.MaxUint32} {
			expectFinal(t, "no Ins", true, of(1, 0), height, past)
			expectFinal(t, "not Final", true, of(1, 0, 5, 0), height, past)
			expectFinal(t, "Final", true, of(2, 0, api.Final), height, past)
		}
	}
	expectFinal(t, "the zero value", true, api.Tx{}, -1, 0)
}

// P14.1: below Split a Time is a height: it has to be below the one asked for; no past helps.
func TestFinalByHeight(t *testing.T) {
	for _, time := range []uint32{1, 2, 100, api.MaxHeight - 1, api.MaxHeight, api.MaxHeight + 1, 1 << 28, api.Split - 1} {
		x := of(1, time, 5)
		for _, height := range []int{-1, 0, 1, 2, 3, 99, 100, 101, api.MaxHeight - 1, api.MaxHeight} {
			for _, past := range []uint32{0, time, time + 1, api.Split, math.MaxUint32} {
				expectFinal(t, "a height", int(time) < height, x, height, past)
			}
		}
	}
	expectFinal(t, "as high", false, of(1, api.MaxHeight, 5), api.MaxHeight, math.MaxUint32)
	expectFinal(t, "one higher", true, of(1, api.MaxHeight-1, 5), api.MaxHeight, 0)
	expectFinal(t, "below 0", false, of(1, 1, 5), -1, math.MaxUint32)
}

// P14.1: from Split on a Time is one: it has to be below the past; no height helps.
func TestFinalByPast(t *testing.T) {
	for _, time := range []uint32{api.Split, api.Split + 1, 1<<31 - 1, 1 << 31, 1<<31 + 1, math.MaxUint32 - 1, math.MaxUint32} {
		x := of(1, time, 5)
		for _, past := range []uint32{0, 1, api.Split - 1, api.Split, api.Split + 1, 1<<31 - 1, 1 << 31, math.MaxUint32 - 1, math.MaxUint32} {
			for _, height := range []int{-1, 0, 1, api.MaxHeight} {
				expectFinal(t, "a time", time < past, x, height, past)
			}
		}
	}
	if api.Split != 500000000 {
		t.Errorf("Split is %d", api.Split)
	}
}

// P14.1: where all Ins' Seq are Final, so is it, whatever its Time; of no Ins all are.
func TestFinalByItsIns(t *testing.T) {
	for _, time := range []uint32{1, 100, api.Split - 1, api.Split, math.MaxUint32} {
		expectFinal(t, "no Ins", true, of(1, time), -1, 0)
		expectFinal(t, "one", true, of(1, time, api.Final), -1, 0)
		expectFinal(t, "three", true, of(1, time, api.Final, api.Final, api.Final), -1, 0)
		for _, other := range []uint32{0, 5, api.Locked, api.Final - 1, api.Final &^ api.Locked, api.Final &^ api.ByTime, 1 << 16} {
			expectFinal(t, "another one", false, of(1, time, other), -1, 0)
			expectFinal(t, "the first one", false, of(1, time, other, api.Final, api.Final), -1, 0)
			expectFinal(t, "the middle one", false, of(1, time, api.Final, other, api.Final), -1, 0)
			expectFinal(t, "the last one", false, of(1, time, api.Final, api.Final, other), -1, 0)
			expectFinal(t, "none of them", false, of(1, time, other, other), -1, 0)
		}
	}
}

// P14.1: Ins that are not all Final take nothing from a Time that has come.
func TestFinalByTimeAlone(t *testing.T) {
	expectFinal(t, "a height", true, of(1, 99, api.Final, 5), 100, 0)
	expectFinal(t, "a time", true, of(1, api.Split, 5, api.Final), 0, api.Split+1)
}

// P14.1: the Version is not asked, nor is a Seq's lock.
func TestFinalAsksNoVersion(t *testing.T) {
	for _, version := range []uint32{0, 1, 2, 3, math.MaxUint32} {
		expectFinal(t, "too early", false, of(version, 100, api.Locked), 100, math.MaxUint32)
		expectFinal(t, "come", true, of(version, 100, 50), 101, 0)
		expectFinal(t, "Final", true, of(version, 100, api.Final), 0, 0)
	}
}

// P14.1: many, held against the model; again the same.
func TestFinalAgainstTheModel(t *testing.T) {
	r := &turns{3}
	seen := map[bool]int{}
	for range 20000 {
		x, height, past := r.sample(), r.height(), r.time()
		if r.below(4) == 0 {
			x.tx.Time = uint32(max(0, height+r.below(3)-1))
		} else if r.below(3) == 0 {
			x.tx.Time = past + uint32(r.below(3)) - 1
		}
		for i := range x.tx.Ins {
			if r.below(2) == 0 {
				x.tx.Ins[i].Seq = api.Final
			}
		}
		want := modelFinal(x.tx, height, past)
		seen[want]++
		for range 2 {
			expectFinal(t, "of many", want, x.tx, height, past)
		}
	}
	if seen[true] < 1000 || seen[false] < 1000 {
		t.Errorf("too few of one kind: %v", seen)
	}
}
