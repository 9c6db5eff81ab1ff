package seq_test

import (
	"math"
	"slices"
	"testing"

	"sargasso/api"
	"sargasso/seq"
)

// P14.2: false, and nothing beside, where heights or pasts are not as many as Ins, of each Version.
func TestNeedOfWrongCounts(t *testing.T) {
	heights, pasts := []int{100, 200, 300, 400}, []uint32{7, 8, 9, 10}
	for _, version := range []uint32{0, 1, 2, 3, math.MaxUint32} {
		for ins := range 4 {
			x := of(version, 0, slices.Repeat([]uint32{5}, ins)...)
			for n := range 5 {
				for m := range 5 {
					height, past, is := seq.Need(x, heights[:n], pasts[:m])
					if is != (n == ins && m == ins) {
						t.Errorf("Version %d, %d Ins, %d heights, %d pasts: %v", version, ins, n, m, is)
					}
					if !is && (height != 0 || past != 0) {
						t.Errorf("Version %d, %d Ins, %d heights, %d pasts: %d, %d", version, ins, n, m, height, past)
					}
				}
			}
		}
	}
}

// P14.2: below Version 2 nothing is asked for, whatever the Seqs; from it on, of all 32 bits, it is.
func TestNeedByVersion(t *testing.T) {
	x := sample{of(0, 0, 5, api.ByTime|3), []int{100, 100}, []uint32{7, 7}}
	for _, version := range []uint32{0, 1} {
		x.tx.Version = version
		expectNeed(t, "below", none, x)
	}
	for _, version := range []uint32{2, 3, 1 << 16, 1<<31 - 1, 1 << 31, 1<<31 + 1, math.MaxUint32} {
		x.tx.Version = version
		expectNeed(t, "from 2 on", need{104, 7 + 3*512 - 1, true}, x)
	}
}

// P14.2: where there is no lock it is -1 of both: of no Ins, too.
func TestNeedOfNone(t *testing.T) {
	expectNeed(t, "no Ins", none, sample{of(2, 0), nil, nil})
	expectNeed(t, "no Ins", none, sample{of(2, 0), []int{}, []uint32{}})
	expectNeed(t, "the zero value", none, sample{})
	for _, n := range []uint32{api.Locked, api.Locked | 5, api.Locked | api.ByTime | 5, api.Final, api.Final - 1} {
		expectNeed(t, "no lock", none, sample{of(2, 0, n), []int{100}, []uint32{7}})
		expectNeed(t, "two of them", none, sample{of(3, 0, n, n), []int{100, 200}, []uint32{7, 8}})
	}
}

// P14.2: one lock by height: its coin's, and the lowest 16 bits of the Seq, less 1; no past counts.
func TestNeedByHeight(t *testing.T) {
	for _, height := range []int{0, 1, 100, 1<<16 + 5, api.MaxHeight - 1, api.MaxHeight} {
		for _, low := range []uint32{0, 1, 2, 5, 0x00ff, 0x0100, 0x8000, 0xffff} {
			want := need{height + int(low) - 1, -1, true}
			for _, above := range []uint32{0, 1 << 16, 1 << 21, 1 << 23, 1 << 30, 0x7fff0000 &^ api.ByTime} {
				expectNeed(t, "by height", want, sample{of(2, 0, above|low), []int{height}, []uint32{math.MaxUint32}})
			}
		}
	}
}

// P14.2: one lock by time: its past, and so many Grains, less 1, above 32 bits, too; no height counts.
func TestNeedByTime(t *testing.T) {
	for _, past := range []uint32{0, 1, 7, api.Split, 1<<31 - 1, 1 << 31, math.MaxUint32 - 1, math.MaxUint32} {
		for _, low := range []uint32{0, 1, 2, 5, 0x00ff, 0x0100, 0x8000, 0xffff} {
			want := need{-1, int64(past) + 512*int64(low) - 1, true}
			for _, above := range []uint32{0, 1 << 16, 1 << 21, 1 << 23, 1 << 30, 0x7fff0000} {
				expectNeed(t, "by time", want, sample{of(2, 0, above|api.ByTime|low), []int{api.MaxHeight}, []uint32{past}})
			}
		}
	}
	expectNeed(t, "the greatest", need{-1, 4328521214, true}, sample{of(2, 0, api.ByTime|0xffff), []int{0}, []uint32{math.MaxUint32}})
}

// P14.2: each bit of a Seq alone: 31 is no lock, 22 makes it one by time, those below 16 count, the others don't.
func TestNeedByEachBit(t *testing.T) {
	for n := range 32 {
		height, past := need{99, -1, true}, need{-1, 6, true}
		switch {
		case n < 16:
			height.height, past.past = 99+(1<<n), 6+(512<<n)
		case n == 22:
			height = past
		case n == 31:
			height, past = none, none
		}
		expectNeed(t, "alone", height, sample{of(2, 0, 1<<n), []int{100}, []uint32{7}})
		expectNeed(t, "with ByTime", past, sample{of(2, 0, 1<<n|1<<22), []int{100}, []uint32{7}})
	}
}

// P14.2: of several the greatest counts, wherever it stands: the sum is held against the others, neither of its parts.
func TestNeedOfSeveral(t *testing.T) {
	for _, x := range []struct {
		seqs    []uint32
		heights []int
		want    int
	}{
		{[]uint32{5, 9}, []int{100, 90}, 104},
		{[]uint32{9, 5}, []int{90, 100}, 104},
		{[]uint32{1, 60}, []int{100, 50}, 109},
		{[]uint32{60, 1}, []int{50, 100}, 109},
		{[]uint32{5, 5, 5}, []int{100, 102, 101}, 106},
		{[]uint32{5, 7, 6}, []int{100, 100, 100}, 106},
		{[]uint32{0, 0}, []int{0, 0}, -1},
		{[]uint32{0, 1}, []int{0, 0}, 0},
		{[]uint32{3, 3}, []int{7, 7}, 9},
	} {
		pasts := slices.Repeat([]uint32{1 << 30}, len(x.seqs))
		expectNeed(t, "heights", need{x.want, -1, true}, sample{of(2, 0, x.seqs...), x.heights, pasts})
	}
	for _, x := range []struct {
		seqs, pasts []uint32
		want        int64
	}{
		{[]uint32{1, 2}, []uint32{1000, 400}, 1511},
		{[]uint32{2, 1}, []uint32{400, 1000}, 1511},
		{[]uint32{1, 2}, []uint32{1000, 489}, 1512},
		{[]uint32{2, 1}, []uint32{489, 1000}, 1512},
		{[]uint32{1, 1, 1}, []uint32{5, 7, 6}, 518},
		{[]uint32{0, 0xffff}, []uint32{math.MaxUint32, 0}, math.MaxUint32 - 1},
		{[]uint32{0, 0xffff}, []uint32{1 << 24, 0}, 0xffff*512 - 1},
		{[]uint32{0xffff, 0}, []uint32{1 << 31, math.MaxUint32}, math.MaxUint32 - 1},
		{[]uint32{0, 0}, []uint32{0, 0}, -1},
	} {
		seqs, heights := slices.Clone(x.seqs), slices.Repeat([]int{api.MaxHeight}, len(x.seqs))
		for i := range seqs {
			seqs[i] |= api.ByTime
		}
		expectNeed(t, "pasts", need{-1, x.want, true}, sample{of(2, 0, seqs...), heights, x.pasts})
	}
}

// P14.2: locks of both kinds, and Ins of none between them: each goes with its own height or past.
func TestNeedOfBothKinds(t *testing.T) {
	seqs := []uint32{5, api.ByTime | 2, api.Locked | 0xffff, 9, api.ByTime | 1, api.Final}
	heights := []int{100, 5000, 6000, 97, 7000, 8000}
	pasts := []uint32{90000, 300, 80000, 70000, 900, 60000}
	want := need{105, 1411, true}
	expectNeed(t, "as they are", want, sample{of(2, 0, seqs...), heights, pasts})
	for range seqs {
		for i := range len(seqs) - 1 {
			seqs[i], seqs[i+1] = seqs[i+1], seqs[i]
			heights[i], heights[i+1] = heights[i+1], heights[i]
			pasts[i], pasts[i+1] = pasts[i+1], pasts[i]
			expectNeed(t, "in another order", want, sample{of(2, 0, seqs...), heights, pasts})
		}
	}
}

// P14.2: -1 stands for none alone: a coin of height -1 may have less.
func TestNeedBelowNone(t *testing.T) {
	expectNeed(t, "none asked for", need{-2, -1, true}, sample{of(2, 0, 0), []int{-1}, []uint32{0}})
	expectNeed(t, "two of it", need{-2, -1, true}, sample{of(2, 0, 0, 0), []int{-1, -1}, []uint32{0, 0}})
	expectNeed(t, "one asked for", none, sample{of(2, 0, 1), []int{-1}, []uint32{0}})
	expectNeed(t, "one of 0 beside", none, sample{of(2, 0, 0, 0), []int{-1, 0}, []uint32{0, 0}})
	expectNeed(t, "a time beside", need{-2, 511, true}, sample{of(2, 0, api.ByTime|1, 0), []int{-1, -1}, []uint32{0, 0}})
	expectNeed(t, "all that may be", need{65533, -1, true}, sample{of(2, 0, 0xffff), []int{-1}, []uint32{0}})
}

// P14.2: neither the Time nor anything else of the transaction but Version and Seqs is asked.
func TestNeedAsksNothingElse(t *testing.T) {
	x := of(2, 0, 5, api.ByTime|3)
	for _, time := range []uint32{0, 1, api.Split, math.MaxUint32} {
		x.Time = time
		expectNeed(t, "a Time", need{104, 1542, true}, sample{x, []int{100, 100}, []uint32{7, 7}})
	}
	bare := api.Tx{Version: 2, Ins: []api.In{{Seq: 5}, {Seq: api.ByTime | 3}}}
	expectNeed(t, "bare", need{104, 1542, true}, sample{bare, []int{100, 100}, []uint32{7, 7}})
}

// P14.2: many, held against the model; again the same.
func TestNeedAgainstTheModel(t *testing.T) {
	r := &turns{4}
	seen := map[bool]int{}
	for range 20000 {
		x := r.sample()
		want := modelNeed(x)
		seen[want.is]++
		for range 2 {
			expectNeed(t, "of many", want, x)
		}
	}
	if seen[true] < 1000 || seen[false] < 1000 {
		t.Errorf("too few of one kind: %v", seen)
	}
}

// P14.2: as many Ins as there may be, and more.
func TestNeedOfManyIns(t *testing.T) {
	for _, many := range []int{api.MaxIns, api.MaxIns + 1, 5000} {
		for _, best := range []int{0, 1, many / 2, many - 1} {
			x := sample{of(2, 0), make([]int, many), make([]uint32, many)}
			x.tx.Ins = make([]api.In, many)
			x.tx.Ins[best].Seq = 40
			expectNeed(t, "many", need{39, -1, true}, x)
			expectMet(t, "many", false, x, 39, 0)
			expectMet(t, "many", true, x, 40, 0)
		}
	}
}

// P14.1, P14.2, P0.4: what is handed in is not changed; what lies behind its length is neither read nor written.
func TestWhatIsHandedIn(t *testing.T) {
	whole := of(2, api.Split, 5, api.ByTime|3, 7, 0xffff, api.ByTime|0xffff, 0)
	heights := []int{100, 200, 300, api.MaxHeight, 400, 500}
	pasts := []uint32{7, 8, 9, 10, 1 << 31, 11}
	ins := slices.Clone(whole.Ins)
	for many := range len(whole.Ins) + 1 {
		x := whole
		x.Ins = whole.Ins[:many]
		in := sample{x, heights[:many], pasts[:many]}
		want := modelNeed(in)
		expectNeed(t, "a part", want, in)
		expectMet(t, "a part", true, in, want.height+1, uint32(want.past+1))
		expectFinal(t, "a part", many == 0, x, api.MaxHeight, api.Split)
	}
	for i, in := range whole.Ins {
		if in.From != ins[i].From || in.Seq != ins[i].Seq || !slices.Equal(in.Key, []byte{byte(i), 9}) {
			t.Errorf("In %d is %v", i, in)
		}
	}
	if !slices.Equal(heights, []int{100, 200, 300, api.MaxHeight, 400, 500}) {
		t.Errorf("heights are %v", heights)
	}
	if !slices.Equal(pasts, []uint32{7, 8, 9, 10, 1 << 31, 11}) {
		t.Errorf("pasts are %v", pasts)
	}
}
