package value_test

import (
	"bytes"
	"math"
	"slices"
	"testing"

	"sargasso/api"
	"sargasso/spend"
	"sargasso/value"
)

// most is the greatest amount.
const most = api.MaxMoney

// P15.1: it is what comes in less what goes out; as much is 0, and one less is ErrLess.
func TestFeeIsTheDifference(t *testing.T) {
	for _, x := range []struct {
		ins, outs []uint64
		want      answer
	}{
		{[]uint64{100}, []uint64{70}, pays(30)},
		{[]uint64{100}, []uint64{70, 20}, pays(10)},
		{[]uint64{60, 50}, []uint64{70, 30}, pays(10)},
		{[]uint64{1, 2, 4, 8}, []uint64{1, 2}, pays(12)},
		{[]uint64{100}, nil, pays(100)},
		{[]uint64{100}, []uint64{0}, pays(100)},
		{[]uint64{100}, []uint64{99}, pays(1)},
		{[]uint64{100}, []uint64{100}, pays(0)},
		{[]uint64{100}, []uint64{101}, fails(api.ErrLess)},
		{[]uint64{50, 50}, []uint64{100}, pays(0)},
		{[]uint64{50, 49}, []uint64{100}, fails(api.ErrLess)},
		{[]uint64{100}, []uint64{50, 51}, fails(api.ErrLess)},
		{[]uint64{0}, []uint64{0}, pays(0)},
		{[]uint64{0}, []uint64{1}, fails(api.ErrLess)},
		{[]uint64{0, 0}, nil, pays(0)},
		{[]uint64{5000000000}, []uint64{4294967296}, pays(705032704)},
		{[]uint64{4294967296}, []uint64{4294967297}, fails(api.ErrLess)},
	} {
		expectFee(t, "the difference", x.want, of(x.ins, x.outs))
	}
}

// P15.1: of no Ins nothing comes in.
func TestFeeOfNoIns(t *testing.T) {
	expectFee(t, "the zero value", pays(0), sample{})
	expectFee(t, "the empty list", pays(0), sample{api.Tx{Ins: []api.In{}, Outs: []api.Out{}}, []api.Money{}})
	expectFee(t, "Outs of 0", pays(0), of(nil, []uint64{0, 0}))
	expectFee(t, "something goes out", fails(api.ErrLess), of(nil, []uint64{1}))
	expectFee(t, "too much goes out", fails(api.ErrValue), of(nil, []uint64{most + 1}))
}

// P15.1: amounts up to MaxMoney in all are taken, on both sides; those whose compact.Sum is none are ErrValue, also where the sum goes round.
func TestFeeOfGreatAmounts(t *testing.T) {
	for _, l := range [][]uint64{{most}, {most - 1, 1}, {1, most - 1}, {most, 0}, {0, most}, {most / 2, most / 2}} {
		expectFee(t, "all that may come in", pays(total(l).Uint64()), of(l, nil))
		expectFee(t, "all that may go out", pays(most-total(l).Uint64()), of([]uint64{most}, l))
	}
	for _, l := range [][]uint64{
		{most + 1}, {most, 1}, {1, most}, {most, most}, {math.MaxUint64}, {math.MaxUint64, 1}, {1, math.MaxUint64},
		{math.MaxUint64, 2}, {1 << 63, 1 << 63}, {1 << 63, 1<<63 + 5}, {0, 0, most + 1}, {most + 1, 0, 0},
		{1 << 62, 1 << 62, 1 << 62, 1 << 62},
	} {
		expectFee(t, "too much comes in", fails(api.ErrValue), of(l, nil))
		expectFee(t, "too much comes in", fails(api.ErrValue), of(l, []uint64{most}))
		expectFee(t, "too much goes out", fails(api.ErrValue), of([]uint64{5}, l))
		expectFee(t, "too much goes out", fails(api.ErrValue), of([]uint64{most}, l))
		expectFee(t, "too much of both", fails(api.ErrValue), of(l, l))
	}
}

// P15.1: ErrShape where coins are not as many as Ins.
func TestFeeOfWrongCounts(t *testing.T) {
	whole := of([]uint64{10, 20, 30, 40}, []uint64{5})
	for ins := range 5 {
		for coins := range 5 {
			x := whole
			x.tx.Ins, x.in = whole.tx.Ins[:ins], whole.in[:coins]
			switch {
			case ins != coins:
				expectFee(t, "wrong counts", fails(api.ErrShape), x)
			case ins == 0:
				expectFee(t, "none", fails(api.ErrLess), x)
			default:
				expectFee(t, "right counts", pays([]uint64{5, 25, 55, 95}[ins-1]), x)
			}
		}
	}
}

// P15.1: ErrKey, around the place of the first In whose Key does not open its coin.
func TestFeeOfWrongKeys(t *testing.T) {
	ins := []uint64{10, 20, 30, 40, 50}
	for i := range ins {
		for name, wrong := range map[string][]byte{
			"none":        nil,
			"empty":       {},
			"another":     key(900),
			"cut off":     key(i)[:len(key(i))-1],
			"one more":    append(key(i), 0),
			"a bit":       append(key(i)[:len(key(i))-1], key(i)[len(key(i))-1]^1),
			"a neighbour": key((i + 1) % len(ins)),
		} {
			x := of(ins, []uint64{5})
			x.tx.Ins[i].Key = wrong
			expectFee(t, name, failsAt(i, api.ErrKey), x)
			for later := i + 1; later < len(ins); later++ {
				x.tx.Ins[later].Key = wrong
				expectFee(t, name+", and a later one", failsAt(i, api.ErrKey), x)
			}
		}
		x := of(ins, []uint64{5})
		x.in[i].Lock[31] ^= 1
		expectFee(t, "a bit of the Lock", failsAt(i, api.ErrKey), x)
		x.in[i].Lock = api.Hash{}
		expectFee(t, "no Lock", failsAt(i, api.ErrKey), x)
	}
}

// P15.1: coins in another order don't fit, though the keys are there: each In has its own coin.
func TestFeeOfAnotherOrder(t *testing.T) {
	x := of([]uint64{10, 20, 30}, []uint64{5})
	x.in[1], x.in[2] = x.in[2], x.in[1]
	expectFee(t, "the coins", failsAt(1, api.ErrKey), x)
	x.tx.Ins[1], x.tx.Ins[2] = x.tx.Ins[2], x.tx.Ins[1]
	expectFee(t, "the Ins, too", pays(55), x)
	x.tx.Ins[0], x.tx.Ins[1] = x.tx.Ins[1], x.tx.Ins[0]
	expectFee(t, "the Ins alone", failsAt(0, api.ErrKey), x)
}

// P15.1: keys up to MaxKey open what they lock, longer ones nothing; the empty one is a key, and one key may open many coins.
func TestFeeByKeysOfEachLength(t *testing.T) {
	for _, n := range []int{0, 1, 63, 64, 79, 80, 81, 82, 200} {
		x := of([]uint64{10, 20}, []uint64{5})
		long := bytes.Repeat([]byte{7}, n)
		x.tx.Ins[1].Key, x.in[1].Lock = long, spend.Lock(long)
		if n <= 80 {
			expectFee(t, "a key", pays(25), x)
		} else {
			expectFee(t, "a key that is too long", failsAt(1, api.ErrKey), x)
		}
		x.tx.Ins[0].Key, x.in[0].Lock = long, spend.Lock(long)
		if n <= 80 {
			expectFee(t, "one key twice", pays(25), x)
		} else {
			expectFee(t, "one key twice, too long", failsAt(0, api.ErrKey), x)
		}
	}
}

// P15.1: where several hold: ErrShape, ErrKey, ErrValue, ErrLess, in this order.
func TestFeeErrorsInOrder(t *testing.T) {
	for bits := range 32 {
		shape, wrongKey, muchIn, muchOut, less := bits&1 > 0, bits&2 > 0, bits&4 > 0, bits&8 > 0, bits&16 > 0
		ins, outs := []uint64{10, 20, 0}, []uint64{5, 0}
		if muchIn {
			ins[2] = most
		}
		if muchOut {
			outs[1] = most
		}
		if less {
			outs[0] = 31
		}
		x := of(ins, outs)
		if wrongKey {
			x.tx.Ins[1].Key = key(900)
		}
		if shape {
			x.in = x.in[:2]
		}
		want := pays(25)
		switch {
		case shape:
			want = fails(api.ErrShape)
		case wrongKey:
			want = failsAt(1, api.ErrKey)
		case muchIn || muchOut:
			want = fails(api.ErrValue)
		case less:
			want = fails(api.ErrLess)
		}
		expectFee(t, "several", want, x)
	}
}

// P15.1: nothing else of the transaction is asked, nor of the coins: whether it is a first one, one coin twice, no Outs, more than there may be, a coin's Height and Base.
func TestFeeAsksNothingElse(t *testing.T) {
	x := of([]uint64{10, 20}, []uint64{5})
	for _, from := range []api.Point{{}, spend.Null()} {
		for i := range x.tx.Ins {
			x.tx.Ins[i].From = from
		}
		expectFee(t, "one coin twice", pays(25), x)
	}
	for _, n := range []uint32{0, 1, 2, math.MaxUint32} {
		x.tx.Version, x.tx.Time, x.tx.Ins[0].Seq, x.tx.Ins[1].Seq = n, n, n, n
		expectFee(t, "other numbers", pays(25), x)
	}
	for _, n := range []int{math.MinInt, -1, 0, api.MaxHeight, math.MaxInt} {
		x.in[0].Height, x.in[0].Base, x.in[1].Base = n, true, true
		expectFee(t, "a coin that is too young", pays(25), x)
	}
	first := of([]uint64{10}, []uint64{5})
	first.tx.Ins[0].From = spend.Null()
	expectFee(t, "a first one", pays(5), first)
	for _, many := range []int{api.MaxIns, api.MaxIns + 1, 1000} {
		x := of(slices.Repeat([]uint64{3}, many), slices.Repeat([]uint64{2}, many))
		expectFee(t, "many", pays(uint64(many)), x)
		x.tx.Ins[many-1].Key = key(many + 1)
		expectFee(t, "many, the last one's key", failsAt(many-1, api.ErrKey), x)
		expectFee(t, "many", fails(api.ErrLess), of(slices.Repeat([]uint64{3}, many), slices.Repeat([]uint64{3}, many+1)))
	}
}

// amounts are up to five, for the most part small ones.
func (r *turns) amounts() (l []uint64) {
	for range r.below(6) {
		small := uint64(r.below(60))
		l = append(l, pick(r, small, small, small, small, small, most/2, most-small, most+1, r.word()))
	}
	return l
}

// P15.1: many, held against the model; again the same.
func TestFeeAgainstTheModel(t *testing.T) {
	r := &turns{7}
	seen := map[error]int{}
	for range 20000 {
		x := of(r.amounts(), r.amounts())
		var keys [][]byte
		for i := range x.tx.Ins {
			keys = append(keys, key(i))
			if r.below(20) == 0 {
				x.tx.Ins[i].Key = pick(r, nil, key(i+1), key(i)[1:], key(i))
			}
			if r.below(20) == 0 {
				keys[i] = bytes.Repeat(key(i), 1+r.below(30))
				x.tx.Ins[i].Key, x.in[i].Lock = keys[i], spend.Lock(keys[i])
			}
		}
		if r.below(10) == 0 {
			x.in = append(x.in, api.Money{Lock: spend.Lock(nil)})
		}
		want := modelFee(x, keys)
		seen[want.err]++
		for range 2 {
			expectFee(t, "of many", want, x)
		}
	}
	for _, err := range []error{nil, api.ErrShape, api.ErrKey, api.ErrValue, api.ErrLess} {
		if seen[err] < 300 {
			t.Errorf("too few of %v: %v", err, seen)
		}
	}
}

// P15.1, P0.4: what is handed in is not changed; what lies behind its length is neither read nor written.
func TestFeeLeavesWhatIsHandedIn(t *testing.T) {
	whole, same := of([]uint64{10, 20, most + 1}, []uint64{5, 7, most + 1}), of([]uint64{10, 20, most + 1}, []uint64{5, 7, most + 1})
	whole.tx.Ins[2].Key, same.tx.Ins[2].Key = key(900), key(900)
	x := whole
	x.tx.Ins, x.in, x.tx.Outs = whole.tx.Ins[:2], whole.in[:2], whole.tx.Outs[:2]
	expectFee(t, "a part", pays(18), x)
	x.tx.Ins[1].Key = whole.tx.Ins[1].Key[:4]
	same.tx.Ins[1].Key = key(1)[:4]
	expectFee(t, "a part of a key", failsAt(1, api.ErrKey), x)
	sameIn := func(a, b api.In) bool { return a.From == b.From && a.Seq == b.Seq && bytes.Equal(a.Key, b.Key) }
	if !slices.EqualFunc(whole.tx.Ins, same.tx.Ins, sameIn) || !slices.Equal(whole.in, same.in) || !slices.Equal(whole.tx.Outs, same.tx.Outs) {
		t.Errorf("changed: %v", whole)
	}
	if got := whole.tx.Ins[1].Key; !bytes.Equal(got[:len(key(1))], key(1)) {
		t.Errorf("changed behind the key: %q", got[:len(key(1))])
	}
}

// P0.3: each error of a place is its own.
func TestFeeErrorsAreNew(t *testing.T) {
	x := of([]uint64{10, 20}, []uint64{5})
	x.tx.Ins[1].Key = nil
	_, err := value.Fee(x.tx, x.in)
	first := around(err)
	if first == nil {
		t.Fatalf("no place: %v", err)
	}
	first.Pos, first.Err = 9, api.ErrLess
	expectFee(t, "after a write into the error", failsAt(1, api.ErrKey), x)
}
