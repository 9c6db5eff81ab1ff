package value_test

import (
	"errors"
	"math/big"
	"strconv"
	"testing"

	"sargasso/api"
	"sargasso/spend"
	"sargasso/value"
)

// turns are numbers that look like chance, always the same ones.
type turns struct{ next uint32 }

// below is a number below n.
func (r *turns) below(n int) int {
	r.next = r.next*1664525 + 1013904223
	return int(r.next>>8) % n
}

// word is a number of all 64 bits.
func (r *turns) word() (n uint64) {
	for range 4 {
		n = n<<16 | uint64(r.below(1<<16))
	}
	return n
}

// pick is one of l.
func pick[T any](r *turns, l ...T) T {
	return l[r.below(len(l))]
}

// key is another key for each n.
func key(n int) []byte {
	return []byte("key " + strconv.Itoa(n))
}

// sample is what Fee is asked with.
type sample struct {
	tx api.Tx
	in []api.Money
}

// of is a transaction that spends coins of these values, one an In, and pays these out; its other fields are unlike, and each In has the key to its coin alone.
func of(ins, outs []uint64) (x sample) {
	x.tx.Version, x.tx.Time = 2, 77
	for i, n := range ins {
		x.tx.Ins = append(x.tx.Ins, api.In{From: api.Point{Tx: spend.Lock(key(1000 + i)), N: uint32(i)}, Key: key(i), Seq: 5})
		x.in = append(x.in, api.Money{Value: n, Lock: spend.Lock(key(i)), Height: i, Base: i%2 == 1})
	}
	for i, n := range outs {
		x.tx.Outs = append(x.tx.Outs, api.Out{Value: n, Lock: spend.Lock(key(2000 + i))})
	}
	return x
}

// answer is what Fee should answer; at is the place in the *api.At, below 0 where there is none.
type answer struct {
	fee uint64
	at  int
	err error
}

// pays is the answer that is no error.
func pays(fee uint64) answer {
	return answer{fee, -1, nil}
}

// fails is the answer that is err alone.
func fails(err error) answer {
	return answer{0, -1, err}
}

// failsAt is the answer that is err with a place.
func failsAt(at int, err error) answer {
	return answer{0, at, err}
}

// around is the *api.At that err is, or nil.
func around(err error) *api.At {
	var at *api.At
	errors.As(err, &at)
	return at
}

// expectFee asks for Fee.
func expectFee(t *testing.T, what string, want answer, x sample) {
	t.Helper()
	fee, err := value.Fee(x.tx, x.in)
	got := answer{fee, -1, err}
	if at := around(err); at != nil {
		got.at, got.err = at.Pos, at.Err
	}
	if got != want {
		t.Errorf("%s: Fee of %d Ins, %d coins, %d Outs: %v, not %v", what, len(x.tx.Ins), len(x.in), len(x.tx.Outs), got, want)
	}
}

// total is all of l added, without bounds.
func total(l []uint64) *big.Int {
	sum := new(big.Int)
	for _, n := range l {
		sum.Add(sum, new(big.Int).SetUint64(n))
	}
	return sum
}

// modelFee is what Fee should answer, by numbers without bounds; each key is held against its coin's by its bytes, keys[i] being the one to coin i.
func modelFee(x sample, keys [][]byte) answer {
	if len(x.in) != len(x.tx.Ins) {
		return fails(api.ErrShape)
	}
	for i, in := range x.tx.Ins {
		if string(in.Key) != string(keys[i]) || len(in.Key) > 80 {
			return failsAt(i, api.ErrKey)
		}
	}
	var ins, outs []uint64
	for _, c := range x.in {
		ins = append(ins, c.Value)
	}
	for _, out := range x.tx.Outs {
		outs = append(outs, out.Value)
	}
	comes, goes, most := total(ins), total(outs), big.NewInt(2100000000000000)
	if comes.Cmp(most) > 0 || goes.Cmp(most) > 0 {
		return fails(api.ErrValue)
	}
	left := comes.Sub(comes, goes)
	if left.Sign() < 0 {
		return fails(api.ErrLess)
	}
	return pays(left.Uint64())
}
