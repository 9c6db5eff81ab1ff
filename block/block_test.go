package block_test

import (
	"bytes"
	"encoding/hex"
	"maps"
	"math"
	"slices"
	"testing"

	"sargasso/api"
	"sargasso/block"
	"sargasso/head"
	"sargasso/merkle"
	"sargasso/spend"
	"sargasso/tx"
)

// unlike are changes each of which makes another block of it; the first ones leave the header.
func unlike() (txs, heads map[string]func(b *api.Block)) {
	txs = map[string]func(b *api.Block){
		"a transaction less":   func(b *api.Block) { b.Txs = b.Txs[:2] },
		"a transaction more":   func(b *api.Block) { b.Txs = append(b.Txs, api.Tx{}) },
		"the last one twice":   func(b *api.Block) { b.Txs = append(b.Txs, b.Txs[2]) },
		"no transactions":      func(b *api.Block) { b.Txs = nil },
		"in another order":     func(b *api.Block) { b.Txs[1], b.Txs[2] = b.Txs[2], b.Txs[1] },
		"the first's Key":      func(b *api.Block) { b.Txs[0].Ins[0].Key[3]++ },
		"an In of the second":  func(b *api.Block) { b.Txs[1].Ins[1].From.N++ },
		"an Out of the second": func(b *api.Block) { b.Txs[1].Outs[0].Value++ },
		"the last one's Time":  func(b *api.Block) { b.Txs[2].Time++ },
	}
	heads = map[string]func(b *api.Block){
		"Version": func(b *api.Block) { b.Head.Version++ },
		"Prev":    func(b *api.Block) { b.Head.Prev[31]++ },
		"Root":    func(b *api.Block) { b.Head.Root[0]++ },
		"Time":    func(b *api.Block) { b.Head.Time++ },
		"Work":    func(b *api.Block) { b.Head.Work++ },
		"Nonce":   func(b *api.Block) { b.Head.Nonce ^= 1 << 31 },
	}
	return txs, heads
}

// some is the block that unlike's changes are made to.
func some() api.Block {
	return rooted(headed(based(7), paying(1, 2, 3, 1), paying(2, 1, 0, 2)))
}

// P7.1: ID is the header's, whatever the transactions are.
func TestID(t *testing.T) {
	all := readable()
	maps.Copy(all, anySize())
	for what, b := range all {
		if id := block.ID(b); id != twice(writtenHead(b.Head)) || id != head.ID(b.Head) {
			t.Errorf("ID of %s: %x", what, id)
		}
	}
	txs, heads := unlike()
	id := block.ID(some())
	for what, change := range txs {
		if block.ID(changed(some(), change)) != id {
			t.Errorf("%s: another ID", what)
		}
	}
	for what, change := range heads {
		if block.ID(changed(some(), change)) == id {
			t.Errorf("%s: the ID stays", what)
		}
	}
}

// P7.1: IDs are those of the transactions, in their order; Root is what they come to, whatever the header says.
func TestIDsAndRoot(t *testing.T) {
	all := readable()
	maps.Copy(all, anySize())
	for what, b := range all {
		ids := block.IDs(b)
		if len(ids) != len(b.Txs) {
			t.Errorf("IDs of %s: %d of them", what, len(ids))
			continue
		}
		for i, x := range b.Txs {
			if ids[i] != twice(writtenTx(x)) {
				t.Errorf("IDs of %s: number %d is %x", what, i, ids[i])
				break
			}
		}
		if root := block.Root(b); root != rootOf(b.Txs) || root != merkle.Root(ids...) {
			t.Errorf("Root of %s: %x", what, root)
		}
	}
}

// P7.1: of no transactions there are no IDs, and Root is 32 bytes of 0; of one it is its ID.
func TestRootOfFew(t *testing.T) {
	for _, b := range []api.Block{{}, headed(), {Txs: []api.Tx{}}} {
		if ids, root := block.IDs(b), block.Root(b); len(ids) > 0 || root != (api.Hash{}) {
			t.Errorf("%x, %x", ids, root)
		}
	}
	if block.Root(headed(small(1))) != tx.ID(small(1)) {
		t.Error("the root of one is not its ID")
	}
}

// P7.1: Root of each number of transactions, held against the library's digests.
func TestRootOfMany(t *testing.T) {
	b := counted(40)
	for n := range b.Txs {
		part := api.Block{Head: b.Head, Txs: b.Txs[:n]}
		if block.Root(part) != rootOf(b.Txs[:n]) {
			t.Errorf("the root of %d", n)
		}
	}
}

// P7.1, P0.4: IDs are new memory each time, their spare room too.
func TestIDsAreNewMemory(t *testing.T) {
	b := some()
	want := block.IDs(b)
	first, second := block.IDs(b), block.IDs(b)
	clear(first[:cap(first)])
	if !slices.Equal(second, want) || !slices.Equal(block.IDs(b), want) || !equal(b, some()) {
		t.Error("a write into one answer is seen elsewhere")
	}
}

// P7.1: Same of what has the same Bytes, wherever it lies; nil and the empty lists are the same.
func TestSame(t *testing.T) {
	all := readable()
	maps.Copy(all, anySize())
	for what, b := range all {
		if !block.Same(b, b) || !block.Same(b, copied(b)) || !block.Same(copied(b), b) {
			t.Errorf("%s is not the same as itself", what)
		}
	}
	if !block.Same(api.Block{}, api.Block{Txs: []api.Tx{}}) {
		t.Error("nil and the empty list are not the same")
	}
	if !block.Same(headed(api.Tx{}), headed(api.Tx{Ins: []api.In{}, Outs: []api.Out{}})) {
		t.Error("nil and the empty lists of a transaction are not the same")
	}
}

// P7.1: one that is unlike in anything is not the same, also where the header, and so the ID, is the same.
func TestSameOfOthers(t *testing.T) {
	txs, heads := unlike()
	maps.Copy(txs, heads)
	for what, change := range txs {
		other := changed(some(), change)
		if block.Same(some(), other) || block.Same(other, some()) {
			t.Errorf("%s: the same", what)
		}
	}
	all := readable()
	for what, x := range all {
		for other, y := range all {
			if block.Same(x, y) != (what == other) {
				t.Errorf("%s and %s", what, other)
			}
		}
	}
}

// P7.1: Clone is the same.
func TestClone(t *testing.T) {
	all := readable()
	maps.Copy(all, anySize())
	all["an empty list"] = api.Block{Head: someHead(), Txs: []api.Tx{}}
	for what, b := range all {
		if got := block.Clone(b); !equal(got, b) {
			t.Errorf("Clone of %s is another one", what)
		}
	}
}

// P7.1, P0.4: a Clone has nothing of the block's memory, nor of another Clone's.
func TestCloneIsNewMemory(t *testing.T) {
	for what, b := range readable() {
		roomed, asItWas := roomy(b)
		first, second := block.Clone(roomed), block.Clone(roomed)
		if !equal(first, b) || !asItWas() {
			t.Errorf("Clone of %s, with other things behind its lists", what)
		}
		spoil(first)
		if !asItWas() {
			t.Errorf("%s goes with its Clone", what)
		}
		if !equal(second, b) {
			t.Errorf("%s: a Clone goes with another one", what)
		}
		spoil(roomed)
		if !equal(second, b) {
			t.Errorf("a Clone of %s goes with it", what)
		}
	}
}

// P7.1, P0.4: the transactions of a Clone lie apart, also where those of what was cloned share memory.
func TestCloneTransactionsApart(t *testing.T) {
	one := paying(1, 3, 5, 2)
	b := headed(one, one, based(4), one)
	apart(t, "Clone", b, func() api.Block { return block.Clone(b) })
	if !equal(b, headed(paying(1, 3, 5, 2), paying(1, 3, 5, 2), based(4), paying(1, 3, 5, 2))) {
		t.Error("what was cloned was changed")
	}
}

// P7.2: First's fields, at ordinary heights and at the edges: 32 bits of the height, the lowest byte first.
func TestFirst(t *testing.T) {
	for _, x := range []struct {
		height int
		want   []byte
	}{
		{0, []byte{0, 0, 0, 0}},
		{1, []byte{1, 0, 0, 0}},
		{253, []byte{253, 0, 0, 0}},
		{0x01020304, []byte{4, 3, 2, 1}},
		{api.MaxHeight, []byte{0, 0, 16, 0}},
		{math.MaxInt32, []byte{255, 255, 255, 127}},
		{1 << 31, []byte{0, 0, 0, 128}},
		{math.MaxUint32, []byte{255, 255, 255, 255}},
		{1 << 32, []byte{0, 0, 0, 0}},
		{0x1122334455667788, []byte{0x88, 0x77, 0x66, 0x55}},
		{math.MaxInt, []byte{255, 255, 255, 255}},
		{-1, []byte{255, 255, 255, 255}},
		{-2, []byte{254, 255, 255, 255}},
		{math.MinInt, []byte{0, 0, 0, 0}},
	} {
		for _, extra := range [][]byte{nil, {}, []byte("xy"), someKey(76), someKey(77), someKey(5000)} {
			for _, value := range []uint64{0, 77, api.MaxMoney, api.MaxMoney + 1, math.MaxUint64} {
				got := block.First(x.height, value, someHash(8), extra)
				want := api.Tx{
					Version: 1,
					Ins:     []api.In{{From: api.Point{N: math.MaxUint32}, Key: slices.Concat(x.want, extra), Seq: math.MaxUint32}},
					Outs:    []api.Out{{Value: value, Lock: someHash(8)}},
				}
				if !equalTx(got, want) {
					t.Errorf("height %d, value %d, %d bytes more: %v", x.height, value, len(extra), got)
				}
			}
		}
	}
}

// P7.2: what First makes is a Base, which tx.Check takes where extra and the value are no more than may be.
func TestFirstIsChecked(t *testing.T) {
	for _, x := range []struct {
		value uint64
		extra int
		err   error
	}{
		{0, 0, nil},
		{5, 2, nil},
		{api.MaxMoney, api.MaxKey - 4, nil},
		{5, api.MaxKey - 3, api.ErrKey},
		{api.MaxMoney + 1, 0, api.ErrValue},
		{5, api.MaxTx, api.ErrLong},
	} {
		got := block.First(300, x.value, api.Hash{}, someKey(x.extra))
		if !tx.Base(got) || tx.Check(got) != x.err {
			t.Errorf("value %d, %d bytes more: %v", x.value, x.extra, tx.Check(got))
		}
	}
}

// P7.2, P0.4: extra is neither changed nor kept, what lies behind its length is left alone, and two Firsts share no memory.
func TestFirstKeepsNothing(t *testing.T) {
	for _, n := range []int{0, 1, 3, 4, 12, 60} {
		memory := someKey(n + 40)
		extra := memory[:n]
		first, second := block.First(9, 1, someHash(1), extra), block.First(9, 1, someHash(1), extra)
		want := copiedTx(second)
		if !bytes.Equal(first.Ins[0].Key, slices.Concat([]byte{9, 0, 0, 0}, someKey(n + 40)[:n])) {
			t.Errorf("%d bytes: %v", n, first.Ins[0].Key)
		}
		spoil(api.Block{Txs: []api.Tx{first}})
		if !bytes.Equal(memory, someKey(n+40)) {
			t.Errorf("%d bytes: a write into First's Key is seen in what was handed in", n)
		}
		clear(memory)
		if !equalTx(second, want) {
			t.Errorf("%d bytes: First goes with another one, or with what was handed in", n)
		}
	}
}

// P7.2: Start's fields, as the chapter tells them, and its Check, as its example tells it.
func TestStart(t *testing.T) {
	lock, err := hex.DecodeString("e3b0c44298fc1c149afbf4c8996fb92427ae41e4649b934ca495991b7852b855")
	if err != nil {
		t.Fatal(err)
	}
	first := api.Tx{
		Version: 1,
		Ins:     []api.In{{From: api.Point{N: math.MaxUint32}, Key: make([]byte, 4), Seq: math.MaxUint32}},
		Outs:    []api.Out{{Lock: api.Hash(lock)}},
	}
	want := api.Block{Head: api.Head{Version: 1, Root: twice(writtenTx(first)), Time: 1000, Work: 1}, Txs: []api.Tx{first}}
	for range 2 {
		got := block.Start()
		if !equal(got, want) {
			t.Errorf("%v", got)
		}
		if err := block.Check(got); err != nil {
			t.Errorf("Check: %v", err)
		}
	}
	if block.Start().Txs[0].Outs[0].Lock != spend.Lock(nil) || block.ID(block.Start()) != twice(writtenHead(want.Head)) {
		t.Error("another lock, or another ID")
	}
}

// P7.2, P0.4: what is done with one Start no other one shows.
func TestStartsApart(t *testing.T) {
	first, second := block.Start(), block.Start()
	want := copied(second)
	spoil(first)
	first.Head.Time = 7
	if !equal(second, want) || !equal(block.Start(), want) {
		t.Error("a write into one Start is seen in another one")
	}
}

// P7.1, P0.4: ID, IDs, Root, Same and Check change nothing of what they are handed, and read nothing behind its lengths.
func TestAskingChangesNothing(t *testing.T) {
	for what, b := range readable() {
		roomed, asItWas := roomy(b)
		if block.ID(roomed) != block.ID(b) || !slices.Equal(block.IDs(roomed), block.IDs(b)) || block.Root(roomed) != block.Root(b) {
			t.Errorf("%s, with other things behind its lists: another ID, IDs or Root", what)
		}
		if !block.Same(roomed, b) || !block.Same(b, roomed) {
			t.Errorf("%s, with other things behind its lists: not the same", what)
		}
		got, want := block.Check(roomed), block.Check(b)
		if (got == nil) != (want == nil) || got != nil && got.Error() != want.Error() {
			t.Errorf("%s, with other things behind its lists: %v, not %v", what, got, want)
		}
		if !asItWas() {
			t.Errorf("%s was changed", what)
		}
	}
}
