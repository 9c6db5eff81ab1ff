package tx_test

import (
	"crypto/sha256"
	"maps"
	"slices"
	"testing"

	"sargasso/api"
	"sargasso/digest"
	"sargasso/spend"
	"sargasso/tx"
)

// unlike are changes each of which makes another transaction of sized(3, 4, 2).
func unlike() map[string]func(t *api.Tx) {
	return map[string]func(t *api.Tx){
		"Version":            func(t *api.Tx) { t.Version++ },
		"Version's top bit":  func(t *api.Tx) { t.Version ^= 1 << 31 },
		"Time":               func(t *api.Tx) { t.Time++ },
		"Time's top bit":     func(t *api.Tx) { t.Time ^= 1 << 31 },
		"an In's Tx":         func(t *api.Tx) { t.Ins[2].From.Tx[31]++ },
		"an In's N":          func(t *api.Tx) { t.Ins[0].From.N++ },
		"an In's Seq":        func(t *api.Tx) { t.Ins[1].Seq++ },
		"a Key's byte":       func(t *api.Tx) { t.Ins[1].Key[3]++ },
		"a Key a byte less":  func(t *api.Tx) { t.Ins[2].Key = t.Ins[2].Key[:3] },
		"a Key a byte more":  func(t *api.Tx) { t.Ins[2].Key = append(t.Ins[2].Key, 0) },
		"a Key of none":      func(t *api.Tx) { t.Ins[0].Key = nil },
		"a value":            func(t *api.Tx) { t.Outs[1].Value++ },
		"a value's top bit":  func(t *api.Tx) { t.Outs[0].Value ^= 1 << 63 },
		"a lock":             func(t *api.Tx) { t.Outs[0].Lock[0]++ },
		"an In less":         func(t *api.Tx) { t.Ins = t.Ins[:2] },
		"an In more":         func(t *api.Tx) { t.Ins = append(t.Ins, api.In{}) },
		"no Ins":             func(t *api.Tx) { t.Ins = nil },
		"an Out less":        func(t *api.Tx) { t.Outs = t.Outs[1:] },
		"an Out more":        func(t *api.Tx) { t.Outs = append(t.Outs, api.Out{}) },
		"no Outs":            func(t *api.Tx) { t.Outs = nil },
		"Ins in other order": func(t *api.Tx) { t.Ins[0], t.Ins[1] = t.Ins[1], t.Ins[0] },
		"Outs the other way": func(t *api.Tx) { slices.Reverse(t.Outs) },
		"a byte to the next": func(t *api.Tx) { t.Ins[1].Key, t.Ins[0].Key = append(t.Ins[1].Key, 1), t.Ins[0].Key[:3] },
		"Version and Time":   func(t *api.Tx) { t.Version, t.Time = t.Time, t.Version },
		"N and Seq":          func(t *api.Tx) { t.Ins[0].From.N, t.Ins[0].Seq = t.Ins[0].Seq, t.Ins[0].From.N },
	}
}

// P4.1: ID is the digest of the digest of Bytes.
func TestID(t *testing.T) {
	all := readable()
	maps.Copy(all, anySize())
	for what, x := range all {
		b := written(x)
		once := sha256.Sum256(b)
		if id := tx.ID(x); id != sha256.Sum256(once[:]) || id != digest.Twice(b) {
			t.Errorf("ID of %s: %x", what, id)
		}
	}
	if tx.ID(api.Tx{}) != digest.Twice(make([]byte, 10)) {
		t.Error("ID of the zero value is not of ten bytes of 0")
	}
}

// P4.1: one that is unlike in any field has another ID, and is not the same.
func TestUnlike(t *testing.T) {
	x := sized(3, 4, 2)
	for what, change := range unlike() {
		y := changed(x, change)
		if tx.Same(x, y) || tx.Same(y, x) {
			t.Errorf("%s: the same", what)
		}
		if tx.ID(x) == tx.ID(y) {
			t.Errorf("%s: one ID", what)
		}
	}
}

// P4.1: Same of what has the same Bytes, wherever it lies; nil and the empty lists are the same.
func TestSame(t *testing.T) {
	all := readable()
	maps.Copy(all, anySize())
	for what, x := range all {
		if !tx.Same(x, x) || !tx.Same(x, copied(x)) || !tx.Same(copied(x), x) {
			t.Errorf("%s is not the same as itself", what)
		}
	}
	none := api.Tx{Ins: []api.In{}, Outs: []api.Out{}}
	if !tx.Same(none, api.Tx{}) || !tx.Same(api.Tx{}, none) {
		t.Error("nil and the empty lists are not the same")
	}
	if !tx.Same(api.Tx{Ins: []api.In{{Key: []byte{}}}}, api.Tx{Ins: make([]api.In, 1)}) {
		t.Error("nil and the empty Key are not the same")
	}
	if tx.ID(none) != tx.ID(api.Tx{}) {
		t.Error("nil and the empty lists have two IDs")
	}
}

// P4.1: of any two that are unlike none is the same as the other one.
func TestSameOfOthers(t *testing.T) {
	all := readable()
	for what, x := range all {
		for other, y := range all {
			if tx.Same(x, y) != (what == other) {
				t.Errorf("%s and %s", what, other)
			}
		}
	}
}

// P4.1: Clone is the same.
func TestClone(t *testing.T) {
	all := readable()
	maps.Copy(all, anySize())
	all["empty lists"] = api.Tx{Version: 3, Ins: []api.In{}, Outs: []api.Out{}}
	all["an empty Key"] = api.Tx{Ins: []api.In{{Key: []byte{}}}}
	for what, x := range all {
		if y := tx.Clone(x); !equal(x, y) {
			t.Errorf("Clone of %s: %v", what, y)
		}
	}
}

// P4.1, P0.4: a Clone and what it is of have no memory in common, nor have two of its lists, nor two Clones.
func TestCloneIsNewMemory(t *testing.T) {
	for what, x := range readable() {
		roomed, asItWas := roomy(x)
		first, second := tx.Clone(roomed), tx.Clone(roomed)
		if !equal(first, x) || !asItWas() {
			t.Errorf("Clone of %s, with other things behind its lists: %v", what, first)
		}
		spoil(first)
		if !asItWas() {
			t.Errorf("%s goes with its Clone", what)
		}
		if !equal(second, x) {
			t.Errorf("%s: a Clone goes with another one", what)
		}
		spoil(roomed)
		if !equal(second, x) {
			t.Errorf("a Clone of %s goes with it", what)
		}
	}
}

// P4.1, P0.4: each Key of a Clone lies apart, also where what was cloned has one Key in many Ins, or Keys in one piece of memory.
func TestCloneKeysApart(t *testing.T) {
	memory := someKey(40)
	x := sized(5, 0, 1)
	for i := range x.Ins {
		x.Ins[i].Key = memory[4*i : 4*i+10]
	}
	for at := range x.Ins {
		y := tx.Clone(x)
		key := append(y.Ins[at].Key, bytesOf(0xdd, 30)...)
		clear(key)
		clear(y.Ins[at].Key)
		want := copied(x)
		y.Ins[at].Key, want.Ins[at].Key = nil, nil
		if !equal(y, want) {
			t.Errorf("Key %d of a Clone shares memory with another one", at)
		}
	}
	if !slices.Equal(memory, someKey(40)) {
		t.Error("what was cloned was changed")
	}
}

// bytesOf is a byte n times.
func bytesOf(b byte, n int) []byte {
	return slices.Repeat([]byte{b}, n)
}

// P4.2: Base is one In, which is null, whatever else there is.
func TestBase(t *testing.T) {
	other := func(change func(p *api.Point)) api.Tx {
		x := based(4)
		change(&x.Ins[0].From)
		return x
	}
	for _, x := range []struct {
		what string
		t    api.Tx
		want bool
	}{
		{"the zero value", api.Tx{}, false},
		{"no Ins, but Outs", sized(0, 0, 2), false},
		{"one In", sized(1, 4, 1), false},
		{"two Ins", sized(2, 4, 1), false},
		{"a null In", based(4), true},
		{"a null In with no Key", based(0), true},
		{"a null In with a Key of three bytes", based(3), true},
		{"a null In with too long a Key", based(500), true},
		{"a null In and no Outs", api.Tx{Ins: []api.In{nullIn(4)}}, true},
		{"a null In and many Outs", api.Tx{Ins: []api.In{nullIn(4)}, Outs: make([]api.Out, 70)}, true},
		{"a null In of another Seq", api.Tx{Ins: []api.In{{From: spend.Null(), Seq: 3}}}, true},
		{"two null Ins", api.Tx{Ins: []api.In{nullIn(4), nullIn(4)}}, false},
		{"a null In ahead of another one", api.Tx{Ins: []api.In{nullIn(4), someIn(1, 4)}}, false},
		{"a null In behind another one", api.Tx{Ins: []api.In{someIn(1, 4), nullIn(4)}}, false},
		{"the zero In", api.Tx{Ins: make([]api.In, 1)}, false},
		{"N one less", other(func(p *api.Point) { p.N-- }), false},
		{"N of 0", other(func(p *api.Point) { p.N = 0 }), false},
		{"a Tx with a first bit", other(func(p *api.Point) { p.Tx[0] = 1 }), false},
		{"a Tx with a last bit", other(func(p *api.Point) { p.Tx[31] = 1 }), false},
	} {
		if got := tx.Base(x.t); got != x.want {
			t.Errorf("Base of %s: %v", x.what, got)
		}
	}
}

// P4.2, P0.4: a null In behind the length of the Ins is none, and one that is not is not seen behind one that is.
func TestBaseReadsNothingBehind(t *testing.T) {
	two := []api.In{nullIn(4), nullIn(4)}
	if tx.Base(api.Tx{Ins: two[:0]}) || !tx.Base(api.Tx{Ins: two[:1]}) {
		t.Error("Base looks behind the Ins")
	}
}

// P4.1, P4.2, P0.4: ID, Same, Base and Check change nothing of what they are handed, and read nothing behind its lengths.
func TestAskingChangesNothing(t *testing.T) {
	for what, x := range readable() {
		roomed, asItWas := roomy(x)
		if tx.ID(roomed) != digest.Twice(written(x)) {
			t.Errorf("%s, with other things behind its lists: another ID", what)
		}
		if !tx.Same(roomed, x) || !tx.Same(x, roomed) {
			t.Errorf("%s, with other things behind its lists: not the same", what)
		}
		if tx.Base(roomed) != tx.Base(x) || tx.Check(roomed) != tx.Check(x) {
			t.Errorf("%s, with other things behind its lists: another Base, or Check", what)
		}
		if !asItWas() {
			t.Errorf("%s was changed", what)
		}
	}
}
