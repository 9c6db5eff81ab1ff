package compact_test

import (
	"bytes"
	"math"
	"slices"
	"testing"

	"sargasso/api"
	"sargasso/compact"
)

// written is a number and the bytes that Put writes it in.
type written struct {
	n    uint64
	want []byte
}

// edges are the least and the greatest number of each width, and some between.
func edges() []written {
	return []written{
		{0, []byte{0}},
		{1, []byte{1}},
		{252, []byte{252}},
		{253, []byte{253, 253, 0}},
		{254, []byte{253, 254, 0}},
		{255, []byte{253, 255, 0}},
		{256, []byte{253, 0, 1}},
		{0x1234, []byte{253, 0x34, 0x12}},
		{1<<16 - 1, []byte{253, 255, 255}},
		{1 << 16, []byte{254, 0, 0, 1, 0}},
		{0x12345678, []byte{254, 0x78, 0x56, 0x34, 0x12}},
		{1<<32 - 1, []byte{254, 255, 255, 255, 255}},
		{1 << 32, []byte{255, 0, 0, 0, 0, 1, 0, 0, 0}},
		{0x123456789abcdef0, []byte{255, 0xf0, 0xde, 0xbc, 0x9a, 0x78, 0x56, 0x34, 0x12}},
		{math.MaxUint64, []byte{255, 255, 255, 255, 255, 255, 255, 255, 255}},
	}
}

// P2.1: Put writes the fewest bytes behind b, and Len tells how many.
func TestPutAtTheEdges(t *testing.T) {
	for _, x := range edges() {
		if got := compact.Put(nil, x.n); !bytes.Equal(got, x.want) {
			t.Errorf("Put of %d behind nothing: %v", x.n, got)
		}
		if got := compact.Put([]byte{}, x.n); !bytes.Equal(got, x.want) {
			t.Errorf("Put of %d behind the empty list: %v", x.n, got)
		}
		if got := compact.Put([]byte{7, 8}, x.n); !bytes.Equal(got, append([]byte{7, 8}, x.want...)) {
			t.Errorf("Put of %d behind two bytes: %v", x.n, got)
		}
		if got := compact.Len(x.n); got != len(x.want) {
			t.Errorf("Len of %d: %d", x.n, got)
		}
	}
}

// P2.1: Put and Len of every number that has one or two bytes behind a mark, and of those round each power of two.
func TestPutAndLenAgree(t *testing.T) {
	check := func(n uint64) {
		b := compact.Put(nil, n)
		r := compact.Read(b)
		if len(b) != compact.Len(n) || r.Num(n) != n || r.Err() != nil || r.Left() != 0 {
			t.Fatalf("%d: %v, Len %d, Err %v", n, b, compact.Len(n), r.Err())
		}
	}
	for n := range uint64(1<<16 + 10) {
		check(n)
	}
	for shift := range 64 {
		check(1<<shift - 1)
		check(1 << shift)
		check(1<<shift + 1)
	}
}

// P2.1: Four and Eight write b, then all bytes of n, the lowest first.
func TestFourAndEight(t *testing.T) {
	for _, x := range []struct {
		n    uint32
		want []byte
	}{
		{0, []byte{0, 0, 0, 0}},
		{1, []byte{1, 0, 0, 0}},
		{0x01020304, []byte{4, 3, 2, 1}},
		{math.MaxUint32, []byte{255, 255, 255, 255}},
	} {
		if got := compact.Four(nil, x.n); !bytes.Equal(got, x.want) {
			t.Errorf("Four of %d: %v", x.n, got)
		}
		if got := compact.Four([]byte{9, 8}, x.n); !bytes.Equal(got, append([]byte{9, 8}, x.want...)) {
			t.Errorf("Four of %d behind two bytes: %v", x.n, got)
		}
	}
	for _, x := range []written{
		{0, []byte{0, 0, 0, 0, 0, 0, 0, 0}},
		{1, []byte{1, 0, 0, 0, 0, 0, 0, 0}},
		{0x0102030405060708, []byte{8, 7, 6, 5, 4, 3, 2, 1}},
		{1 << 32, []byte{0, 0, 0, 0, 1, 0, 0, 0}},
		{math.MaxUint64, []byte{255, 255, 255, 255, 255, 255, 255, 255}},
	} {
		if got := compact.Eight(nil, x.n); !bytes.Equal(got, x.want) {
			t.Errorf("Eight of %d: %v", x.n, got)
		}
		if got := compact.Eight([]byte{9, 8}, x.n); !bytes.Equal(got, append([]byte{9, 8}, x.want...)) {
			t.Errorf("Eight of %d behind two bytes: %v", x.n, got)
		}
	}
}

// writers are the calls that write a number behind b.
func writers() map[string]func(b []byte, n uint64) []byte {
	return map[string]func(b []byte, n uint64) []byte{
		"Put":   compact.Put,
		"Four":  func(b []byte, n uint64) []byte { return compact.Four(b, uint32(n)) },
		"Eight": compact.Eight,
	}
}

// P2.1, P0.4: b is neither changed nor shared with an answer; what lies behind its length is neither read nor written.
func TestWritersLeaveWhatIsHandedIn(t *testing.T) {
	for name, write := range writers() {
		for _, n := range []uint64{5, 300, 1 << 20, 1 << 40} {
			memory := bytes.Repeat([]byte{0xee}, 40)
			before := slices.Clone(memory)
			got := write(memory[:3], n)
			if !bytes.Equal(got, write([]byte{0xee, 0xee, 0xee}, n)) {
				t.Errorf("%s of %d, with others behind b: %v", name, n, got)
			}
			if !bytes.Equal(memory, before) {
				t.Errorf("%s of %d wrote into the memory that it was handed", name, n)
			}
			want := slices.Clone(got)
			clear(memory)
			if !bytes.Equal(got, want) {
				t.Errorf("%s of %d answered the memory that it was handed", name, n)
			}
			whole := got[:cap(got)]
			for i := range whole {
				whole[i] = 0x11
			}
			if !bytes.Equal(memory, make([]byte, 40)) {
				t.Errorf("%s of %d: a write into the answer is seen in what was handed in", name, n)
			}
		}
	}
}

// P2.1, P0.4: two answers of one b share no memory, nor their spare room.
func TestWritersAnswerNewMemory(t *testing.T) {
	for name, write := range writers() {
		for _, n := range []uint64{5, 300, 1 << 20, 1 << 40} {
			room := append(make([]byte, 0, 100), 1)
			first, second := write(room, n), write(room, n+1)
			want := slices.Clone(second)
			for i := range first[:cap(first)] {
				first[:cap(first)][i] = 0x22
			}
			if !bytes.Equal(second, want) {
				t.Errorf("%s of %d: two answers share memory", name, n)
			}
			third := write(second, n)
			fourth := write(second, n+1)
			if !bytes.Equal(third, write(want, n)) || !bytes.Equal(fourth, write(want, n+1)) {
				t.Errorf("%s of %d: two answers behind an answer share its spare room", name, n)
			}
		}
	}
}

// P2.1: Sum adds all; it is none where they, or one of them, are more than MaxMoney.
func TestSum(t *testing.T) {
	const most = api.MaxMoney
	for _, x := range []struct {
		l    []uint64
		want uint64
		is   bool
	}{
		{nil, 0, true},
		{[]uint64{}, 0, true},
		{[]uint64{0}, 0, true},
		{[]uint64{0, 0, 0}, 0, true},
		{[]uint64{7}, 7, true},
		{[]uint64{1, 20, 300}, 321, true},
		{[]uint64{most}, most, true},
		{[]uint64{0, most, 0}, most, true},
		{[]uint64{most - 1, 1}, most, true},
		{[]uint64{1, most - 1}, most, true},
		{[]uint64{most / 2, most / 4, most / 4}, most, true},
		{[]uint64{most, 1}, 0, false},
		{[]uint64{1, most}, 0, false},
		{[]uint64{most, most}, 0, false},
		{[]uint64{most / 2, most / 2, 1}, 0, false},
		{[]uint64{most + 1}, 0, false},
		{[]uint64{0, most + 1}, 0, false},
		{[]uint64{most + 1, 0}, 0, false},
		{[]uint64{math.MaxUint64}, 0, false},
		{[]uint64{math.MaxUint64, 1}, 0, false},
		{[]uint64{1, math.MaxUint64}, 0, false},
		{[]uint64{math.MaxUint64, 2, 3}, 0, false},
		{[]uint64{5, math.MaxUint64 - 4}, 0, false},
		{[]uint64{1 << 63, 1 << 63}, 0, false},
		{[]uint64{1 << 62, 1 << 62, 1 << 62, 1 << 62, 9}, 0, false},
	} {
		before := slices.Clone(x.l)
		if got, is := compact.Sum(x.l...); got != x.want || is != x.is {
			t.Errorf("Sum of %v: %d, %v", x.l, got, is)
		}
		if !slices.Equal(x.l, before) {
			t.Errorf("Sum changed %v to %v", before, x.l)
		}
	}
	if got, is := compact.Sum(); got != 0 || !is {
		t.Errorf("Sum of no amounts: %d, %v", got, is)
	}
	if got, is := compact.Sum(2, 3, 4); got != 9 || !is {
		t.Errorf("Sum of 2, 3, 4: %d, %v", got, is)
	}
}

// P2.1: a sum that would go round many times is none.
func TestSumOfMany(t *testing.T) {
	l := slices.Repeat([]uint64{api.MaxMoney}, 1<<14)
	if got, is := compact.Sum(l...); got != 0 || is {
		t.Errorf("Sum of many: %d, %v", got, is)
	}
	if got, is := compact.Sum(slices.Repeat([]uint64{1}, 1<<14)...); got != 1<<14 || !is {
		t.Errorf("Sum of many ones: %d, %v", got, is)
	}
}
