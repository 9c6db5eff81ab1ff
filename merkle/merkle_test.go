package merkle_test

import (
	"crypto/sha256"
	"encoding/hex"
	"math"
	"slices"
	"testing"

	"sargasso/api"
	"sargasso/merkle"
)

// most is the most leaves that Climb comes to.
const most = 1 << 20

// leaves are n digests, no two of them the same.
func leaves(n int) []api.Hash {
	l := make([]api.Hash, n)
	for i := range l {
		l[i] = sha256.Sum256([]byte{byte(i), byte(i >> 8), byte(i >> 16)})
	}
	return l
}

// twice is the digest of the digest of a's and b's bytes, by the library's means.
func twice(a, b api.Hash) api.Hash {
	once := sha256.Sum256(slices.Concat(a[:], b[:]))
	return sha256.Sum256(once[:])
}

// rows are all rows from l up to the root: each odd one but the last has its last one doubled.
func rows(l []api.Hash) [][]api.Hash {
	row := slices.Clone(l)
	all := [][]api.Hash{row}
	for len(row) > 1 {
		if len(row)%2 == 1 {
			row = append(row, row[len(row)-1])
			all[len(all)-1] = row
		}
		var next []api.Hash
		for ; len(row) > 0; row = row[2:] {
			next = append(next, twice(row[0], row[1]))
		}
		row = next
		all = append(all, row)
	}
	return all
}

// pathIn is what stands beside the way from that place of the lowest row to the root.
func pathIn(all [][]api.Hash, at int) []api.Hash {
	var path []api.Hash
	for _, row := range all[:len(all)-1] {
		if at%2 == 0 {
			path = append(path, row[at+1])
		} else {
			path = append(path, row[at-1])
		}
		at /= 2
	}
	return path
}

// counts are counts of leaves: all small ones, and those beside a full row.
func counts() []int {
	var all []int
	for n := 1; n <= 40; n++ {
		all = append(all, n)
	}
	return append(all, 63, 64, 65, 96, 97, 127, 128, 129, 200, 255, 256, 257, 300)
}

// known reads a digest that is written with its last byte first.
func known(t *testing.T, text string) (h api.Hash) {
	t.Helper()
	b, err := hex.DecodeString(text)
	if err != nil || len(b) != len(h) {
		t.Fatal(text, err)
	}
	slices.Reverse(b)
	return api.Hash(b)
}

// P6.1: the root of none is 32 bytes of 0, of one itself.
func TestRootOfNoneAndOne(t *testing.T) {
	if got := merkle.Root(); got != (api.Hash{}) {
		t.Errorf("of none: %x", got)
	}
	if got := merkle.Root([]api.Hash{}...); got != (api.Hash{}) {
		t.Errorf("of an empty list: %x", got)
	}
	if got := merkle.Root(leaves(9)[:0]...); got != (api.Hash{}) {
		t.Errorf("of an empty list with others behind it: %x", got)
	}
	for _, h := range append(leaves(3), api.Hash{}, api.Hash{31: 1}) {
		if got := merkle.Root(h); got != h {
			t.Errorf("of %x alone: %x", h, got)
		}
	}
}

// P6.1: roots of two to seven, written out.
func TestRootWrittenOut(t *testing.T) {
	l := leaves(7)
	ab, cd, ef := twice(l[0], l[1]), twice(l[2], l[3]), twice(l[4], l[5])
	cc, ee, gg := twice(l[2], l[2]), twice(l[4], l[4]), twice(l[6], l[6])
	for n, want := range map[int]api.Hash{
		2: ab,
		3: twice(ab, cc),
		4: twice(ab, cd),
		5: twice(twice(ab, cd), twice(ee, ee)),
		6: twice(twice(ab, cd), twice(ef, ef)),
		7: twice(twice(ab, cd), twice(ef, gg)),
	} {
		if got := merkle.Root(l[:n]...); got != want {
			t.Errorf("of %d: %x, not %x", n, got, want)
		}
	}
}

// P6.1: roots that are known elsewhere, of two and of four.
func TestRootsKnownElsewhere(t *testing.T) {
	for want, l := range map[string][]string{
		"7dac2c5666815c17a3b36427de37bb9d2e2c5ccec3f8633eb91a4205cb4c10ff": {
			"b1fea52486ce0c62bb442b530a3f0132b826c74e473d1f2c220bfa78111c5082",
			"f4184fc596403b9d638783cf57adfe4c75c605f6356fbc91338530e9831e9e16",
		},
		"f3e94742aca4b5ef85488dc37c06c3282295ffec960994b2c0d5ac2a25a95766": {
			"8c14f0db3df150123e6f3dbbf30f8b955a8249b62ac1d1ff16284aefa3d06d87",
			"fff2525b8931402dd09222c50775608f75787bd2b87e56995a7bdd30f79702c4",
			"6359f0868171b1d194cbee1af2f16ea598ae8fad666d9b012c8ed2b79a236ec4",
			"e9a66845e05d5abc0ad04ec80f774a7e585c6e8db975962d069a522137b80c1d",
		},
	} {
		var hashes []api.Hash
		for _, text := range l {
			hashes = append(hashes, known(t, text))
		}
		if got := merkle.Root(hashes...); got != known(t, want) {
			t.Errorf("of %d: %x, not %s", len(l), got, want)
		}
	}
}

// P6.1: roots of each count, held against rows made by the library's digests.
func TestRootOfMany(t *testing.T) {
	for _, n := range counts() {
		l := leaves(n)
		all := rows(l)
		if got, want := merkle.Root(l...), all[len(all)-1][0]; got != want {
			t.Errorf("of %d: %x, not %x", n, got, want)
		}
	}
}

// P6.1: the last of an odd row counts as if it stood there twice; each other digest, and their order, counts.
func TestRootOfOthers(t *testing.T) {
	for _, n := range []int{3, 5, 7, 9, 199} {
		l := leaves(n)
		if merkle.Root(l...) != merkle.Root(append(slices.Clone(l), l[n-1])...) {
			t.Errorf("of %d, and with the last one once more", n)
		}
	}
	for n := 2; n <= 20; n++ {
		root := merkle.Root(leaves(n)...)
		for at := range n {
			l := leaves(n)
			l[at][31] ^= 1
			if merkle.Root(l...) == root {
				t.Errorf("of %d: number %d does not count", n, at)
			}
			l = leaves(n)
			l[at], l[(at+1)%n] = l[(at+1)%n], l[at]
			if merkle.Root(l...) == root {
				t.Errorf("of %d: the order from number %d on does not count", n, at)
			}
		}
	}
}

// P6.1: the path of one alone has no steps, and is one.
func TestPathOfOne(t *testing.T) {
	if got, is := merkle.Path(0, leaves(1)...); len(got) > 0 || !is {
		t.Errorf("%x, %v", got, is)
	}
}

// P6.1: paths in three and in six, written out: from below, the last of an odd row beside itself.
func TestPathWrittenOut(t *testing.T) {
	l := leaves(6)
	ab, cd, ef := twice(l[0], l[1]), twice(l[2], l[3]), twice(l[4], l[5])
	cc, abcd, efef := twice(l[2], l[2]), twice(ab, cd), twice(ef, ef)
	for _, x := range []struct {
		at, n int
		want  []api.Hash
	}{
		{0, 2, []api.Hash{l[1]}},
		{1, 2, []api.Hash{l[0]}},
		{0, 3, []api.Hash{l[1], cc}},
		{1, 3, []api.Hash{l[0], cc}},
		{2, 3, []api.Hash{l[2], ab}},
		{0, 6, []api.Hash{l[1], cd, efef}},
		{1, 6, []api.Hash{l[0], cd, efef}},
		{2, 6, []api.Hash{l[3], ab, efef}},
		{3, 6, []api.Hash{l[2], ab, efef}},
		{4, 6, []api.Hash{l[5], ef, abcd}},
		{5, 6, []api.Hash{l[4], ef, abcd}},
	} {
		if got, is := merkle.Path(x.at, l[:x.n]...); !slices.Equal(got, x.want) || !is {
			t.Errorf("number %d of %d: %x, %v, not %x", x.at, x.n, got, is, x.want)
		}
	}
}

// P6.1: paths of each place of each count, held against rows made by the library's digests.
func TestPathOfMany(t *testing.T) {
	for _, n := range counts() {
		l := leaves(n)
		all := rows(l)
		for at := range l {
			if got, is := merkle.Path(at, l...); !slices.Equal(got, pathIn(all, at)) || !is {
				t.Fatalf("number %d of %d: %d steps, %v", at, n, len(got), is)
			}
		}
	}
}

// P6.1: at a place that is none there is no path.
func TestPathOfNoPlace(t *testing.T) {
	for _, n := range append(counts(), 0) {
		for _, at := range []int{-1, -2, -n - 1, math.MinInt, n, n + 1, 2 * n, 2*n + 1, math.MaxInt} {
			if at >= 0 && at < n {
				continue
			}
			if got, is := merkle.Path(at, leaves(n)...); len(got) > 0 || is {
				t.Errorf("number %d of %d: %x, %v", at, n, got, is)
			}
		}
	}
}

// P6.1, P0.4: what Root and Path are handed is not changed, and what lies behind its length is not read.
func TestListIsLeftAlone(t *testing.T) {
	for _, n := range []int{1, 2, 3, 4, 5, 8, 13} {
		memory := leaves(n + 5)
		before := slices.Clone(memory)
		all := rows(leaves(n))
		if merkle.Root(memory[:n]...) != all[len(all)-1][0] {
			t.Errorf("the root of %d with others behind them", n)
		}
		for at := range n {
			if got, _ := merkle.Path(at, memory[:n]...); !slices.Equal(got, pathIn(all, at)) {
				t.Errorf("the path of number %d of %d with others behind them", at, n)
			}
		}
		if !slices.Equal(memory, before) {
			t.Errorf("of %d: what was handed in is changed", n)
		}
	}
}

// P6.1, P0.4: each path is new memory, its spare room too.
func TestPathIsNewMemory(t *testing.T) {
	for _, n := range []int{1, 2, 3, 5, 8, 13} {
		l := leaves(n)
		for at := range l {
			want := pathIn(rows(leaves(n)), at)
			first, _ := merkle.Path(at, l...)
			second, _ := merkle.Path(at, l...)
			clear(first[:cap(first)])
			third, _ := merkle.Path(at, l...)
			if !slices.Equal(second, want) || !slices.Equal(third, want) || !slices.Equal(l, leaves(n)) {
				t.Errorf("number %d of %d: a write into one path is seen elsewhere", at, n)
			}
			clear(l)
			if !slices.Equal(second, want) {
				t.Errorf("number %d of %d: a write into the list is seen in its path", at, n)
			}
			copy(l, leaves(n))
		}
	}
}
