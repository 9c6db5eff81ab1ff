package tx

import (
	"sargasso/api"
	"sargasso/compact"
	"sargasso/spend"
)

// leastBaseKey is how long the Key of a Base is at least: it tells the height.
const leastBaseKey = 4

// Check is what is wrong with t, as far as t alone can tell it.
func Check(t api.Tx) error {
	switch {
	case !between(len(t.Ins), 1, api.MaxIns), !between(len(t.Outs), 1, api.MaxOuts):
		return api.ErrMany
	case Size(t) > api.MaxTx:
		return api.ErrLong
	case longestKey(t) > api.MaxKey:
		return api.ErrKey
	case !addsUp(t):
		return api.ErrValue
	case spendsTwice(t):
		return api.ErrTwice
	case !basesRight(t):
		return api.ErrBase
	}
	return nil
}

// between tells whether n is from least to most.
func between(n, least, most int) bool {
	return least <= n && n <= most
}

// longestKey is how long the longest Key of t's Ins is.
func longestKey(t api.Tx) (longest int) {
	for _, in := range t.Ins {
		longest = max(longest, len(in.Key))
	}
	return longest
}

// addsUp tells whether t's amounts together are one that can be.
func addsUp(t api.Tx) bool {
	values := make([]uint64, 0, len(t.Outs))
	for _, out := range t.Outs {
		values = append(values, out.Value)
	}
	_, is := compact.Sum(values...)
	return is
}

// spendsTwice tells whether two of t's Ins have one From.
func spendsTwice(t api.Tx) bool {
	froms := make(map[api.Point]struct{}, len(t.Ins))
	for _, in := range t.Ins {
		froms[in.From] = struct{}{}
	}
	return len(froms) < len(t.Ins)
}

// basesRight tells whether an In that spends nothing is there only where it may be, with a Key that is long enough.
func basesRight(t api.Tx) bool {
	if Base(t) {
		return len(t.Ins[0].Key) >= leastBaseKey
	}
	for _, in := range t.Ins {
		if spend.IsNull(in.From) {
			return false
		}
	}
	return true
}
