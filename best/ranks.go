package best

import (
	"sargasso/api"
	"sargasso/digest"
)

// rank is what a block is held against others by.
type rank struct {
	work uint64 // of its whole branch
	id   api.Hash
}

// over tells whether a counts more than b: by more work, or by the lesser id where it is as much.
func (a rank) over(b rank) bool {
	if a.work != b.work {
		return a.work > b.work
	}
	return digest.Less(a.id, b.id)
}

// ranks is a heap, as container/heap has them: the one that is over all others is its first.
type ranks struct {
	list []rank
	over func(a, b rank) bool
}

// Len is how many there are.
func (r *ranks) Len() int { return len(r.list) }

// Less tells whether the one at i stands ahead of the one at j.
func (r *ranks) Less(i, j int) bool { return r.over(r.list[i], r.list[j]) }

// Swap puts the one at i and the one at j in each other's place.
func (r *ranks) Swap(i, j int) { r.list[i], r.list[j] = r.list[j], r.list[i] }

// Push puts x, a rank, behind the last one.
func (r *ranks) Push(x any) { r.list = append(r.list, x.(rank)) }

// Pop takes the last one away.
func (r *ranks) Pop() any {
	last := len(r.list) - 1
	x := r.list[last]
	r.list = r.list[:last]
	return x
}
