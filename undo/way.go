package undo

import (
	"slices"

	"sargasso/api"
	"sargasso/coins"
)

// way is what was done to a set since the way began, so that an error can leave the set as it was there.
type way struct {
	set   *coins.Set
	steps []step
}

// step is a coin that was spent, or else added.
type step struct {
	coin  api.Spent
	spent bool
}

// spend is the set's Spend.
func (w *way) spend(p api.Point) (api.Money, error) {
	c, err := w.set.Spend(p)
	if err == nil {
		w.steps = append(w.steps, step{coin: api.Spent{At: p, Coin: c}, spent: true})
	}
	return c, err
}

// add is the set's Add.
func (w *way) add(p api.Point, c api.Money) error {
	err := w.set.Add(p, c)
	if err == nil {
		w.steps = append(w.steps, step{coin: api.Spent{At: p, Coin: c}})
	}
	return err
}

// goBack undoes all steps, the last one first. None can fail: what was spent could stand where it stood, what was added stands there.
func (w *way) goBack() {
	for _, s := range slices.Backward(w.steps) {
		if s.spent {
			w.set.Add(s.coin.At, s.coin.Coin)
		} else {
			w.set.Spend(s.coin.At)
		}
	}
}
