package value_test

import (
	"math"
	"testing"

	"sargasso/api"
	"sargasso/value"
)

// part is one of a Rules' numbers, and what it may be.
type part struct {
	name        string
	of          func(r *api.Rules) *int
	least, most int
}

// parts are all numbers of a Rules.
func parts() []part {
	return []part{
		{"Halving", func(r *api.Rules) *int { return &r.Halving }, 1, 1048576},
		{"Maturity", func(r *api.Rules) *int { return &r.Maturity }, 0, 1000},
		{"PoolBytes", func(r *api.Rules) *int { return &r.PoolBytes }, 1, 16777216},
		{"RedoBytes", func(r *api.Rules) *int { return &r.RedoBytes }, 1, 16777216},
		{"LogMost", func(r *api.Rules) *int { return &r.LogMost }, 1, 65536},
		{"Ancestors", func(r *api.Rules) *int { return &r.Ancestors }, 1, 1000},
		{"AncestorBytes", func(r *api.Rules) *int { return &r.AncestorBytes }, 1, 16777216},
		{"Descendants", func(r *api.Rules) *int { return &r.Descendants }, 1, 1000},
		{"DescendantBytes", func(r *api.Rules) *int { return &r.DescendantBytes }, 1, 16777216},
	}
}

// bases are Rules that are right: all least, all greatest, some between.
func bases() []api.Rules {
	var least, most api.Rules
	for _, p := range parts() {
		*p.of(&least), *p.of(&most) = p.least, p.most
	}
	return []api.Rules{least, most, {
		Halving: 150, Maturity: 100, PoolBytes: 100000, RedoBytes: 50000, LogMost: 500,
		Ancestors: 25, AncestorBytes: 20000, Descendants: 26, DescendantBytes: 21000,
	}}
}

// P15.1: each number alone may be what stands between its bounds, they themselves too, and nothing else.
func TestRulesOfEachNumber(t *testing.T) {
	for _, base := range bases() {
		if err := value.Rules(base); err != nil {
			t.Errorf("%+v: %v", base, err)
		}
		for _, p := range parts() {
			for _, n := range []int{p.least, p.least + 1, 500, p.most - 1, p.most} {
				r := base
				*p.of(&r) = n
				if err := value.Rules(r); err != nil {
					t.Errorf("%s of %d: %v", p.name, n, err)
				}
			}
			for _, n := range []int{p.least - 1, p.least - 2, -p.most, -1 << 32, 1<<32 + 1, -1<<32 + 1, math.MinInt, p.most + 1, p.most + 2, 2 * p.most, 1 << 32, math.MaxInt} {
				r := base
				*p.of(&r) = n
				if err := value.Rules(r); err != api.ErrRange {
					t.Errorf("%s of %d: %v", p.name, n, err)
				}
			}
		}
	}
}

// P15.1: two numbers that are wrong don't make up for each other; all of them, and those of the zero value, are wrong too.
func TestRulesOfMoreThanOne(t *testing.T) {
	for _, base := range bases() {
		for _, p := range parts() {
			for _, q := range parts() {
				r := base
				*p.of(&r), *q.of(&r) = p.least-1, q.most+1
				if err := value.Rules(r); err != api.ErrRange {
					t.Errorf("%s too low, %s too great: %v", p.name, q.name, err)
				}
			}
		}
	}
	var low, great api.Rules
	for _, p := range parts() {
		*p.of(&low), *p.of(&great) = p.least-1, p.most+1
	}
	for _, r := range []api.Rules{{}, low, great} {
		if err := value.Rules(r); err != api.ErrRange {
			t.Errorf("%+v: %v", r, err)
		}
	}
}

// P15.1: no number is held against another one.
func TestRulesOfUnlikeNumbers(t *testing.T) {
	least, most := bases()[0], bases()[1]
	for _, p := range parts() {
		for _, x := range [][2]api.Rules{{least, most}, {most, least}} {
			r := x[0]
			*p.of(&r) = *p.of(&x[1])
			if err := value.Rules(r); err != nil {
				t.Errorf("%s of the others' other end: %v", p.name, err)
			}
		}
	}
}
