package value

import "sargasso/api"

// The greatest numbers that Rules lets through; that of Halving is api.MaxHeight.
const (
	mostMaturity = 1000
	mostBytes    = 1 << 24
	mostLog      = 1 << 16
	mostHanging  = 1000
)

// bound is a number with the least and the greatest that it may be.
type bound struct {
	n, least, most int
}

// Rules is api.ErrRange where one of r's numbers is not one that it may be.
func Rules(r api.Rules) error {
	for _, b := range []bound{
		{r.Halving, 1, api.MaxHeight},
		{r.Maturity, 0, mostMaturity},
		{r.PoolBytes, 1, mostBytes},
		{r.RedoBytes, 1, mostBytes},
		{r.LogMost, 1, mostLog},
		{r.Ancestors, 1, mostHanging},
		{r.AncestorBytes, 1, mostBytes},
		{r.Descendants, 1, mostHanging},
		{r.DescendantBytes, 1, mostBytes},
	} {
		if b.n < b.least || b.n > b.most {
			return api.ErrRange
		}
	}
	return nil
}
