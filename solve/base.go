package solve

import "wellspring/vec"

// base is independent rows without data, each normed, and with nothing where one ahead of it leads. A system (layer 8) would do the same, but of vectors of some lengths alone, and a span is asked of any.
type base []lead

// lead is a row, and the place at which it leads: to look for that anew would take as long as the row is.
type lead struct {
	vec.Row
	at int
}

// baseOf: of which the same combinations can be made as of the rows' vectors, which all have one length.
func baseOf(rows []vec.Row) base {
	var b base
	for _, r := range rows {
		if rest := b.rest(r.Vec); !rest.Zero() {
			b = append(b, lead{rest.Norm(), rest.Lead()})
		}
	}
	return b
}

// rest: v less as much of each row as is left where that leads; in order, since what stands behind brings nothing back ahead. Only of a combination nothing is left.
func (b base) rest(v vec.Vec) vec.Row {
	rest := vec.Of(v, nil)
	for _, l := range b {
		if c := rest.At(l.at); c != 0 {
			rest, _ = rest.Less(c, l.Row) // all have one length, so that no error can be
		}
	}
	return rest
}
