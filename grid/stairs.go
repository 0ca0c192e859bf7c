package grid

import "wellspring/vec"

// stairs are rows each of which leads with a 1, at its own place among them; at the other places stands the zero row.
type stairs []vec.Row

// take: from each stair down to the next, as much of r is taken away as it leads with there; what is left of it becomes the stair of the first place that has none. Is anything left?
func (s stairs) take(r vec.Row) bool {
	for lead := r.Lead(); lead >= 0; lead = r.Lead() {
		if s[lead].Vec == nil {
			s[lead] = r.Norm()
			return true
		}
		r = less(r, s[lead], lead)
	}
	return false
}

// less: r less as much of o as r has at the place i. All rows of stairs have the same size, so that no error can be.
func less(r, o vec.Row, i int) vec.Row {
	rest, _ := r.Less(r.At(i), o)
	return rest
}

// carried: what the rows carry, once each of full stairs is 0 but for the 1 with which it leads. It goes from the last one up: behind its 1 the last one has nothing to take away.
func (s stairs) carried() [][]byte {
	data := make([][]byte, len(s))
	for lead := len(s) - 1; lead >= 0; lead-- {
		for i := range lead {
			s[i] = less(s[i], s[lead], lead)
		}
		data[lead] = s[lead].Data
	}
	return data
}
