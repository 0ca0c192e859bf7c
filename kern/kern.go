// Package kern is layer 2, many bytes at once: see shared/doc/02-kern.md.
package kern

import (
	"slices"

	"wellspring/api"
	"wellspring/field"
)

// table has the products of one byte with the low halves and the high halves of all others: the field multiplies bit by bit, which would be done over and over along a row.
type table struct{ low, high [16]byte }

// tableOf: the products of c with single bits are asked of the field; all others are sums of these.
func tableOf(c byte) table {
	var t table
	for i := range 4 {
		bit := 1 << i
		low, high := field.Mul(c, byte(bit)), field.Mul(c, byte(bit<<4))
		for below := range bit {
			t.low[bit+below] = field.Add(low, t.low[below])
			t.high[bit+below] = field.Add(high, t.high[below])
		}
	}
	return t
}

// add: c times the row is added to what stands in sum, which is as long.
func add(sum []byte, c byte, row []byte) {
	t := tableOf(c)
	for i, b := range row {
		sum[i] ^= t.low[b&15] ^ t.high[b>>4]
	}
}

// Scale: each byte times c.
func Scale(c byte, row []byte) []byte {
	product := make([]byte, len(row))
	add(product, c, row)
	return product
}

// Axpy: c times x, and y, added.
func Axpy(c byte, x, y []byte) ([]byte, api.Errno) {
	if len(x) != len(y) {
		return nil, api.ErrSize
	}
	sum := make([]byte, len(y))
	copy(sum, y)
	add(sum, c, x)
	return sum, api.OK
}

// Sum: all rows added, place by place.
func Sum(rows ...[]byte) ([]byte, api.Errno) {
	sum, err := noughts(rows)
	if err != api.OK {
		return nil, err
	}
	for _, row := range rows {
		for i, b := range row {
			sum[i] = field.Add(sum[i], b)
		}
	}
	return sum, api.OK
}

// Comb: the sum of each row times its byte of cs.
func Comb(cs []byte, rows ...[]byte) ([]byte, api.Errno) {
	if len(cs) != len(rows) {
		return nil, api.ErrSize
	}
	sum, err := noughts(rows)
	if err != api.OK {
		return nil, err
	}
	for i, row := range rows {
		add(sum, cs[i], row)
	}
	return sum, api.OK
}

// noughts: a row of them, as long as each of the rows is; none of no rows.
func noughts(rows [][]byte) ([]byte, api.Errno) {
	if len(rows) == 0 {
		return nil, api.OK
	}
	length := len(rows[0])
	if slices.ContainsFunc(rows, func(row []byte) bool { return len(row) != length }) {
		return nil, api.ErrSize
	}
	return make([]byte, length), api.OK
}

// Dot: the sum of the products, place by place.
func Dot(a, b []byte) (byte, api.Errno) {
	if len(a) != len(b) {
		return 0, api.ErrSize
	}
	sum := byte(0)
	for i := range a {
		sum = field.Add(sum, field.Mul(a[i], b[i]))
	}
	return sum, api.OK
}

// Zero: are all bytes 0?
func Zero(row []byte) bool {
	return !slices.ContainsFunc(row, func(b byte) bool { return b != 0 })
}
