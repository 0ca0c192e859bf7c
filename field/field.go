// Package field is layer 1, bytes that can be divided: see shared/doc/01-field.md.
package field

import "wellspring/api"

// tail is what x^8 comes to: the modulus, 11D (base 16), without its highest bit.
const tail = 0x1D

// order is how many bytes but 0 there are: each of them, taken so many times, is 1.
const order = 255

// Add: the sum of all, 0 of none.
func Add(l ...byte) byte {
	sum := byte(0)
	for _, b := range l {
		sum ^= b
	}
	return sum
}

// Mul: the product of all, 1 of none.
func Mul(l ...byte) byte {
	product := byte(1)
	for _, b := range l {
		product = times(product, b)
	}
	return product
}

// times: the product of two, bit by bit: a, times x to the i, for each bit i that b has.
func times(a, b byte) byte {
	product := byte(0)
	for i := range 8 {
		if b>>i&1 == 1 {
			product ^= a
		}
		a = twice(a)
	}
	return product
}

// twice: the product with x. What is shifted out is x^8, so its remainder comes back.
func twice(a byte) byte {
	if a>>7 == 1 {
		return a<<1 ^ tail
	}
	return a << 1
}

// Inv: the byte whose product with a is 1; 0 has none.
func Inv(a byte) (byte, api.Errno) {
	if a == 0 {
		return 0, api.ErrZero
	}
	return power(a, order-1), api.OK
}

// Div: the byte whose product with b is a; there is none for a b of 0.
func Div(a, b byte) (byte, api.Errno) {
	inverse, err := Inv(b)
	if err != api.OK {
		return 0, err
	}
	return times(a, inverse), api.OK
}

// Pow: a taken n times; below 0 its inverse taken -n times, which 0 hasn't.
func Pow(a byte, n int) (byte, api.Errno) {
	switch {
	case a != 0:
		return power(a, remainder(n)), api.OK
	case n < 0:
		return 0, api.ErrZero
	case n == 0:
		return 1, api.OK
	}
	return 0, api.OK
}

// Exp: 2 to the n modulo 255.
func Exp(n int) byte {
	return power(2, remainder(n))
}

// Log: the number from 0 to 254 whose Exp is a. 0 alone is no power of 2.
func Log(a byte) (int, api.Errno) {
	b := byte(1)
	for n := range order {
		if a == b {
			return n, api.OK
		}
		b = twice(b)
	}
	return 0, api.ErrZero
}

// remainder: n modulo order, from 0 on, below 0, too. (-n isn't looked for: the least int has none.)
func remainder(n int) int {
	return (n%order + order) % order
}

// power: a taken n times, n from 0 on, by squares, a bit of n for each.
func power(a byte, n int) byte {
	product := byte(1)
	for ; n > 0; n >>= 1 {
		if n&1 == 1 {
			product = times(product, a)
		}
		a = times(a, a)
	}
	return product
}
