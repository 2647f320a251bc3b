package fq

import (
	"marlinspike/field"
	"marlinspike/nat"
)

// byQ is the field by q. Each call makes its own, as a package keeps nothing.
// It is told as a value, as a pointer to it would take memory every time.
func byQ() field.Field[[6]uint64] {
	f, _ := field.New[[6]uint64](Modulus())
	return *f
}

// of is the coordinate of a number, which nat's limits hold for, by q.
func of(number ...uint64) El {
	f := byQ()
	limbs, _ := f.From(number)
	return El{limbs}
}

// below is the number less than q by n.
func below(n uint64) []uint64 {
	number, _ := nat.Sub(Modulus(), nat.Of(n))
	return number
}

// part is how often n goes into q - 1.
func part(n uint64) []uint64 {
	often, _, _ := nat.DivMod(below(1), nat.Of(n))
	return often
}

// lesser is x or its negative, whichever is not great.
func (x El) lesser() El {
	if x.Great() {
		return x.Neg()
	}
	return x
}
