// Package sum: sums of words: see doc/01-sum.md.
package sum

const most = 65535

// Add: P1.1.
func Add(sum uint16, s string) uint16 {
	even := len(s) - len(s)%2
	for i := 0; i < even; i += 2 {
		sum = plus(sum, word(s[i], s[i+1]))
	}
	if even < len(s) {
		sum = plus(sum, word(s[even], 0))
	}
	return sum
}

// Of: P1.1.
func Of(s string) uint16 {
	return less(Add(0, s))
}

// Fix: P1.2.
func Fix(check, old, now uint16) uint16 {
	return less(plus(plus(less(check), less(old)), now))
}

// Right: P1.1.
func Right(s string) bool {
	return Add(0, s) == most
}

func word(high, low byte) uint16 {
	return uint16(high)<<8 | uint16(low)
}

// plus adds in 32 bits, since 16 would lose what goes around.
func plus(a, b uint16) uint16 {
	n := uint32(a) + uint32(b)
	if n > most {
		n -= most
	}
	return uint16(n)
}

func less(n uint16) uint16 {
	return most - n
}
