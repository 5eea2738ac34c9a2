package bits

import "polder/api"

// And returns the bits that are set in a and in b.
func And(a, b api.BtBits) (api.BtBits, api.Errno) {
	return join(a, b, func(x, y uint64) uint64 { return x & y })
}

// Or returns the bits that are set in a, in b, or in both.
func Or(a, b api.BtBits) (api.BtBits, api.Errno) {
	return join(a, b, func(x, y uint64) uint64 { return x | y })
}

// Less returns the bits that are set in a but not in b.
func Less(a, b api.BtBits) (api.BtBits, api.Errno) {
	return join(a, b, func(x, y uint64) uint64 { return x &^ y })
}

// Flip returns the bits that are clear in b.
func Flip(b api.BtBits) (api.BtBits, api.Errno) {
	if e := Check(b); e != api.OK {
		return api.BtBits{}, e
	}
	all, _ := New(b.N, true) // b is valid, so N is in its range
	return Less(all, b)
}

// join returns bits whose words are made of those of a and b.
func join(a, b api.BtBits, word func(x, y uint64) uint64) (api.BtBits, api.Errno) {
	for _, operand := range [...]api.BtBits{a, b} {
		if e := Check(operand); e != api.OK {
			return api.BtBits{}, e
		}
	}
	if a.N != b.N {
		return api.BtBits{}, api.ErrArg
	}
	joined := api.BtBits{N: a.N, Words: make([]uint64, len(a.Words))}
	for w := range joined.Words {
		joined.Words[w] = word(a.Words[w], b.Words[w])
	}
	return joined, api.OK
}
