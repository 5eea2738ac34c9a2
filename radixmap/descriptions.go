package radixmap

import "polder/api"

// Where the parts of a packed description begin: its bit 0 is always set, so that it is not 0.
const (
	ownerBit = 1
	stateBit = 13
	stampBit = 17
	hugeBit  = 57
)

// Pack returns a description as a number.
func Pack(d api.RmDesc) (uint64, api.Errno) {
	if d.Owner < 0 || d.Owner > api.MaxRmOwner || d.State < 0 || d.State > api.MaxRmState || d.Stamp < 0 || d.Stamp > api.MaxStamp {
		return 0, api.ErrArg
	}
	word := 1 | uint64(d.Owner)<<ownerBit | uint64(d.State)<<stateBit | uint64(d.Stamp)<<stampBit
	if d.Huge {
		word |= 1 << hugeBit
	}
	return word, api.OK
}

// Unpack returns the description that a number stands for.
func Unpack(x uint64) (api.RmDesc, api.Errno) {
	d := api.RmDesc{
		Owner: int(part(x, ownerBit, stateBit)),
		State: int(part(x, stateBit, stampBit)),
		Stamp: int64(part(x, stampBit, hugeBit)),
		Huge:  part(x, hugeBit, hugeBit+1) == 1,
	}
	// Of a number that is no packed description, some bits are lost here, or the stamp is too great.
	if word, e := Pack(d); e != api.OK || word != x {
		return api.RmDesc{}, api.ErrForm
	}
	return d, api.OK
}

// part returns the bits of x from from on, below to, as a number.
func part(x uint64, from, to int) uint64 {
	return x >> from & (1<<(to-from) - 1)
}
