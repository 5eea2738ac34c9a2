package radixmap_test

import (
	"math"
	"math/rand"
	"testing"

	"polder/api"
	"polder/radixmap"
)

// P7.1: packed descriptions that are written out
func TestPackedNumbers(t *testing.T) {
	for _, x := range []struct {
		d    api.RmDesc
		want uint64
	}{
		{five(), 401419},
		{api.RmDesc{}, 1},
		{api.RmDesc{Owner: 1}, 3},
		{api.RmDesc{Owner: 4095}, 8191},
		{api.RmDesc{State: 1}, 8193},
		{api.RmDesc{State: 15}, 122881},
		{api.RmDesc{Stamp: 1}, 131073},
		{api.RmDesc{Stamp: 1000000000000}, 131072000000000001},
		{api.RmDesc{Huge: true}, 144115188075855873},
		{api.RmDesc{Owner: 4095, State: 15, Stamp: 1000000000000, Huge: true}, 144115188075855872 + 131072000000000000 + 131071},
	} {
		check(t, of(radixmap.Pack(x.d)), of(x.want, api.OK), "Pack of ", x.d)
		check(t, of(radixmap.Unpack(x.want)), of(x.d, api.OK), "Unpack of ", x.want)
	}
}

// P7.1: numbers at the ends of their ranges and beyond, in all combinations
func TestPack(t *testing.T) {
	owners := append([]int{-1, 0, 1, 2, 2047, 2048, 4094, 4095, 4096, 4097, 8191, 8192}, extremes...)
	states := append([]int{-1, 0, 1, 7, 8, 14, 15, 16, 17, 31, 32}, extremes...)
	stamps := []int64{-1, 0, 1, 1 << 39, 999999999999, 1000000000000, 1000000000001, 1 << 40, 1<<40 - 1, 1 << 47, math.MinInt64, math.MinInt64 + 1, math.MaxInt64}
	for _, owner := range owners {
		for _, state := range states {
			for _, stamp := range stamps {
				for _, huge := range []bool{false, true} {
					checkPack(t, api.RmDesc{Owner: owner, State: state, Stamp: stamp, Huge: huge})
				}
			}
		}
	}
}

// checkPack compares what Pack returns, and what Unpack makes of it.
func checkPack(t *testing.T, d api.RmDesc) {
	t.Helper()
	if !isDesc(d) {
		check(t, of(radixmap.Pack(d)), of(uint64(0), api.ErrArg), "Pack of ", d)
		return
	}
	x := packed(d)
	check(t, of(radixmap.Pack(d)), of(x, api.OK), "Pack of ", d)
	check(t, of(radixmap.Unpack(x)), of(d, api.OK), "Unpack of ", x)
}

// P7.1: all owners, and all states
func TestPackEach(t *testing.T) {
	for owner := -10; owner < 5000; owner++ {
		for state := -2; state < 20; state++ {
			checkPack(t, api.RmDesc{Owner: owner, State: state, Stamp: int64(owner) * 17})
		}
	}
}

// checkUnpack compares what Unpack returns with what the parts of x are by division.
func checkUnpack(t *testing.T, x uint64) {
	t.Helper()
	d := api.RmDesc{Owner: int(x / 2 % 4096), State: int(x / 8192 % 16), Stamp: int64(x / 131072 % (1 << 40)), Huge: x/(1<<57)%2 == 1}
	if x%2 == 0 || x >= 1<<58 || d.Stamp > 1000000000000 {
		check(t, of(radixmap.Unpack(x)), of(api.RmDesc{}, api.ErrForm), "Unpack of ", x)
		return
	}
	check(t, of(radixmap.Unpack(x)), of(d, api.OK), "Unpack of ", x)
	check(t, of(radixmap.Pack(d)), of(x, api.OK), "Pack of ", d)
}

// P7.1: numbers that are no packed description
func TestUnpack(t *testing.T) {
	for _, x := range []uint64{0, 2, 1 << 57, 1<<58 + 1, 1<<57 - 1, 1<<63 + 1, math.MaxUint64, 131072*1000000000001 + 1, 1<<57 + 131072*1000000000001 + 1, 401418, 401420} {
		check(t, of(radixmap.Unpack(x)), of(api.RmDesc{}, api.ErrForm), "Unpack of ", x)
	}
	for x := range uint64(300000) {
		checkUnpack(t, x)
		checkUnpack(t, math.MaxUint64-x)
		checkUnpack(t, 131072*1000000000000+x)
		checkUnpack(t, 1<<57+131072*1000000000000+x)
	}
}

// P7.1: packed descriptions of which a bit is another one, and random numbers
func TestUnpackBits(t *testing.T) {
	r := rand.New(rand.NewSource(1))
	for _, d := range descs {
		for i := range 64 {
			checkUnpack(t, packed(d)^1<<i)
			for j := range i {
				checkUnpack(t, packed(d)^1<<i^1<<j)
			}
		}
	}
	for range 200000 {
		checkUnpack(t, r.Uint64()>>r.Intn(64))
	}
}
