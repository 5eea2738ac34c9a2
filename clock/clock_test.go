package clock_test

import (
	"math"
	"math/rand"
	"slices"
	"testing"

	"polder/api"
	"polder/clock"
)

// at returns the clock that shows now.
func at(now int64) api.CkClock {
	return api.CkClock{Now: now}
}

// P9.1
func TestSet(t *testing.T) {
	for _, x := range []struct{ now, t, want int64 }{
		{7, 5, 7}, {7, 9, 9}, {7, 7, 7}, {7, 6, 7}, {7, 8, 8}, {0, 0, 0}, {0, last, last}, {last, 0, last}, {last, last, last}, {last - 1, last, last},
	} {
		check(t, of(clock.Set(at(x.now), x.t)), of(at(x.want), api.OK), "Set of the clock ", x.now, " to ", x.t)
	}
}

// P9.1, R2: ErrArg for the clock comes before ErrRange
func TestSetAtEdges(t *testing.T) {
	for _, now := range edges {
		for _, s := range edges {
			want := of(at(now), api.OK)
			switch {
			case !valid(now):
				want = of(at(0), api.ErrArg)
			case !valid(s):
				want = of(at(0), api.ErrRange)
			case s > now:
				want = of(at(s), api.OK)
			}
			check(t, of(clock.Set(at(now), s)), want, "Set of the clock ", now, " to ", s)
		}
	}
}

// P9.6: the clock shows the greatest time that was set
func TestSetAgainAndAgain(t *testing.T) {
	r := rand.New(rand.NewSource(1))
	for range 500 {
		c := at(r.Int63n(last + 1))
		if r.Intn(2) == 0 {
			c = at(r.Int63n(20))
		}
		times := []int64{c.Now}
		for range 20 {
			s := r.Int63n(30) - 2
			if r.Intn(4) == 0 {
				s = r.Int63n(last + 10)
			}
			next, e := clock.Set(c, s)
			if e != api.OK {
				check(t, of(next, e), of(at(0), api.ErrRange), "Set to ", s)
				check(t, valid(s), false, "a time that is not set: ", s)
				continue
			}
			c = next
			times = append(times, s)
			check(t, c.Now, slices.Max(times), "Set to ", times)
		}
	}
}

// P9.1
func TestAge(t *testing.T) {
	for _, x := range []struct{ now, stamp, want int64 }{
		{7, 5, 2}, {7, 7, 0}, {7, 0, 7}, {0, 0, 0}, {last, 0, last}, {last, last, 0}, {last, 1, last - 1},
	} {
		check(t, of(clock.Age(at(x.now), x.stamp)), of(x.want, api.OK), "Age at ", x.now, " of ", x.stamp)
	}
	check(t, of(clock.Age(at(7), 8)), of(0, api.ErrRange), "Age at 7 of 8")
}

// P9.1, R2
func TestAgeAtEdges(t *testing.T) {
	for _, now := range edges {
		for _, stamp := range edges {
			want := of(now-stamp, api.OK)
			switch {
			case !valid(now):
				want = of(int64(0), api.ErrArg)
			case stamp < 0 || stamp > now:
				want = of(int64(0), api.ErrRange)
			}
			check(t, of(clock.Age(at(now), stamp)), want, "Age at ", now, " of ", stamp)
		}
	}
}

// P9.1
func TestOld(t *testing.T) {
	for _, x := range []struct {
		now    int64
		stamps []int64
		age    int64
		want   []int
	}{
		{7, []int64{1, 7, 3}, 4, []int{0, 2}},
		{7, []int64{1, 7, 3}, 5, []int{0}},
		{7, []int64{1, 7, 3}, 0, []int{0, 1, 2}},
		{7, []int64{1, 7, 3}, 7, nil},
		{7, []int64{3, 3, 3, 4, 3}, 4, []int{0, 1, 2, 4}},
		{7, []int64{0}, 7, []int{0}},
		{7, []int64{0}, 8, nil},
		{7, nil, 0, nil},
		{0, []int64{0, 0}, 0, []int{0, 1}},
		{0, []int64{0, 0}, 1, nil},
		{last, []int64{0, 1, last}, last, []int{0}},
		{last, []int64{0, 1, last}, last - 1, []int{0, 1}},
	} {
		check(t, of(clock.Old(at(x.now), x.stamps, x.age)), of(x.want, api.OK), "Old at ", x.now, " of ", x.stamps, " with ", x.age)
	}
}

// P9.1: up to 1000 stamps
func TestOldOfManyStamps(t *testing.T) {
	r := rand.New(rand.NewSource(2))
	for _, n := range []int{2, 50, 999, 1000} {
		stamps := make([]int64, n)
		var want []int
		for i := range stamps {
			stamps[i] = r.Int63n(101)
			if 100-stamps[i] >= 40 {
				want = append(want, i)
			}
		}
		check(t, of(clock.Old(at(100), stamps, 40)), of(want, api.OK), "Old of ", n, " stamps")
		stamps[n-1] = 101
		check(t, of(clock.Old(at(100), stamps, 40)), of([]int{}, api.ErrRange), "Old of ", n, " stamps, the last one wrong")
	}
	check(t, of(clock.Old(at(100), make([]int64, 1001), 40)), of([]int{}, api.ErrLong), "Old of 1001 stamps")
}

// P9.1, R2: the errors of Old in their order
func TestErrorsOfOld(t *testing.T) {
	bad := slices.Repeat([]int64{-1}, 1001)
	for _, x := range []struct {
		now    int64
		stamps []int64
		age    int64
		e      api.Errno
	}{
		{-1, bad, -1, api.ErrArg}, {last + 1, bad, -1, api.ErrArg}, {-1, nil, 0, api.ErrArg}, {math.MinInt64, []int64{0}, 0, api.ErrArg},
		{7, bad, -1, api.ErrLong}, {7, bad, 0, api.ErrLong}, {7, make([]int64, 1001), -1, api.ErrLong},
		{7, bad[:1000], 0, api.ErrRange}, {7, nil, -1, api.ErrRange}, {7, nil, last + 1, api.ErrRange}, {7, []int64{1}, math.MaxInt64, api.ErrRange}, {7, []int64{1}, math.MinInt64, api.ErrRange},
		{7, []int64{8}, 0, api.ErrRange}, {7, []int64{-1}, 0, api.ErrRange}, {7, []int64{0, 1, 8}, 0, api.ErrRange}, {7, []int64{0, -1, 2}, 9, api.ErrRange}, {7, []int64{math.MinInt64}, 0, api.ErrRange}, {7, []int64{math.MaxInt64}, 0, api.ErrRange},
	} {
		check(t, of(clock.Old(at(x.now), x.stamps, x.age)), of([]int{}, x.e), "Old at ", x.now, " of ", len(x.stamps), " stamps with ", x.age)
	}
	check(t, of(clock.Old(at(7), nil, last)), of([]int{}, api.OK), "Old with the greatest age")
}
