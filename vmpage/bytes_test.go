package vmpage_test

import (
	"testing"

	"polder/api"
	"polder/vmpage"
)

// P6.5: addresses, those of pages that are not committed, and numbers that are none
func TestAddresses(t *testing.T) {
	x := kindsState(0, []int{api.VmReserved, api.VmCommitted, api.VmGuard, api.VmFree, api.VmCommitted}, noRules)
	x.Runs = append(x.Runs, api.VmRun{Page: 1023, Pages: 1, Kind: api.VmCommitted})
	for at, want := range map[int64]api.Errno{
		0: vmpage.ErrFault, 63: vmpage.ErrFault, 64: api.OK, 127: api.OK, 128: vmpage.ErrFault, 191: vmpage.ErrFault,
		192: vmpage.ErrFault, 255: vmpage.ErrFault, 256: api.OK, 319: api.OK, 320: vmpage.ErrFault,
		65471: vmpage.ErrFault, 65472: api.OK, 65535: api.OK, 65536: api.ErrRange, 65537: api.ErrRange, 65536 + 64: api.ErrRange, -1: api.ErrRange, -64: api.ErrRange,
	} {
		checkAddress(t, x, at, want)
	}
	for _, at := range extremes {
		checkAddress(t, x, int64(at), api.ErrRange)
	}
}

// checkAddress compares what Read and Write return, and that nothing changes with an error.
func checkAddress(t *testing.T, x api.VmState, at int64, want api.Errno) {
	t.Helper()
	s := load(t, x)
	check(t, of(s.Read(at)), of(byte(0), want), "Read of ", at)
	check(t, s.Write(at, 200), want, "Write to ", at)
	if want != api.OK {
		checkState(t, s, x, "Write to ", at)
		return
	}
	check(t, of(s.Read(at)), of(byte(200), api.OK), "Read of ", at)
	x.Data = []api.VmData{{Page: int(at / 64)}}
	x.Data[0].Bytes[at%64] = 200
	checkState(t, s, x, "Write to ", at)
}

// P6.5, P6.8: a write changes one byte alone
func TestWriteChangesOneByte(t *testing.T) {
	x := kindsState(0, []int{api.VmCommitted, api.VmCommitted, api.VmCommitted}, always(0, 1, 2, 3, 4, 5, 6))
	s := load(t, x)
	for at := range int64(192) {
		check(t, s.Write(at, byte(at+1)), api.OK, "Write to ", at)
	}
	for at := range int64(192) {
		check(t, s.Write(at, 255), api.OK, "Write to ", at)
		for other := range int64(192) {
			want := byte(other + 1)
			if other == at {
				want = 255
			}
			check(t, of(s.Read(other)), of(want, api.OK), "Read of ", other, " after Write to ", at)
		}
		check(t, s.Write(at, byte(at+1)), api.OK, "Write to ", at)
	}
	if calls := s.Save().Refusals.Calls; calls != [api.RfKinds]int{} {
		t.Errorf("reading and writing are counted: %v", calls)
	}
}

// P6.8: bytes stay as long as their page is committed, whatever happens to others, and are 0 after it was committed again
func TestBytesOfPages(t *testing.T) {
	s := system(t, noRules)
	s.Reserve(0, 32)
	s.Commit(0, 32)
	for page := range int64(32) {
		s.Write(64*page, byte(page+1))
		s.Write(64*page+63, byte(page+101))
	}
	s.Join(0)
	s.Decommit(16, 1)
	s.Decommit(18, 14)
	s.Protect(20, 1, true)
	s.Release(31, 1)
	s.Split(0)
	s.Commit(18, 1)
	s.Plan(noRules)
	for page := range int64(32) {
		first, last, e := byte(page+1), byte(page+101), api.OK
		switch {
		case page == 18:
			first, last = 0, 0
		case page == 16 || page > 18:
			first, last, e = 0, 0, vmpage.ErrFault
		}
		check(t, of(s.Read(64*page)), of(first, e), "the first byte of ", page)
		check(t, of(s.Read(64*page+63)), of(last, e), "the last byte of ", page)
	}
	s.Protect(20, 1, false)
	s.Reserve(31, 1)
	s.Commit(16, 1)
	s.Commit(19, 13)
	for at := range int64(2048) {
		if page := at / 64; page == 16 || page > 17 {
			check(t, of(s.Read(at)), of(byte(0), api.OK), "Read of ", at)
		}
	}
}

// P6.8: a byte that is 0 again is not different from one that was never written
func TestZeroAgain(t *testing.T) {
	s := system(t, noRules)
	s.Reserve(5, 1)
	s.Commit(5, 1)
	x := s.Save()
	s.Write(5*64+9, 1)
	s.Write(5*64+9, 0)
	check(t, of(s.Read(5*64+9)), of(byte(0), api.OK), "Read")
	checkState(t, s, x, "a byte that is 0 again")
}
