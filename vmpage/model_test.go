package vmpage_test

import (
	"fmt"
	"math"
	"math/rand"
	"reflect"
	"slices"
	"testing"

	"polder/api"
	"polder/refusals"
	"polder/vmpage"
)

// extremes are numbers that are those of no page, address or kind.
var extremes = []int{-1, -2, -16, -1024, math.MinInt, math.MinInt + 1, math.MinInt + 16, 1 << 32, 1<<32 + 16, 1 << 62, math.MaxInt - 16, math.MaxInt - 15, math.MaxInt}

// calls is what systems and models have in common.
type calls interface {
	Plan(p api.RfPlan) api.Errno
	Reserve(page, n int) api.Errno
	Release(page, n int) api.Errno
	Commit(page, n int) api.Errno
	Decommit(page, n int) api.Errno
	Protect(page, n int, guard bool) api.Errno
	Join(page int) api.Errno
	Split(page int) api.Errno
	Read(at int64) (byte, api.Errno)
	Write(at int64, b byte) api.Errno
	Kind(page int) (kind int, huge bool, e api.Errno)
	Counts() (api.VmCounts, api.Errno)
}

// model is a system that keeps sets of pages and bytes: pages that are in none of the sets are free.
type model struct {
	reserved, committed, guards map[int]bool
	huge                        map[int]bool   // the first pages
	bytes                       map[int64]byte // those that are not 0
	refusals                    api.RfState
}

func newModel(p api.RfPlan) *model {
	return &model{map[int]bool{}, map[int]bool{}, map[int]bool{}, map[int]bool{}, map[int64]byte{}, api.RfState{Plan: p}}
}

// set returns the pages of a kind.
func (m *model) set(kind int) map[int]bool {
	return map[int]map[int]bool{api.VmReserved: m.reserved, api.VmCommitted: m.committed, api.VmGuard: m.guards}[kind]
}

func (m *model) kind(page int) int {
	for _, kind := range []int{api.VmReserved, api.VmCommitted, api.VmGuard} {
		if m.set(kind)[page] {
			return kind
		}
	}
	return api.VmFree
}

// is gives a page a kind; nothing is left of what it was.
func (m *model) is(page, kind int) {
	for _, pages := range []map[int]bool{m.reserved, m.committed, m.guards} {
		delete(pages, page)
	}
	if kind != api.VmFree {
		m.set(kind)[page] = true
	}
	for i := range 64 {
		delete(m.bytes, int64(64*page+i))
	}
}

// refuse counts a call, and returns ErrRefused if the plan refuses it.
func (m *model) refuse(kind int) api.Errno {
	if m.refusals.Calls[kind] == 1000000 {
		return api.OK
	}
	m.refusals.Calls[kind]++
	if is, e := refusals.Refused(m.refusals.Plan, kind, m.refusals.Calls[kind]); e != api.OK {
		panic(e)
	} else if is {
		m.refusals.Hits[kind]++
		return 60
	}
	return api.OK
}

func (m *model) Plan(p api.RfPlan) api.Errno {
	if _, e := refusals.Check(p); e != api.OK {
		return e
	}
	m.refusals = api.RfState{Plan: p}
	return api.OK
}

// turn makes pages of one kind such of another one.
func (m *model) turn(call, page, n, from, to int) api.Errno {
	if page < 0 || page > 1023 || n < 1 || n > 1024 || page+n > 1024 {
		return api.ErrRange
	}
	for i := page; i < page+n; i++ {
		if m.kind(i) != from || m.huge[i/16*16] {
			return api.ErrDown
		}
	}
	if e := m.refuse(call); e != api.OK {
		return e
	}
	for i := page; i < page+n; i++ {
		m.is(i, to)
	}
	return api.OK
}

func (m *model) Reserve(page, n int) api.Errno { return m.turn(0, page, n, 0, 1) }

func (m *model) Release(page, n int) api.Errno { return m.turn(1, page, n, 1, 0) }

func (m *model) Commit(page, n int) api.Errno { return m.turn(2, page, n, 1, 2) }

func (m *model) Decommit(page, n int) api.Errno { return m.turn(3, page, n, 2, 1) }

func (m *model) Protect(page, n int, guard bool) api.Errno {
	if guard {
		return m.turn(4, page, n, 1, 3)
	}
	return m.turn(4, page, n, 3, 1)
}

func (m *model) Join(page int) api.Errno {
	if page < 0 || page > 1023 || page%16 != 0 {
		return api.ErrRange
	}
	for i := range 16 {
		if !m.committed[page+i] {
			return api.ErrDown
		}
	}
	if m.huge[page] {
		return api.ErrTwice
	}
	if e := m.refuse(5); e != api.OK {
		return e
	}
	m.huge[page] = true
	return api.OK
}

func (m *model) Split(page int) api.Errno {
	if page < 0 || page > 1023 || page%16 != 0 {
		return api.ErrRange
	}
	if !m.huge[page] {
		return api.ErrDown
	}
	if e := m.refuse(6); e != api.OK {
		return e
	}
	delete(m.huge, page)
	return api.OK
}

func (m *model) check(at int64) api.Errno {
	if at < 0 || at > 65535 {
		return api.ErrRange
	}
	if !m.committed[int(at/64)] {
		return 61
	}
	return api.OK
}

func (m *model) Read(at int64) (byte, api.Errno) {
	if e := m.check(at); e != api.OK {
		return 0, e
	}
	return m.bytes[at], api.OK
}

func (m *model) Write(at int64, b byte) api.Errno {
	if e := m.check(at); e != api.OK {
		return e
	}
	delete(m.bytes, at)
	if b != 0 {
		m.bytes[at] = b
	}
	return api.OK
}

func (m *model) Kind(page int) (int, bool, api.Errno) {
	if page < 0 || page > 1023 {
		return 0, false, api.ErrRange
	}
	return m.kind(page), m.huge[page/16*16], api.OK
}

func (m *model) Counts() (api.VmCounts, api.Errno) {
	taken := len(m.reserved) + len(m.committed) + len(m.guards)
	return api.VmCounts{Free: 1024 - taken, Reserved: len(m.reserved), Committed: len(m.committed), Guards: len(m.guards), Huge: len(m.huge)}, api.OK
}

// state returns the state that a system like m has.
func (m *model) state() api.VmState {
	s := api.VmState{Refusals: m.refusals}
	for page := 0; page < 1024; {
		n := 1
		for page+n < 1024 && m.kind(page+n) == m.kind(page) {
			n++
		}
		if m.kind(page) != api.VmFree {
			s.Runs = append(s.Runs, api.VmRun{Page: page, Pages: n, Kind: m.kind(page)})
		}
		page += n
	}
	for page := range m.huge {
		s.Huge = append(s.Huge, page)
	}
	slices.Sort(s.Huge)
	at := map[int]int{} // where the bytes of a page are in Data
	for _, a := range sortedKeys(m.bytes) {
		page := int(a / 64)
		if _, ok := at[page]; !ok {
			at[page] = len(s.Data)
			s.Data = append(s.Data, api.VmData{Page: page})
		}
		s.Data[at[page]].Bytes[a%64] = m.bytes[a]
	}
	return s
}

func sortedKeys(m map[int64]byte) []int64 {
	var l []int64
	for a := range m {
		l = append(l, a)
	}
	slices.Sort(l)
	return l
}

// noRules is a plan that refuses nothing.
var noRules = api.RfPlan{}

// always returns a plan that refuses all calls of the kinds.
func always(kinds ...int) api.RfPlan {
	var p api.RfPlan
	for _, kind := range kinds {
		p.Rules = append(p.Rules, api.RfRule{Kind: kind, First: 1, Every: 1})
	}
	return p
}

// system returns a new system.
func system(t *testing.T, p api.RfPlan) *vmpage.System {
	t.Helper()
	s, e := vmpage.New(p)
	if s == nil || e != api.OK {
		t.Fatalf("New(%v): %v, %d", p, s != nil, e)
	}
	return s
}

// load returns a system with the state x.
func load(t *testing.T, x api.VmState) *vmpage.System {
	t.Helper()
	s, e := vmpage.Load(x)
	if s == nil || e != api.OK {
		t.Fatalf("Load(%v): %v, %d", x, s != nil, e)
	}
	return s
}

// check compares what was returned with what should be.
func check(t *testing.T, got, want any, what ...any) {
	t.Helper()
	if got != want {
		t.Fatalf("%s: %v, want %v", fmt.Sprint(what...), got, want)
	}
}

// plain returns s with nil for lists without elements.
func plain(s api.VmState) api.VmState {
	s.Runs = append([]api.VmRun(nil), s.Runs...)
	s.Huge = append([]int(nil), s.Huge...)
	s.Data = append([]api.VmData(nil), s.Data...)
	s.Refusals.Plan.Rules = append([]api.RfRule(nil), s.Refusals.Plan.Rules...)
	return s
}

func equalStates(a, b api.VmState) bool {
	return reflect.DeepEqual(plain(a), plain(b))
}

// checkState compares the state of s with what it should be.
func checkState(t *testing.T, s *vmpage.System, want api.VmState, what ...any) {
	t.Helper()
	if got := s.Save(); !equalStates(got, want) {
		t.Fatalf("%s: the state is %v, want %v", fmt.Sprint(what...), plain(got), plain(want))
	}
}

// answer is what a call returned.
type answer struct {
	value any
	e     api.Errno
}

func of[T any](v T, e api.Errno) answer { return answer{v, e} }

// kindOf returns what Kind says of a page.
func kindOf(s calls, page int) answer {
	kind, huge, e := s.Kind(page)
	return answer{[2]any{kind, huge}, e}
}

// action is a call with its arguments.
type action struct {
	name    string
	page, n int
	at      int64
	b       byte
	plan    api.RfPlan
}

// on makes the call.
func (a action) on(s calls) answer {
	switch a.name {
	case "Plan":
		return of(0, s.Plan(a.plan))
	case "Reserve":
		return of(0, s.Reserve(a.page, a.n))
	case "Release":
		return of(0, s.Release(a.page, a.n))
	case "Commit":
		return of(0, s.Commit(a.page, a.n))
	case "Decommit":
		return of(0, s.Decommit(a.page, a.n))
	case "Protect":
		return of(0, s.Protect(a.page, a.n, true))
	case "Unprotect":
		return of(0, s.Protect(a.page, a.n, false))
	case "Join":
		return of(0, s.Join(a.page))
	case "Split":
		return of(0, s.Split(a.page))
	case "Read":
		return of(s.Read(a.at))
	case "Write":
		return of(0, s.Write(a.at, a.b))
	case "Kind":
		return kindOf(s, a.page)
	case "Counts":
		return of(s.Counts())
	}
	panic(a.name)
}

// change is a call to pages: its kind, and what it makes of which kind of pages.
type change struct {
	name           string
	call, from, to int
}

// changes are the calls to pages.
var changes = []change{
	{"Reserve", api.RfReserve, api.VmFree, api.VmReserved},
	{"Release", api.RfRelease, api.VmReserved, api.VmFree},
	{"Commit", api.RfCommit, api.VmReserved, api.VmCommitted},
	{"Decommit", api.RfDecommit, api.VmCommitted, api.VmReserved},
	{"Protect", api.RfProtect, api.VmReserved, api.VmGuard},
	{"Unprotect", api.RfProtect, api.VmGuard, api.VmReserved},
}

// randomPlan returns a plan that refuses some calls.
func randomPlan(r *rand.Rand) api.RfPlan {
	var p api.RfPlan
	for range r.Intn(6) {
		x := api.RfRule{Kind: r.Intn(api.RfKinds), First: 1 + r.Intn(12), Every: r.Intn(6), Times: r.Intn(4)}
		if x.Every == 0 {
			x.Times = 1
		}
		p.Rules = append(p.Rules, x)
	}
	return p
}

// randomAction returns a call to the first pages, or, rarely, to others that need not be there.
func randomAction(r *rand.Rand, pages int) action {
	names := []string{"Reserve", "Reserve", "Release", "Commit", "Commit", "Commit", "Decommit", "Protect", "Unprotect", "Join", "Join", "Split", "Read", "Write", "Write", "Write", "Kind", "Counts"}
	a := action{name: names[r.Intn(len(names))], page: r.Intn(pages), n: 1 + r.Intn(8), at: r.Int63n(int64(64 * pages)), b: byte(r.Intn(3))}
	switch r.Intn(10) {
	case 0:
		a.n = r.Intn(pages + 2)
	case 1:
		a.page, a.at = 1024-r.Intn(pages), 65536-r.Int63n(int64(64*pages))
	case 2:
		a.page = extremes[r.Intn(len(extremes))]
		a.at = int64(extremes[r.Intn(len(extremes))])
	case 3:
		a.n = extremes[r.Intn(len(extremes))]
	}
	if a.name == "Join" || a.name == "Split" {
		a.page = a.page / 16 * 16
	}
	if r.Intn(200) == 0 {
		a = action{name: "Plan", plan: randomPlan(r)}
	}
	return a
}

// randomModel returns a model after some calls: pages are reserved first, and committed, so that all kinds are there.
func randomModel(r *rand.Rand, pages int) *model {
	m := newModel(randomPlan(r))
	for page := 0; page < pages; page += 16 {
		m.Reserve(page, 16)
		if r.Intn(2) == 0 {
			m.Commit(page, 16)
			m.Join(page)
		}
	}
	for range r.Intn(10 * pages) {
		randomAction(r, pages).on(m)
	}
	return m
}
