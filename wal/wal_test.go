package wal_test

import (
	"fmt"
	"math"
	"math/rand"
	"slices"
	"sort"
	"strconv"
	"strings"
	"testing"
	"unsafe"

	"witnessbox/api"
	"witnessbox/lsm"
	"witnessbox/plain"
	"witnessbox/wal"
)

var limits = []int{1, 2, 3, 59, 60}

// oddTexts are of any bytes, some of them no text, some that look like lengths or like the end of something.
var oddTexts = []string{
	"\x00", "\x00\x00", "\x00\x00\x00\x00", "\x00\x01", "\x01", "\x01\x01\x00", "\x02", "\x00\x02\x00\x02", "\n", " ", "=", "-", "|", ",", "0", "a",
	"a\x00", "a\x00b", "ab", "a\xff", "\x7f", "\x80", "\xc3", "\u00e9", "e\u0301", "\u20ac", "\U0001f600", "\xed\xa0\x80", "\xfe", "\xff", "\xff\xff",
	strings.Repeat("a", 199), strings.Repeat("a", 200), strings.Repeat("\xff", 200), strings.Repeat("\x00", 200),
}

type pairs = []api.Pair

func pair(key, value string) api.Pair { return api.Pair{Key: key, Value: value} }

func gone(key string) api.Pair { return api.Pair{Key: key, Gone: true} }

// many are so many Pairs of different keys, every third of them Gone.
func many(name string, n int) (l pairs) {
	for i := range n {
		p := pair(name+strconv.Itoa(i), strings.Repeat("v", i))
		if i%3 == 2 {
			p = gone(p.Key)
		}
		l = append(l, p)
	}
	return l
}

// step is one call that may change a Wal.
type step struct {
	what  string
	batch pairs
	n     int
}

var sync = step{what: "Sync"}

func put(batch ...api.Pair) step { return step{what: "Put", batch: batch} }

func fail(n int) step { return step{what: "Fail", n: n} }

func crash(keep int) step { return step{what: "Crash", n: keep} }

// String keeps what is told of a fault to a line.
func (s step) String() string { return fmt.Sprintf("%s %s %d", s.what, brief(s.batch), s.n) }

// brief does so, too, of lists.
func brief(v any) string { return fmt.Sprintf("%.300q", fmt.Sprint(v)) }

func do(w *wal.Wal, s step) error {
	switch s.what {
	case "Put":
		return w.Put(s.batch)
	case "Sync":
		return w.Sync()
	case "Fail":
		w.Fail(s.n)
	default:
		w.Crash(s.n)
	}
	return nil
}

// model is W1 and W2, word for word, on lists. It knows of a record only how many bytes it has.
type model struct {
	limit   int
	batches []pairs // of the records that are whole
	sizes   []int
	half    int // bytes of one that is not
	safe    int
	left    int // steps until it stops; below 0: never
	stopped bool
	x       *lsm.Lsm // to which the test itself has Put and Dropped what stands in batches
}

func (m *model) do(t *testing.T, s step) api.Errno {
	t.Helper()
	switch s.what {
	case "Put":
		return m.put(t, s.batch)
	case "Sync":
		return m.sync()
	case "Fail":
		m.left = s.n
	default:
		m.crash(t, s.n)
	}
	return api.OK
}

func (m *model) put(t *testing.T, batch pairs) api.Errno {
	t.Helper()
	if m.stopped {
		return api.ErrState
	}
	if told := refused(batch); told != api.OK {
		return told
	}
	size := sizeOf(t, batch)
	if m.stops() {
		m.half = size / 2
		return api.ErrState
	}
	m.batches, m.sizes = append(m.batches, slices.Clone(batch)), append(m.sizes, size)
	putAll(t, m.x, batch)
	return api.OK
}

func (m *model) sync() api.Errno {
	if m.stopped || m.stops() {
		return api.ErrState
	}
	m.safe = m.bytes()
	return api.OK
}

func (m *model) stops() bool {
	m.stopped = m.left == 0
	if m.left >= 1 {
		m.left--
	}
	return m.stopped
}

func (m *model) crash(t *testing.T, keep int) {
	t.Helper()
	end := m.bytes()
	if keep < 0 {
		end = m.safe
	} else if keep < end-m.safe {
		end = m.safe + keep
	}
	whole, at := 0, 0
	for whole < len(m.sizes) && at+m.sizes[whole] <= end {
		at += m.sizes[whole]
		whole++
	}
	m.batches, m.sizes = m.batches[:whole], m.sizes[:whole]
	m.half, m.safe, m.left, m.stopped = 0, at, -1, false
	m.x = lsmOf(t, m.limit, m.batches)
}

func (m *model) bytes() int {
	n := m.half
	for _, size := range m.sizes {
		n += size
	}
	return n
}

// all tells, by key, the last Pair of each one, where it is not Gone.
func (m *model) all() (l pairs) {
	last := map[string]api.Pair{}
	for _, p := range slices.Concat(m.batches...) {
		last[p.Key] = p
	}
	for _, p := range last {
		if !p.Gone {
			l = append(l, p)
		}
	}
	sort.Slice(l, func(i, j int) bool { return l[i].Key < l[j].Key })
	return l
}

func refused(batch pairs) api.Errno {
	if len(batch) > 20 {
		return api.ErrFull
	}
	for _, p := range batch {
		if p.Gone && p.Value != "" {
			return api.ErrShape
		}
	}
	for _, p := range batch {
		if p.Key == "" {
			return api.ErrSyntax
		}
		if len(p.Key) > 200 || len(p.Value) > 200 {
			return api.ErrFull
		}
	}
	return api.OK
}

func putAll(t *testing.T, x *lsm.Lsm, batch pairs) {
	t.Helper()
	for _, p := range batch {
		var err error
		if p.Gone {
			err = x.Drop(p.Key)
		} else {
			err = x.Put(p.Key, p.Value)
		}
		if err != nil {
			t.Fatalf("an Lsm refuses %s: %v", brief(p), err)
		}
	}
}

func lsmOf(t *testing.T, limit int, batches []pairs) *lsm.Lsm {
	t.Helper()
	x, err := lsm.New(limit)
	if err != nil {
		t.Fatalf("lsm.New(%d): %v", limit, err)
	}
	for _, batch := range batches {
		putAll(t, x, batch)
	}
	return x
}

// sizeOf tells how many bytes the record of a batch has: which is free, so another Wal is asked.
func sizeOf(t *testing.T, batch pairs) int {
	t.Helper()
	w, err := wal.New(60)
	if err != nil {
		t.Fatalf("New(60): %v", err)
	}
	if err := w.Put(batch); err != nil {
		t.Fatalf("Put of %s: %v", brief(batch), err)
	}
	if w.Bytes() < 2 {
		t.Fatalf("the record of %s has %d bytes, want at least 2", brief(batch), w.Bytes())
	}
	return w.Bytes()
}

// both is a Wal and what the test reckons by itself.
type both struct {
	w *wal.Wal
	m *model
}

func fresh(t *testing.T, limit int) both {
	t.Helper()
	w, err := wal.New(limit)
	if err != nil || w == nil {
		t.Fatalf("New(%d): a Wal: %v, %v", limit, w != nil, err)
	}
	return both{w, &model{limit: limit, left: -1, x: lsmOf(t, limit, nil)}}
}

// played has done steps, each of which must go well.
func played(t *testing.T, limit int, steps ...step) both {
	t.Helper()
	b := fresh(t, limit)
	b.wantAll(t, api.OK, steps...)
	return b
}

// wantError also asks that an Errno is told, never OK.
func wantError(t *testing.T, what string, err error, want api.Errno) {
	t.Helper()
	if want == api.OK && err != nil || want != api.OK && (err == nil || plain.Told(err) != want) {
		t.Fatalf("%s: error %v, want %v", what, err, want)
	}
}

// wantStep does a step in both, asks for all that can be told behind it, and tells its error.
func (b both) wantStep(t *testing.T, s step) api.Errno {
	t.Helper()
	want := b.m.do(t, s)
	wantError(t, s.String(), do(b.w, s), want)
	b.want(t, s.String())
	return want
}

// wantAll does steps, each of which must tell the same error.
func (b both) wantAll(t *testing.T, told api.Errno, steps ...step) {
	t.Helper()
	for _, s := range steps {
		if got := b.wantStep(t, s); got != told {
			t.Fatalf("%v: %v, want %v", s, got, told)
		}
	}
}

// want asks for all that a Wal can tell.
func (b both) want(t *testing.T, what string) {
	t.Helper()
	if b.w.Bytes() != b.m.bytes() || b.w.Safe() != b.m.safe {
		t.Fatalf("%s: %d bytes, %d safe, want %d, %d", what, b.w.Bytes(), b.w.Safe(), b.m.bytes(), b.m.safe)
	}
	x, all := b.w.Lsm(), b.m.all()
	if got := x.All(); !slices.Equal(got, all) {
		t.Fatalf("%s: All is %s, want %s", what, brief(got), brief(all))
	}
	if x.Young() != b.m.x.Young() || !slices.Equal(x.Tables(), b.m.x.Tables()) {
		t.Fatalf("%s: %d young, Tables %s, want %d, %s", what, x.Young(), brief(x.Tables()), b.m.x.Young(), brief(b.m.x.Tables()))
	}
}

// wantTold asks for what is written out by hand.
func (b both) wantTold(t *testing.T, young, tables int, all ...api.Pair) {
	t.Helper()
	x := b.w.Lsm()
	if x.Young() != young || len(x.Tables()) != tables || !slices.Equal(x.All(), all) {
		t.Fatalf("%d young, %d Tables, All %s, want %d, %d, %s", x.Young(), len(x.Tables()), brief(x.All()), young, tables, brief(all))
	}
}

// W1: New of each limit that may be, and of others.
func TestNew(t *testing.T) {
	for _, limit := range []int{math.MinInt, -1 << 32, -61, -60, -2, -1, 0, 61, 62, 100, 256, 257, 1<<32 + 1, math.MaxInt} {
		w, err := wal.New(limit)
		if w != nil {
			t.Errorf("New(%d): a Wal beside an error", limit)
		}
		wantError(t, fmt.Sprintf("New(%d)", limit), err, api.ErrRange)
	}
	for limit := 1; limit <= 60; limit++ {
		b := fresh(t, limit)
		b.want(t, "new")
		b.wantTold(t, 0, 0)
		if b.w.Bytes() != 0 || b.w.Safe() != 0 {
			t.Fatalf("New(%d): %d bytes, %d safe", limit, b.w.Bytes(), b.w.Safe())
		}
		b.wantAll(t, api.OK, put(many("k", limit/3)...), put(many("l", limit/3)...), put(many("m", limit/3)...))
		b.wantAll(t, api.OK, sync, put(pair("z", "1")), crash(0))
	}
}

// W1, W2: step by step, written out by hand, at a limit of 3. Where a record ends is what Bytes told behind its Put.
func TestSteps(t *testing.T) {
	a1, b2, c3 := pair("a", "1"), pair("b", "2"), pair("c", "3")
	one, two := pairs{a1}, pairs{a1, b2}
	b := fresh(t, 3)
	ends := []int{0}
	for i, c := range []struct {
		s             step
		told          api.Errno
		records, safe int
		half          bool
		young, tables int
		all           pairs
	}{
		{put(a1), api.OK, 1, 0, false, 1, 0, one},
		{sync, api.OK, 1, 1, false, 1, 0, one},
		{put(pair("", "2")), api.ErrSyntax, 1, 1, false, 1, 0, one},
		{put(b2, gone("d")), api.OK, 2, 1, false, 0, 1, two},
		{put(c3, gone("a")), api.OK, 3, 1, false, 2, 1, pairs{b2, c3}},
		{put(), api.OK, 4, 1, false, 2, 1, pairs{b2, c3}},
		{crash(0), api.OK, 1, 1, false, 1, 0, one},
		{fail(2), api.OK, 1, 1, false, 1, 0, one},
		{put(b2), api.OK, 2, 1, false, 2, 0, two},
		{sync, api.OK, 2, 2, false, 2, 0, two},
		{put(c3, pair("b", "")), api.ErrState, 2, 2, true, 2, 0, two},
		{sync, api.ErrState, 2, 2, true, 2, 0, two},
		{put(), api.ErrState, 2, 2, true, 2, 0, two},
		{crash(math.MaxInt), api.OK, 2, 2, false, 2, 0, two},
		{put(c3, pair("b", "")), api.OK, 3, 2, false, 1, 1, pairs{a1, pair("b", ""), c3}},
		{fail(0), api.OK, 3, 2, false, 1, 1, pairs{a1, pair("b", ""), c3}},
		{sync, api.ErrState, 3, 2, false, 1, 1, pairs{a1, pair("b", ""), c3}},
		{crash(-1), api.OK, 2, 2, false, 2, 0, two},
	} {
		wantError(t, c.s.String(), do(b.w, c.s), c.told)
		for len(ends) <= c.records {
			ends = append(ends, b.w.Bytes())
		}
		ends = ends[:c.records+1]
		if got := b.w.Bytes(); got > ends[c.records] != c.half || got < ends[c.records] || b.w.Safe() != ends[c.safe] {
			t.Fatalf("step %d, %v: %d bytes, %d safe; records end at %v", i, c.s, got, b.w.Safe(), ends)
		}
		b.wantTold(t, c.young, c.tables, c.all...)
	}
}

// W1: each Put that is done makes a record of at least two bytes; one that is refused makes none.
func TestRecords(t *testing.T) {
	batches := []pairs{nil, {}, {pair("a", "")}, {gone("a")}, many("k", 2), many("k", 19), many("k", 20)}
	for _, limit := range limits {
		b := fresh(t, limit)
		for range 3 {
			for _, batch := range batches {
				before := b.w.Bytes()
				b.wantAll(t, api.OK, put(batch...))
				if b.w.Bytes() < before+2 {
					t.Fatalf("Put of %s: from %d to %d bytes", brief(batch), before, b.w.Bytes())
				}
				b.wantAll(t, api.ErrFull, put(many("k", 21)...))
			}
		}
	}
}

// W1: at most 20 Pairs, each done, in their order, of which those that are Gone are Dropped.
func TestMaxBatch(t *testing.T) {
	for _, limit := range limits {
		for n := range 21 {
			b := played(t, limit, put(pair("k2", "there"), pair("k3", "there")))
			b.wantAll(t, api.OK, put(many("k", n)...), put(many("k", n)...), put(many("l", n)...), crash(math.MaxInt))
		}
		for _, n := range []int{21, 22, 40, 60, 61, 256, 257, 276, 1 << 16} {
			b := played(t, limit, put(many("k", 20)...), sync)
			b.wantAll(t, api.ErrFull, put(make(pairs, n)...))
			b.wantAll(t, api.OK, put(many("l", 20)...), crash(0))
		}
	}
}

// W1: of the same key twice in a batch the last one counts, and both have been Put or Dropped.
func TestSameKeyTwice(t *testing.T) {
	a, other, empty, none := pair("a", "1"), pair("a", "2"), pair("a", ""), gone("a")
	for _, c := range []struct {
		batch  pairs
		all    pairs
		tables int // at a limit of 1
	}{
		{pairs{a, other}, pairs{other}, 2},
		{pairs{other, a}, pairs{a}, 2},
		{pairs{a, a}, pairs{a}, 2},
		{pairs{a, none}, nil, 2},
		{pairs{none, a}, pairs{a}, 2},
		{pairs{none, none}, nil, 2},
		{pairs{a, empty}, pairs{empty}, 2},
		{pairs{a, none, other}, pairs{other}, 3},
		{pairs{a, pair("b", ""), none}, pairs{pair("b", "")}, 3},
	} {
		for _, limit := range limits {
			b := played(t, limit, put(c.batch...))
			if limit == 1 {
				b.wantTold(t, 0, c.tables, c.all...)
			}
			for range 5 {
				b.wantAll(t, api.OK, put(c.batch...), crash(math.MaxInt))
				if all := b.w.Lsm().All(); !slices.Equal(all, c.all) {
					t.Fatalf("at %d, %v: All is %v, want %v", limit, c.batch, all, c.all)
				}
			}
		}
	}
}

// turns of Put and Sync, which are all steps.
func turns() []step {
	return []step{put(pair("a", "1")), sync, put(), put(gone("a"), pair("b", "2")), sync, sync, put(many("k", 20)...), sync, put(gone("b")), sync}
}

// W1: Fail counts from 0 on, Puts and Syncs alike; that step stops, and nothing goes behind it.
func TestFail(t *testing.T) {
	for _, limit := range limits {
		for n := range len(turns()) {
			for first := range len(turns()) - n {
				b := played(t, limit, turns()[:first]...)
				b.wantAll(t, api.OK, fail(n))
				b.wantAll(t, api.OK, turns()[first:first+n]...)
				b.wantAll(t, api.ErrState, turns()[first+n:]...)
				b.wantAll(t, api.ErrState, turns()...)
			}
		}
	}
}

// W1: below 0 it never stops; nor, if nothing was said; nor within fewer steps than were said.
func TestFailNever(t *testing.T) {
	for _, limit := range limits {
		for _, n := range []int{math.MinInt, -1 << 32, -100, -3, -2, -1, 30, 31, 256, 1 << 32, math.MaxInt} {
			b := played(t, limit, fail(n))
			for range 3 {
				b.wantAll(t, api.OK, turns()...)
			}
		}
	}
}

// W1: a new Fail takes the place of the one ahead, whether it is sooner, later, or never.
func TestFailAnew(t *testing.T) {
	for first := range 6 {
		for done := range first + 1 {
			for second := -2; second < 6; second++ {
				b := played(t, 2, fail(first))
				b.wantAll(t, api.OK, turns()[:done]...)
				b.wantAll(t, api.OK, fail(second))
				if second < 0 {
					b.wantAll(t, api.OK, turns()...)
					continue
				}
				b.wantAll(t, api.OK, turns()[:second]...)
				b.wantAll(t, api.ErrState, turns()[second:]...)
			}
		}
	}
}

// W1: when it has stopped, no Fail makes it go on; a Crash does, and forgets that one, too.
func TestFailBehindAStop(t *testing.T) {
	for _, s := range []step{put(pair("b", "2")), put(), sync} {
		for _, n := range []int{math.MinInt, -1, 0, 1, 2, math.MaxInt} {
			b := played(t, 2, put(pair("a", "1")), fail(0))
			b.wantAll(t, api.ErrState, s)
			b.wantAll(t, api.OK, fail(n))
			b.wantAll(t, api.ErrState, turns()...)
			b.wantAll(t, api.OK, crash(0))
			b.wantAll(t, api.OK, turns()...)
		}
	}
}

// W1: of a Put that stops half of the bytes are there, rounded down, and none of what it would have done to the Lsm.
func TestPutStops(t *testing.T) {
	odd := map[bool]int{}
	for _, limit := range limits {
		for n := range 21 {
			for _, value := range []string{"", "v", "vv"} {
				batch := append(many("k", n), pair("last", value))[max(0, n-19):]
				b := played(t, limit, put(pair("k0", "1"), gone("k1")), sync, put(many("j", n)...))
				before, all, tables, young := b.w.Bytes(), b.w.Lsm().All(), b.w.Lsm().Tables(), b.w.Lsm().Young()
				size := sizeOf(t, batch)
				odd[size%2 == 1]++
				b.wantAll(t, api.OK, fail(0))
				b.wantAll(t, api.ErrState, put(batch...))
				if b.w.Bytes() != before+size/2 {
					t.Fatalf("of %d bytes %d are there", size, b.w.Bytes()-before)
				}
				x := b.w.Lsm()
				if !slices.Equal(all, x.All()) || !slices.Equal(tables, x.Tables()) || young != x.Young() {
					t.Fatalf("at %d: the Lsm is not as it was ahead of %s", limit, brief(batch))
				}
				b.wantAll(t, api.OK, crash(math.MaxInt))
				if b.w.Bytes() != before || b.w.Safe() != before {
					t.Fatalf("behind a Crash: %d bytes, %d safe, want %d", b.w.Bytes(), b.w.Safe(), before)
				}
				b.wantAll(t, api.OK, put(batch...))
			}
		}
	}
	if odd[false] == 0 || odd[true] == 0 {
		t.Fatalf("records of an even and of an odd number of bytes: %v", odd)
	}
}

// W1: by a Sync that stops nothing is safe that was not.
func TestSyncStops(t *testing.T) {
	for _, limit := range limits {
		for synced := range 4 {
			var steps []step
			for i := range 3 {
				steps = append(steps, put(many("k", i)...))
			}
			b := played(t, limit, slices.Insert(steps, synced, sync)...)
			safe := b.w.Safe()
			b.wantAll(t, api.OK, fail(0))
			b.wantAll(t, api.ErrState, sync, sync)
			if b.w.Safe() != safe {
				t.Fatalf("%d safe, %d were", b.w.Safe(), safe)
			}
			b.wantAll(t, api.OK, crash(0))
			if b.w.Bytes() != safe || b.w.Safe() != safe {
				t.Fatalf("behind a Crash: %d bytes, %d safe, want %d", b.w.Bytes(), b.w.Safe(), safe)
			}
		}
	}
}

// wrong are batches that are refused, by the error that they have.
func wrong() map[api.Errno][]pairs {
	long, fine := strings.Repeat("k", 201), pair("fine", "1")
	return map[api.Errno][]pairs{
		api.ErrSyntax: {{pair("", "v")}, {gone("")}, {{}}, {fine, pair("", "")}, {fine, gone(""), pair(long, "")}, {pair("", long)}},
		api.ErrFull: {
			{pair(long, "v")}, {gone(long)}, {pair("k", long)}, {fine, pair(strings.Repeat("k", 256), ""), pair("", "")}, {pair("k", strings.Repeat("\x00", 1<<16))},
			many("k", 21), make(pairs, 21), append(many("k", 20), gone("")), append(many("k", 20), api.Pair{Key: "g", Value: "v", Gone: true}),
		},
		api.ErrShape: {
			{{Key: "g", Value: "v", Gone: true}}, {{Value: "v", Gone: true}}, {{Key: long, Value: "v", Gone: true}}, {{Key: "g", Value: long, Gone: true}},
			{fine, {Key: "g", Value: "\x00", Gone: true}}, {pair("", ""), gone(long), {Key: "g", Value: "v", Gone: true}},
			append(many("k", 19), api.Pair{Key: "k0", Value: "v", Gone: true}), append(pairs{{Key: "k0", Value: "v", Gone: true}}, many("k", 19)...),
		},
	}
}

// W1: each error, by hand; of a batch that has several faults the one that is named first; nothing is changed by it.
func TestRefused(t *testing.T) {
	for _, limit := range limits {
		b := played(t, limit, put(pair("fine", "0"), pair("g", "there"), pair("k", "there")), sync, put(many("k", 5)...))
		for told, batches := range wrong() {
			for _, batch := range batches {
				b.wantAll(t, told, put(batch...))
			}
		}
		b.wantAll(t, api.OK, crash(math.MaxInt))
		for told, batches := range wrong() {
			for _, batch := range batches {
				b.wantAll(t, told, put(batch...))
			}
		}
	}
}

// W1: when it has stopped, that is told ahead of all else that is wrong.
func TestStoppedFirst(t *testing.T) {
	for _, s := range []step{put(pair("a", "1")), sync} {
		b := played(t, 3, put(many("k", 5)...), fail(0))
		b.wantAll(t, api.ErrState, s)
		for _, batches := range wrong() {
			for _, batch := range batches {
				b.wantAll(t, api.ErrState, put(batch...))
			}
		}
		b.wantAll(t, api.ErrState, sync, put(), put(many("k", 20)...))
	}
}

// stacked has so many Tables, each of as many Pairs as the limit says, and so many Pairs that are young.
func stacked(t *testing.T, limit, tables, young int) both {
	t.Helper()
	b := fresh(t, limit)
	for i := range tables {
		for j := range limit {
			b.wantAll(t, api.OK, put(pair("t"+strconv.Itoa(i)+"-"+strconv.Itoa(j), "1")))
		}
	}
	b.wantAll(t, api.OK, put(many("y", young)...))
	b.wantTold(t, young, tables, b.m.all()...)
	return b
}

// W1: of a batch that the Lsm refuses at any place nothing is done, also where Pairs ahead would have Flushed or Merged.
func TestRefusedByTheLsm(t *testing.T) {
	long := strings.Repeat("k", 201)
	for _, limit := range []int{1, 2, 3} {
		for tables := 6; tables <= 8; tables++ {
			for young := range limit {
				b := stacked(t, limit, tables, young)
				for place := range 20 {
					for told, p := range map[api.Errno][]api.Pair{api.ErrSyntax: {pair("", "v"), gone("")}, api.ErrFull: {pair(long, ""), gone(long), pair("k", long)}} {
						for _, bad := range p {
							batch := many("t", 20)
							batch[place] = bad
							b.wantAll(t, told, put(batch...), put(batch[:place+1]...), put(batch[place:]...))
						}
					}
				}
				b.wantTold(t, young, tables, b.m.all()...)
				b.wantAll(t, api.OK, put(many("t", 20)...), crash(math.MaxInt))
			}
		}
	}
}

// W1: a Put that stops takes nothing of the Lsm along, also where it would have Flushed or Merged.
func TestPutStopsOnTables(t *testing.T) {
	for _, limit := range []int{1, 2, 3} {
		for tables := 6; tables <= 8; tables++ {
			b := stacked(t, limit, tables, limit-1)
			b.wantAll(t, api.OK, fail(0))
			b.wantAll(t, api.ErrState, put(many("t", 20)...))
			b.wantTold(t, limit-1, tables, b.m.all()...)
		}
	}
}

// W1: what is refused ahead of its record is no step, nor is what only tells something.
func TestNoStep(t *testing.T) {
	for n := range 4 {
		b := played(t, 2, put(pair("a", "1")), fail(n))
		for range n {
			ask(t, b)
			b.wantAll(t, api.OK, put(gone("a")))
		}
		ask(t, b)
		b.wantAll(t, api.ErrState, sync)
	}
}

func ask(t *testing.T, b both) {
	t.Helper()
	for told, batches := range wrong() {
		for _, batch := range batches {
			b.wantAll(t, told, put(batch...))
		}
	}
	_, _, _ = b.w.Bytes(), b.w.Safe(), b.w.Lsm()
}

// log is of records that are empty, short, long, and as long as can be.
func log(t *testing.T, limit, synced int) both {
	t.Helper()
	text := strings.Repeat("\xff", 199)
	var longest pairs
	for i := range 20 {
		longest = append(longest, pair(string(rune('a'+i))+text, text+"v"))
	}
	b := fresh(t, limit)
	steps := []step{put(pair("a", "1")), put(), put(gone("a"), pair("b", "2")), put(longest...), put(pair("a", ""), gone("b"), gone("a"+text)), put()}
	b.wantAll(t, api.OK, slices.Insert(steps, synced, sync)...)
	return b
}

// keeps are the numbers of bytes at, and next to, where a record ends, or its half does; and those far from all.
func keeps(b both) []int {
	l := []int{math.MinInt, -1 << 32, -100, -2, -1, 0, 1, 2, 255, 256, 257, b.m.bytes() + 100, 1 << 32, math.MaxInt - 1, math.MaxInt}
	at := -b.m.safe
	for _, size := range append(slices.Clone(b.m.sizes), b.m.half) {
		l = append(l, at+1, at+2, at+3, at+size/2, at+size-1, at+size, at+size+1)
		at += size
	}
	return l
}

// W2: of each batch behind a Crash its whole record is left, and it is there whole, or not at all.
func TestCrashKeeps(t *testing.T) {
	for _, limit := range []int{2, 60} {
		for synced := range 7 {
			for _, keep := range keeps(log(t, limit, synced)) {
				b := log(t, limit, synced)
				b.wantAll(t, api.OK, crash(keep))
				if b.w.Safe() != b.w.Bytes() {
					t.Fatalf("of %d bytes %d are safe", b.w.Bytes(), b.w.Safe())
				}
				b.wantAll(t, api.OK, turns()...)
			}
		}
	}
}

// W2: each number of bytes there can be, also where the last record is cut off by a Put that stopped.
func TestCrashAtEachByte(t *testing.T) {
	steps := []step{put(pair("a", "1")), put(), sync, put(gone("a"), pair("b", "2")), put(), put(pair("a", "3"), gone("b"))}
	for _, limit := range limits {
		for keep := -3; keep < 50; keep++ {
			b := played(t, limit, steps...)
			b.wantAll(t, api.OK, crash(keep))
			b.wantAll(t, api.OK, steps...)
			b.wantAll(t, api.OK, fail(0))
			b.wantAll(t, api.ErrState, put(many("k", 7)...))
			b.wantAll(t, api.OK, crash(keep))
			b.wantAll(t, api.OK, steps...)
		}
	}
}

// W2: by hand: all of a batch is there from the last byte of its record on, and nothing of it before.
func TestWholeOrNot(t *testing.T) {
	first, second := many("a", 7), many("b", 20)
	for _, limit := range limits {
		size := sizeOf(t, first) + sizeOf(t, second)
		for keep := -1; keep <= size+1; keep++ {
			w, _ := wal.New(limit)
			wantError(t, "Put", w.Put(first), api.OK)
			wantError(t, "Put", w.Put(second), api.OK)
			w.Crash(keep)
			var want pairs
			bytes := 0
			if keep >= sizeOf(t, first) {
				want, bytes = append(want, first...), sizeOf(t, first)
			}
			if keep >= size {
				want, bytes = append(want, second...), size
			}
			want = slices.DeleteFunc(want, func(p api.Pair) bool { return p.Gone })
			sort.Slice(want, func(i, j int) bool { return want[i].Key < want[j].Key })
			if got := w.Lsm().All(); !slices.Equal(got, want) || w.Bytes() != bytes || w.Safe() != bytes {
				t.Fatalf("Crash(%d): %d bytes, %d safe, %s, want %d, %s", keep, w.Bytes(), w.Safe(), brief(got), bytes, brief(want))
			}
		}
	}
}

// W2: a Crash behind another one, behind a Sync, and of a Wal that is empty, changes nothing, whatever it keeps.
func TestCrashOfWhatIsSafe(t *testing.T) {
	for _, limit := range limits {
		for _, keep := range []int{math.MinInt, -1, 0, 1, 2, 3, 1000, math.MaxInt} {
			fresh(t, limit).wantCrashed(t, keep)
			played(t, limit, append(turns(), sync)...).wantCrashed(t, keep)
			played(t, limit, append(turns(), put(many("z", 4)...), crash(keep))...).wantCrashed(t, keep)
			played(t, limit, append(turns(), put(many("z", 4)...), crash(-keep))...).wantCrashed(t, keep)
		}
	}
}

func (b both) wantCrashed(t *testing.T, keep int) {
	t.Helper()
	bytes, all := b.w.Bytes(), b.w.Lsm().All()
	for range 2 {
		b.wantAll(t, api.OK, crash(keep))
		if b.w.Bytes() != bytes || b.w.Safe() != bytes || !slices.Equal(b.w.Lsm().All(), all) {
			t.Fatalf("Crash(%d): %d bytes, %d safe, want %d", keep, b.w.Bytes(), b.w.Safe(), bytes)
		}
	}
}

// W2: behind a Crash what Fail said is forgotten, whether it was ahead, due, or done.
func TestCrashForgetsFail(t *testing.T) {
	for _, n := range []int{-1, 0, 1, 2, 5} {
		for done := range 4 {
			b := played(t, 2, put(pair("a", "1")), sync, fail(n))
			for _, s := range turns()[:done] {
				b.wantStep(t, s)
			}
			b.wantAll(t, api.OK, crash(0))
			b.wantAll(t, api.OK, turns()...)
			b.wantAll(t, api.OK, fail(1), put())
			b.wantAll(t, api.ErrState, put())
		}
	}
}

// W2: behind a Crash it goes on where it was: what was lost does not come back, whatever is Put over it.
func TestGoesOn(t *testing.T) {
	for _, limit := range limits {
		b := played(t, limit, put(pair("a", "1")), sync)
		for i := range 30 {
			b.wantAll(t, api.OK, put(many("lost", i%21)...), crash(i))
			b.wantAll(t, api.OK, put(pair("k"+strconv.Itoa(i), "")), crash(math.MaxInt))
			b.wantAll(t, api.OK, put(), sync, put(gone("a")), crash(1), fail(i%3))
			for range i%3 + 1 {
				b.wantStep(t, put(many("stopped", i%21)...))
			}
			b.wantAll(t, api.OK, crash(i/3))
		}
	}
}

// W1, W2: keys and values of any bytes, in batches of one and of many.
func TestAnyBytes(t *testing.T) {
	for _, limit := range limits {
		b := fresh(t, limit)
		for i, key := range oddTexts {
			value := oddTexts[(i*7+3)%len(oddTexts)]
			b.wantAll(t, api.OK, put(pair(key, value)), put(gone(key), pair(value, key), pair(key, "")), crash(math.MaxInt))
		}
		for i := range len(oddTexts) - 20 {
			var batch pairs
			for j, key := range oddTexts[i : i+20] {
				batch = append(batch, pair(key, oddTexts[j]))
			}
			b.wantAll(t, api.OK, put(batch...), sync, put(gone(oddTexts[i])), crash(i))
		}
	}
}

// W1: keys and values of each length there may be.
func TestEachLength(t *testing.T) {
	b := fresh(t, 60)
	for n := range 201 {
		key, value := strings.Repeat("k", max(n, 1)), strings.Repeat("v", n)
		b.wantAll(t, api.OK, put(pair(key, "1"), pair("k", value)), put(pair(key, value)), put(gone(key)), crash(math.MaxInt))
	}
}

// text is of the memory of bytes, which can be written into behind a call.
func text(memory []byte) string { return unsafe.String(unsafe.SliceData(memory), len(memory)) }

// P2: what is handed in is not kept: the list, and the memory of keys and values, may be another's behind the call.
func TestArgumentsAreNotKept(t *testing.T) {
	for _, limit := range limits {
		b := fresh(t, limit)
		var memory [][]byte
		list := make(pairs, 0, 20)
		for i := range 12 {
			list = list[:0]
			batch := many("k"+strconv.Itoa(i), i)
			for _, p := range batch {
				key, value := []byte(p.Key), []byte(p.Value)
				memory = append(memory, key, value)
				list = append(list, api.Pair{Key: text(key), Value: text(value), Gone: p.Gone})
			}
			wantError(t, "Put", b.w.Put(list), b.m.do(t, put(batch...)))
			for j := range list[:cap(list)] {
				list[:cap(list)][j] = pair("written", "over")
			}
			for _, bytes := range memory {
				copy(bytes, strings.Repeat("z", len(bytes)))
			}
			b.want(t, "written over")
		}
		b.wantAll(t, api.OK, crash(math.MaxInt), put(gone("k111")), crash(0))
	}
}

// P2, P4: the list is not written into, nor what lies behind its length, whatever is told of it.
func TestArgumentsAreNotWritten(t *testing.T) {
	batches := []pairs{nil, many("k", 1), many("k", 20)}
	for _, l := range wrong() {
		batches = append(batches, l...)
	}
	for _, limit := range limits {
		for _, n := range []int{-1, 0} {
			for _, batch := range batches {
				b := played(t, limit, put(pair("a", "1")), fail(n))
				whole := append(slices.Clone(batch), pair("behind", "1"), gone("it"), pair("", ""))
				before := slices.Clone(whole)
				b.wantStep(t, put(whole[:len(batch)]...))
				b.wantStep(t, sync)
				b.wantStep(t, crash(math.MaxInt))
				if !slices.Equal(whole, before) {
					t.Fatalf("%s was written into: %s", brief(before), brief(whole))
				}
			}
		}
	}
}

// P2: two Wals do not share, also where they began the same, whichever goes on.
func TestTwoWals(t *testing.T) {
	r := rand.New(rand.NewSource(21))
	for _, limit := range limits {
		start := []step{put(pair("k1", "1"), gone("k2")), sync, put(pair("k3", "3"))}
		two := []both{played(t, limit, start...), played(t, limit, start...), fresh(t, limit)}
		if two[0].w.Lsm() == two[1].w.Lsm() {
			t.Fatalf("two Wals have one Lsm")
		}
		for range 200 {
			two[r.Intn(2)].wantStep(t, anyStep(r, 12))
			two[0].want(t, "the first")
			two[1].want(t, "the second")
		}
		two[2].want(t, "one that nobody used")
		two[2].wantTold(t, 0, 0)
	}
}

// P2: the Lsm that is told is the Wal's own: it goes along with what is Put.
func TestLsmIsItsOwn(t *testing.T) {
	b := fresh(t, 3)
	x := b.w.Lsm()
	for _, s := range append(turns(), put(gone("")), fail(0), put(pair("b", "3")), sync) {
		b.wantStep(t, s)
		if x != b.w.Lsm() || !slices.Equal(x.All(), b.m.all()) {
			t.Fatalf("%v: it is another one", s)
		}
	}
}

// P2: asking, however often and in whatever order, changes nothing; what is told can be written into.
func TestAskingChangesNothing(t *testing.T) {
	b := played(t, 3, put(many("k", 10)...), sync, put(gone("k0"), pair("l", "")))
	for range 3 {
		_, _ = b.w.Safe(), b.w.Bytes()
		all, tables := b.w.Lsm().All(), b.w.Lsm().Tables()
		for i := range all {
			all[i] = gone("written")
		}
		for i := range tables {
			tables[i] = "written"
		}
		b.want(t, "asked")
	}
	b.wantAll(t, api.OK, crash(0))
}

// anyStep is mostly of few keys, so that they come again; some are wrong.
func anyStep(r *rand.Rand, keys int) step {
	switch r.Intn(20) {
	case 0, 1:
		return crash(r.Intn(120) - 5)
	case 2:
		return crash(math.MaxInt)
	case 3:
		return fail(r.Intn(8) - 1)
	case 4, 5, 6:
		return sync
	case 7:
		return put(many("m", r.Intn(23))...)
	}
	var batch pairs
	for range r.Intn(6) {
		batch = append(batch, anyPair(r, keys))
	}
	return put(batch...)
}

func anyPair(r *rand.Rand, keys int) api.Pair {
	p := pair("k"+strconv.Itoa(r.Intn(keys)), strconv.Itoa(r.Intn(1000)))
	switch r.Intn(60) {
	case 0:
		p.Key = ""
	case 1:
		p.Key = strings.Repeat("k", 199+r.Intn(4))
	case 2:
		p.Value = strings.Repeat("v", 199+r.Intn(4))
	case 3:
		p.Gone = true
	case 4, 5, 6:
		p.Key = oddTexts[r.Intn(len(oddTexts))]
	}
	if r.Intn(3) == 0 {
		return gone(p.Key)
	}
	return p
}

// W1, W2: many steps at random, refused ones and Crashes among them, against the test's own reckoning.
func TestManySteps(t *testing.T) {
	r := rand.New(rand.NewSource(22))
	for _, limit := range []int{1, 2, 3, 7, 20, 59, 60} {
		for _, keys := range []int{1, 2, 5, 20, 100} {
			for range 5 {
				b := fresh(t, limit)
				for range 100 {
					b.wantStep(t, anyStep(r, keys))
				}
			}
		}
	}
}

// W1, W2: all there are of five steps, of few kinds, each at a limit of 1, 2 or 3.
func TestEveryShortWay(t *testing.T) {
	kinds := []step{
		put(pair("a", "1"), pair("b", "")), put(gone("a")), put(), put(pair("c", ""), gone("")), sync,
		fail(-1), fail(0), fail(1), crash(0), crash(3), crash(math.MaxInt),
	}
	n := len(kinds)
	for i := range n * n * n * n * n {
		b := fresh(t, i%3+1)
		for left, done := i, 0; done < 5; left, done = left/n, done+1 {
			s := kinds[left%n]
			want := b.m.do(t, s)
			wantError(t, s.String(), do(b.w, s), want)
		}
		b.want(t, fmt.Sprintf("way %d", i))
	}
}

// W1, W2: many batches, of which a Crash keeps all, some, and those that are safe.
func TestManyBatches(t *testing.T) {
	for _, limit := range []int{2, 60} {
		b := fresh(t, limit)
		for i := range 300 {
			s := put(many(strconv.Itoa(i%17)+"-", i%21)...)
			wantError(t, s.String(), do(b.w, s), b.m.do(t, s))
			if i == 150 {
				b.wantAll(t, api.OK, sync)
			}
		}
		b.want(t, "many")
		b.wantAll(t, api.OK, crash(math.MaxInt), put(many("z", 20)...), crash(0))
	}
}
