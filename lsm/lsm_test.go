package lsm_test

import (
	"bytes"
	"fmt"
	"math"
	"math/rand"
	"slices"
	"sort"
	"strconv"
	"strings"
	"testing"
	"unsafe"

	"witnessbox/api"
	"witnessbox/lsm"
	"witnessbox/plain"
	"witnessbox/table"
)

var (
	limits = []int{1, 2, 3, 59, 60}
	// None of these can be a key that is there.
	noKeys = []string{"", strings.Repeat("k", 201), strings.Repeat("\x00", 256), strings.Repeat("k", 1<<16)}
)

// oddKeys are of any bytes, some of them no text, some the beginning of another one.
var oddKeys = []string{
	"\x00", "\x00\x00", "\x00\x01", "\x01", "\n", " ", "  ", "=", "-", "0", "9", "10", "A", "Z", "a", "a\x00", "a\x00b", "aa", "ab", "a\xff",
	"b", "\x7f", "\x80", "\x80\x80", "\xc3", "\u00e9", "e\u0301", "\u20ac", "\U0001f600", "\xed\xa0\x80", "\xfe", "\xff", "\xff\x00", "\xff\xff",
	strings.Repeat("a", 199), strings.Repeat("a", 200), strings.Repeat("\xff", 200), strings.Repeat("\x00", 200),
}

// step is one call that may change an Lsm.
type step struct {
	what string
	p    api.Pair
}

var flush, merge = step{what: "Flush"}, step{what: "Merge"}

func put(key, value string) step { return step{what: "Put", p: pair(key, value)} }

func drop(key string) step { return step{what: "Drop", p: gone(key)} }

func pair(key, value string) api.Pair { return api.Pair{Key: key, Value: value} }

func gone(key string) api.Pair { return api.Pair{Key: key, Gone: true} }

// String keeps what is told of a fault to a line.
func (s step) String() string {
	return fmt.Sprintf("%s %.20q (%d) %.20q (%d)", s.what, s.p.Key, len(s.p.Key), s.p.Value, len(s.p.Value))
}

// brief does so, too, of lists.
func brief(v any) string { return fmt.Sprintf("%.500q", fmt.Sprint(v)) }

func do(x *lsm.Lsm, s step) error {
	switch s.what {
	case "Put":
		return x.Put(s.p.Key, s.p.Value)
	case "Drop":
		return x.Drop(s.p.Key)
	case "Flush":
		return x.Flush()
	}
	return x.Merge()
}

// model is L1, word for word, on lists.
type model struct {
	limit  int
	young  []api.Pair
	tables [][]api.Pair // the youngest first
}

func (m *model) do(s step) api.Errno {
	switch s.what {
	case "Flush":
		return m.flush()
	case "Merge":
		return m.merge()
	}
	return m.set(s.p)
}

func (m *model) set(p api.Pair) api.Errno {
	if p.Key == "" {
		return api.ErrSyntax
	}
	if len(p.Key) > 200 || len(p.Value) > 200 {
		return api.ErrFull
	}
	m.young = slices.DeleteFunc(m.young, func(old api.Pair) bool { return old.Key == p.Key })
	m.young = append(m.young, p)
	if len(m.young) == m.limit {
		m.flush()
	}
	return api.OK
}

func (m *model) flush() api.Errno {
	if len(m.young) == 0 {
		return api.ErrState
	}
	if len(m.tables) == 8 {
		m.merge()
	}
	m.tables = append([][]api.Pair{byKey(m.young)}, m.tables...)
	m.young = nil
	return api.OK
}

func (m *model) merge() api.Errno {
	if len(m.tables) == 0 {
		return api.ErrState
	}
	left := there(m.tables)
	m.tables = nil
	if len(left) > 0 {
		m.tables = [][]api.Pair{left}
	}
	return api.OK
}

func (m *model) levels() [][]api.Pair { return append([][]api.Pair{m.young}, m.tables...) }

func (m *model) get(key string) (string, api.Errno) {
	for _, level := range m.levels() {
		for _, p := range level {
			if p.Key == key && p.Gone {
				return "", api.ErrNone
			}
			if p.Key == key {
				return p.Value, api.OK
			}
		}
	}
	return "", api.ErrNone
}

func byKey(l []api.Pair) []api.Pair {
	out := slices.Clone(l)
	sort.Slice(out, func(i, j int) bool { return bytes.Compare([]byte(out[i].Key), []byte(out[j].Key)) < 0 })
	return out
}

func there(levels [][]api.Pair) []api.Pair {
	var out []api.Pair
	seen := map[string]bool{}
	for _, level := range levels {
		for _, p := range level {
			if !seen[p.Key] && !p.Gone {
				out = append(out, p)
			}
			seen[p.Key] = true
		}
	}
	return byKey(out)
}

// both is an Lsm and what the test reckons by itself.
type both struct {
	x *lsm.Lsm
	m *model
}

func fresh(t *testing.T, limit int) both {
	t.Helper()
	x, err := lsm.New(limit)
	if err != nil || x == nil {
		t.Fatalf("New(%d): an Lsm: %v, %v", limit, x != nil, err)
	}
	return both{x, &model{limit: limit}}
}

// played has done steps, each of which must go well.
func played(t *testing.T, limit int, steps ...step) both {
	t.Helper()
	b := fresh(t, limit)
	for _, s := range steps {
		b.wantDone(t, s)
	}
	return b
}

// stacked has so many Tables of one Pair each, "t0" the oldest, and nothing that is young.
func stacked(t *testing.T, limit, tables int) both {
	t.Helper()
	b := fresh(t, limit)
	for i := range tables {
		b.wantDone(t, put("t"+strconv.Itoa(i), strconv.Itoa(i)))
		if limit > 1 {
			b.wantDone(t, flush)
		}
	}
	b.wantShape(t, 0, tables)
	return b
}

// wantError also asks that an Errno is told, never OK.
func wantError(t *testing.T, what string, err error, want api.Errno) {
	t.Helper()
	if want == api.OK && err != nil || want != api.OK && (err == nil || plain.Told(err) != want) {
		t.Fatalf("%s: error %v, want %v", what, err, want)
	}
}

// wantStep does a step in both, asks for all that can be told behind it, and tells its error.
func (b both) wantStep(t *testing.T, s step, others ...string) api.Errno {
	t.Helper()
	want := b.m.do(s)
	wantError(t, s.String(), do(b.x, s), want)
	b.want(t, s.String(), append(others, s.p.Key)...)
	return want
}

func (b both) wantDone(t *testing.T, s step) {
	t.Helper()
	if told := b.wantStep(t, s); told != api.OK {
		t.Fatalf("%v: %v, want none", s, told)
	}
}

// wantRefused asks that nothing has changed by what was refused.
func (b both) wantRefused(t *testing.T, s step, want api.Errno) {
	t.Helper()
	before := b.x.Tables()
	wantError(t, s.String(), do(b.x, s), want)
	if !slices.Equal(before, b.x.Tables()) {
		t.Fatalf("%v: refused, and the Tables have changed", s)
	}
	b.want(t, "refused: "+s.String(), s.p.Key)
}

func (b both) wantShape(t *testing.T, young, tables int) {
	t.Helper()
	if b.x.Young() != young || len(b.x.Tables()) != tables {
		t.Fatalf("%d young, %d Tables, want %d, %d", b.x.Young(), len(b.x.Tables()), young, tables)
	}
}

// want asks for all that an Lsm can tell, of the keys that it has and of others.
func (b both) want(t *testing.T, what string, others ...string) {
	t.Helper()
	if got := b.x.Young(); got != len(b.m.young) {
		t.Fatalf("%s: Young is %d, want %d", what, got, len(b.m.young))
	}
	if got, want := b.x.All(), there(b.m.levels()); !slices.Equal(got, want) {
		t.Fatalf("%s: All is %s, want %s", what, brief(got), brief(want))
	}
	wantTables(t, what, b.x, b.m.tables)
	keys := slices.Concat(others, noKeys)
	for _, level := range b.m.levels() {
		for _, p := range level {
			keys = append(keys, p.Key)
		}
	}
	for _, key := range keys {
		value, told := b.m.get(key)
		if got, err := b.x.Get(key); got != value || plain.Told(err) != told {
			t.Fatalf("%s: Get(%.20q) = %.20q, %v, want %.20q, %v", what, key, got, err, value, told)
		}
	}
}

func wantTables(t *testing.T, what string, x *lsm.Lsm, want [][]api.Pair) {
	t.Helper()
	got := x.Tables()
	if len(got) != len(want) {
		t.Fatalf("%s: %d Tables, want %d", what, len(got), len(want))
	}
	for i, pairs := range want {
		b, err := table.Build(pairs)
		if err != nil {
			t.Fatalf("%s: what Table %d must have cannot be built: %v", what, i, err)
		}
		if got[i] != b {
			t.Fatalf("%s: Table %d is %s, want %s", what, i, brief(got[i]), brief(b))
		}
	}
}

// L1: New of each limit that may be, and of others.
func TestNew(t *testing.T) {
	for _, limit := range []int{math.MinInt, -1 << 32, -61, -60, -2, -1, 0, 61, 62, 63, 100, 200, 256, 257, 1<<32 + 1, math.MaxInt} {
		x, err := lsm.New(limit)
		if x != nil {
			t.Errorf("New(%d): an Lsm beside an error", limit)
		}
		wantError(t, fmt.Sprintf("New(%d)", limit), err, api.ErrRange)
	}
	for limit := 1; limit <= 60; limit++ {
		b := fresh(t, limit)
		b.want(t, "new", oddKeys...)
		b.wantShape(t, 0, 0)
		b.wantRefused(t, flush, api.ErrState)
		b.wantRefused(t, merge, api.ErrState)
	}
}

// L1: step by step, written out by hand, at a limit of 3.
func TestSteps(t *testing.T) {
	type pairs = []api.Pair
	b := fresh(t, 3)
	first := pairs{pair("a", "1"), pair("b", "2"), gone("c")}
	second := pairs{gone("a"), pair("d", "5")}
	for i, c := range []struct {
		s      step
		told   api.Errno
		young  int
		tables []pairs
		all    pairs
	}{
		{flush, api.ErrState, 0, nil, nil},
		{merge, api.ErrState, 0, nil, nil},
		{put("b", "1"), api.OK, 1, nil, pairs{pair("b", "1")}},
		{merge, api.ErrState, 1, nil, pairs{pair("b", "1")}},
		{put("a", "1"), api.OK, 2, nil, pairs{pair("a", "1"), pair("b", "1")}},
		{put("b", "2"), api.OK, 2, nil, pairs{pair("a", "1"), pair("b", "2")}},
		{put("", "2"), api.ErrSyntax, 2, nil, pairs{pair("a", "1"), pair("b", "2")}},
		{drop("c"), api.OK, 0, []pairs{first}, pairs{pair("a", "1"), pair("b", "2")}},
		{flush, api.ErrState, 0, []pairs{first}, pairs{pair("a", "1"), pair("b", "2")}},
		{drop("a"), api.OK, 1, []pairs{first}, pairs{pair("b", "2")}},
		{put("d", "5"), api.OK, 2, []pairs{first}, pairs{pair("b", "2"), pair("d", "5")}},
		{flush, api.OK, 0, []pairs{second, first}, pairs{pair("b", "2"), pair("d", "5")}},
		{put("a", ""), api.OK, 1, []pairs{second, first}, pairs{pair("a", ""), pair("b", "2"), pair("d", "5")}},
		{drop("b"), api.OK, 2, []pairs{second, first}, pairs{pair("a", ""), pair("d", "5")}},
		{merge, api.OK, 2, []pairs{{pair("b", "2"), pair("d", "5")}}, pairs{pair("a", ""), pair("d", "5")}},
		{merge, api.OK, 2, []pairs{{pair("b", "2"), pair("d", "5")}}, pairs{pair("a", ""), pair("d", "5")}},
		{flush, api.OK, 0, []pairs{{pair("a", ""), gone("b")}, {pair("b", "2"), pair("d", "5")}}, pairs{pair("a", ""), pair("d", "5")}},
		{merge, api.OK, 0, []pairs{{pair("a", ""), pair("d", "5")}}, pairs{pair("a", ""), pair("d", "5")}},
		{drop("d"), api.OK, 1, []pairs{{pair("a", ""), pair("d", "5")}}, pairs{pair("a", "")}},
		{drop("a"), api.OK, 2, []pairs{{pair("a", ""), pair("d", "5")}}, nil},
		{flush, api.OK, 0, []pairs{{gone("a"), gone("d")}, {pair("a", ""), pair("d", "5")}}, nil},
		{merge, api.OK, 0, nil, nil},
		{merge, api.ErrState, 0, nil, nil},
	} {
		what := fmt.Sprintf("step %d, %v", i, c.s)
		if told := b.wantStep(t, c.s, "a", "b", "c", "d", "e"); told != c.told {
			t.Fatalf("%s: %v, want %v", what, told, c.told)
		}
		b.wantShape(t, c.young, len(c.tables))
		wantTables(t, what, b.x, c.tables)
		if got := b.x.All(); !slices.Equal(got, c.all) {
			t.Fatalf("%s: All is %s, want %s", what, brief(got), brief(c.all))
		}
	}
}

// L1: each error of each call, by hand.
func TestErrorsByHand(t *testing.T) {
	b := fresh(t, 2)
	wantError(t, "Flush of nothing", b.x.Flush(), api.ErrState)
	wantError(t, "Merge of nothing", b.x.Merge(), api.ErrState)
	wantError(t, "Put of no key", b.x.Put("", "v"), api.ErrSyntax)
	wantError(t, "Drop of no key", b.x.Drop(""), api.ErrSyntax)
	wantError(t, "Put of a long key", b.x.Put(strings.Repeat("k", 201), "v"), api.ErrFull)
	wantError(t, "Put of a long value", b.x.Put("k", strings.Repeat("v", 201)), api.ErrFull)
	wantError(t, "Drop of a long key", b.x.Drop(strings.Repeat("k", 201)), api.ErrFull)
	wantError(t, "Put", b.x.Put("k", "v"), api.OK)
	wantError(t, "Merge of what is young alone", b.x.Merge(), api.ErrState)
	wantError(t, "Flush", b.x.Flush(), api.OK)
	wantError(t, "Flush again", b.x.Flush(), api.ErrState)
	wantError(t, "Drop", b.x.Drop("k"), api.OK)
	wantError(t, "Flush of what is Gone", b.x.Flush(), api.OK)
	wantError(t, "Merge", b.x.Merge(), api.OK)
	wantError(t, "Merge of nothing that is left", b.x.Merge(), api.ErrState)
}

// L1: the bytes of Tables, written out by hand; the sums are of another program.
func TestBytesByHand(t *testing.T) {
	b := played(t, 2, put("b", "1"), drop("a"), put("a", "xy"), flush)
	want := []string{
		"\x01a\x00\x02xy" + "\x00\x00\x00\x01" + "\x3e\xec\xde\x38",
		"\x01a\x01\x00" + "\x01b\x00\x011" + "\x00\x00\x00\x02" + "\x5a\x6d\x82\x65",
	}
	if got := b.x.Tables(); !slices.Equal(got, want) {
		t.Errorf("Tables are %q, want %q", got, want)
	}
	b.wantDone(t, merge)
	want = []string{"\x01a\x00\x02xy" + "\x01b\x00\x011" + "\x00\x00\x00\x02" + "\x50\xdf\xdf\xe6"}
	if got := b.x.Tables(); !slices.Equal(got, want) {
		t.Errorf("merged: Tables are %q, want %q", got, want)
	}
}

// L1: the Put or Drop that makes the Store as long as limit Flushes it, no other does, at every limit.
func TestLimit(t *testing.T) {
	for limit := 1; limit <= 60; limit++ {
		for _, last := range []step{put("last", ""), drop("last")} {
			b := fresh(t, limit)
			for round := 1; round <= 2; round++ {
				for n := 1; n < limit; n++ {
					key := fmt.Sprintf("%02d", n*7%60)
					b.wantDone(t, put(key, strconv.Itoa(round)))
					b.wantShape(t, n, round-1)
				}
				b.wantDone(t, last)
				b.wantShape(t, 0, round)
			}
		}
	}
}

// L1: a key that is there already does not make the Store grow: nothing is Flushed, however often it is put or dropped.
func TestPutAnew(t *testing.T) {
	for _, limit := range []int{2, 3, 59, 60} {
		var steps []step
		for n := range limit - 1 {
			steps = append(steps, put(fmt.Sprintf("%02d", n), "first"))
		}
		b := played(t, limit, steps...)
		for _, n := range []int{0, (limit - 1) / 2, limit - 2} {
			key := fmt.Sprintf("%02d", n)
			for _, s := range []step{put(key, "anew"), put(key, "anew"), drop(key), drop(key), put(key, ""), put(key, strings.Repeat("v", 200)), drop(key)} {
				b.wantDone(t, s)
				b.wantShape(t, limit-1, 0)
			}
		}
		b.wantDone(t, put("more", "v"))
		b.wantShape(t, 0, 1)
		b.wantDone(t, put("00", "above"))
		b.wantShape(t, 1, 1)
	}
}

// L1: the eighth Table stands beside the seven, and the ninth above one that they all became, by Flush itself.
func TestNinthByFlush(t *testing.T) {
	for _, limit := range []int{2, 3, 59, 60} {
		b := stacked(t, limit, 7)
		b.wantDone(t, put("t0", "anew"))
		b.wantDone(t, flush)
		b.wantShape(t, 0, 8)
		b.wantDone(t, drop("t1"))
		b.wantShape(t, 1, 8)
		b.wantDone(t, flush)
		b.wantShape(t, 0, 2)
		wantTables(t, "nine", b.x, [][]api.Pair{
			{gone("t1")},
			{pair("t0", "anew"), pair("t1", "1"), pair("t2", "2"), pair("t3", "3"), pair("t4", "4"), pair("t5", "5"), pair("t6", "6")},
		})
		for n := 3; n <= 8; n++ {
			b.wantDone(t, put("more", strconv.Itoa(n)))
			b.wantDone(t, flush)
			b.wantShape(t, 0, n)
		}
		b.wantDone(t, put("t1", "back"))
		b.wantDone(t, flush)
		b.wantShape(t, 0, 2)
	}
}

// L1: the same by a Put or Drop that Flushes.
func TestNinthByPutOrDrop(t *testing.T) {
	for _, limit := range limits {
		for _, last := range []step{put("z", "v"), put("t3", "anew"), drop("t3"), drop("none")} {
			b := stacked(t, limit, 8)
			for n := range limit - 1 {
				b.wantDone(t, put(fmt.Sprintf("%02d", n), "young"))
				b.wantShape(t, n+1, 8)
			}
			b.wantDone(t, last)
			b.wantShape(t, 0, 2)
			wantTables(t, last.String(), b.x, [][]api.Pair{
				b.m.tables[0],
				{pair("t0", "0"), pair("t1", "1"), pair("t2", "2"), pair("t3", "3"), pair("t4", "4"), pair("t5", "5"), pair("t6", "6"), pair("t7", "7")},
			})
			b.wantDone(t, merge)
			b.wantShape(t, 0, 1)
		}
	}
}

// L1: at MaxTables, all of them Gone: they are left out, and what was young is the one Table.
func TestNinthAboveNone(t *testing.T) {
	for _, limit := range limits {
		b := fresh(t, limit)
		for i := range 8 {
			b.wantDone(t, drop("t"+strconv.Itoa(i%3)))
			if limit > 1 {
				b.wantDone(t, flush)
			}
		}
		b.wantShape(t, 0, 8)
		b.wantDone(t, drop("t0"))
		if limit > 1 {
			b.wantShape(t, 1, 8)
			b.wantDone(t, flush)
		}
		b.wantShape(t, 0, 1)
		wantTables(t, "nine that are Gone", b.x, [][]api.Pair{{gone("t0")}})
	}
}

// L1: how many Tables there are, one more at each Put at a limit of 1, over many rounds.
func TestManyRounds(t *testing.T) {
	b := fresh(t, 1)
	tables := 0
	for i := range 100 {
		b.wantDone(t, put("k"+strconv.Itoa(i*7%30), strconv.Itoa(i)))
		tables++
		if tables > 8 {
			tables = 2
		}
		b.wantShape(t, 0, tables)
	}
}

// L1: a Merge of one Table leaves out what is Gone, and nothing else.
func TestMergeOfOne(t *testing.T) {
	b := played(t, 60, put("a", "1"), put("c", ""), put("b", "2"), flush)
	before := b.x.Tables()
	b.wantDone(t, merge)
	b.wantDone(t, merge)
	if !slices.Equal(before, b.x.Tables()) {
		t.Errorf("a Merge of one Table without what is Gone changed it")
	}
	b = played(t, 60, put("a", "1"), drop("b"), put("c", ""), drop("d"), flush, merge)
	wantTables(t, "one Table", b.x, [][]api.Pair{{pair("a", "1"), pair("c", "")}})
	b.wantDone(t, merge)
	wantTables(t, "one Table, again", b.x, [][]api.Pair{{pair("a", "1"), pair("c", "")}})
}

// L1: a Merge in which all are Gone leaves no Table, with a Store that has Pairs and with one that has none.
func TestMergeOfGone(t *testing.T) {
	for _, steps := range [][]step{
		{drop("a"), flush},
		{drop("a"), drop("b"), flush},
		{drop("a"), flush, drop("a"), flush},
		{drop("b"), flush, drop("a"), flush},
		{put("a", "1"), flush, drop("a"), flush},
		{put("a", "1"), drop("a"), flush},
		{put("a", "1"), put("b", "2"), flush, drop("b"), flush, drop("a"), flush},
		{put("a", "1"), flush, drop("a"), flush, put("a", "2"), flush, drop("a"), flush},
	} {
		for _, young := range [][]step{nil, {put("a", "young")}, {drop("a")}, {put("c", ""), drop("b")}} {
			b := played(t, 60, slices.Concat(steps, young)...)
			b.wantDone(t, merge)
			b.wantShape(t, len(young), 0)
			b.wantRefused(t, merge, api.ErrState)
			if len(young) == 0 {
				b.wantRefused(t, flush, api.ErrState)
				continue
			}
			b.wantDone(t, flush)
			b.wantShape(t, 0, 1)
		}
	}
}

// L1: one key that is not there, there, or Gone in the Store and each of three Tables: what is told ahead of a Flush and a Merge, between them, and behind them.
func TestEachLevel(t *testing.T) {
	ways := []string{"none", "there", "gone"}
	set := func(b both, way string, level int) {
		switch way {
		case "there":
			b.wantDone(t, put("k", strconv.Itoa(level)))
		case "gone":
			b.wantDone(t, drop("k"))
		}
	}
	for i := range 81 {
		marks := []string{ways[i/27], ways[i/9%3], ways[i/3%3], ways[i%3]} // the oldest first
		for _, then := range [][]step{{merge}, {flush}, {flush, merge}, {merge, flush}, {merge, merge}, {merge, flush, merge}} {
			b := fresh(t, 60)
			for level, way := range marks {
				b.wantDone(t, put("side", strconv.Itoa(level)))
				set(b, way, level)
				if level < 3 {
					b.wantDone(t, flush)
				}
			}
			value, told := "", api.ErrNone
			for level, way := range marks {
				switch way {
				case "there":
					value, told = strconv.Itoa(level), api.OK
				case "gone":
					value, told = "", api.ErrNone
				}
			}
			for _, s := range append([]step{{what: "look"}}, then...) {
				if s.what != "look" {
					b.wantDone(t, s)
				}
				if got, err := b.x.Get("k"); got != value || plain.Told(err) != told {
					t.Fatalf("%v, %v: Get = %q, %v, want %q, %v", marks, s, got, err, value, told)
				}
			}
		}
	}
}

// L1: a Gone Pair that is young hides what a Table has, and one of a Table is hidden by what is young.
func TestGone(t *testing.T) {
	b := played(t, 60, put("a", "old"), put("b", "old"), flush, drop("a"))
	wantAll(t, b.x, pair("b", "old"))
	b.wantDone(t, merge)
	wantTables(t, "the Store stays above", b.x, [][]api.Pair{{pair("a", "old"), pair("b", "old")}})
	wantAll(t, b.x, pair("b", "old"))
	b.wantDone(t, flush)
	wantAll(t, b.x, pair("b", "old"))
	b.wantDone(t, put("a", "new"))
	wantAll(t, b.x, pair("a", "new"), pair("b", "old"))
	b.wantDone(t, merge)
	wantTables(t, "merged below", b.x, [][]api.Pair{{pair("b", "old")}})
	wantAll(t, b.x, pair("a", "new"), pair("b", "old"))
}

func wantAll(t *testing.T, x *lsm.Lsm, want ...api.Pair) {
	t.Helper()
	if got := x.All(); !slices.Equal(got, want) {
		t.Errorf("All is %s, want %s", brief(got), brief(want))
	}
}

// L1: a Merge leaves the Store as it is, also where it has Pairs of the same keys.
func TestMergeLeavesTheStore(t *testing.T) {
	b := played(t, 60, put("a", "1"), put("b", "1"), drop("c"), flush, put("a", "2"), drop("b"), put("c", "2"), flush, drop("a"), put("b", "3"), put("c", ""), drop("d"))
	b.wantDone(t, merge)
	b.wantShape(t, 4, 1)
	wantTables(t, "below the Store", b.x, [][]api.Pair{{pair("a", "2"), pair("c", "2")}})
	b.wantDone(t, flush)
	wantTables(t, "the Store behind it", b.x, [][]api.Pair{{gone("a"), pair("b", "3"), pair("c", ""), gone("d")}, {pair("a", "2"), pair("c", "2")}})
}

// L1: a Drop of a key that is nowhere is a Pair, too: it makes the Store grow, and stands in the Table.
func TestDropOfNone(t *testing.T) {
	b := played(t, 2, drop("a"))
	b.wantShape(t, 1, 0)
	wantAll(t, b.x)
	b.wantDone(t, drop("b"))
	b.wantShape(t, 0, 1)
	wantTables(t, "two that were never there", b.x, [][]api.Pair{{gone("a"), gone("b")}})
	wantAll(t, b.x)
	b.wantDone(t, put("a", "1"))
	wantAll(t, b.x, pair("a", "1"))
}

// wrong has steps that are refused, with the errors of chapter 9, the first one that it names.
func wrong() map[api.Errno][]step {
	long, longer := strings.Repeat("k", 201), strings.Repeat("\xff", 1<<16)
	return map[api.Errno][]step{
		api.ErrSyntax: {put("", ""), put("", "v"), put("", long), put("", longer), drop("")},
		api.ErrFull: {
			put(long, ""), put(long, "v"), put(long, long), put(longer, ""), put("k", long), put("00", long), put("t0", longer),
			put(strings.Repeat("k", 256), ""), put("k", strings.Repeat("v", 256)), put("k", strings.Repeat("v", 257)),
			drop(long), drop(longer), drop(strings.Repeat("k", 256)), put(strings.Repeat("\u00e9", 101), ""), put("k", strings.Repeat("\u00e9", 101)),
		},
	}
}

// L1, P1: what is refused changes nothing, and Flushes nothing, with so many Tables and as many young ones as may be.
func TestRefused(t *testing.T) {
	for _, limit := range limits {
		for _, tables := range []int{0, 1, 7, 8} {
			for _, young := range []int{0, limit / 2, limit - 1} {
				if young >= limit {
					continue
				}
				b := stacked(t, limit, tables)
				for n := range young {
					b.wantDone(t, put(fmt.Sprintf("%02d", n), "young"))
				}
				for want, steps := range wrong() {
					for _, s := range steps {
						b.wantRefused(t, s, want)
						b.wantRefused(t, s, want)
						b.wantShape(t, young, tables)
					}
				}
			}
		}
	}
}

// L1: keys and values of 200 bytes are taken, through Flush and Merge.
func TestLongest(t *testing.T) {
	for _, limit := range limits {
		b := fresh(t, limit)
		for i := range 20 {
			key := strings.Repeat("k", 190+i%11)
			b.wantDone(t, put(key, strings.Repeat("v", 200-i)))
			if i%5 == 4 {
				b.wantDone(t, drop(strings.Repeat("k", 200)))
			}
		}
		b.wantStep(t, flush)
		b.wantStep(t, merge)
	}
}

// L1: a Flush of an empty Store is refused whatever there is below it; at MaxTables they stay as they are.
func TestFlushOfNone(t *testing.T) {
	for _, limit := range limits {
		for tables := range 9 {
			b := stacked(t, limit, tables)
			for range 3 {
				b.wantRefused(t, flush, api.ErrState)
				b.wantShape(t, 0, tables)
			}
		}
	}
	b := fresh(t, 2)
	for range 8 {
		b.wantDone(t, drop("k"))
		b.wantDone(t, flush)
	}
	b.wantRefused(t, flush, api.ErrState)
	b.wantShape(t, 0, 8)
}

// L1: a Merge where there is no Table is refused, whatever is young.
func TestMergeOfNone(t *testing.T) {
	for _, limit := range []int{2, 3, 59, 60} {
		b := fresh(t, limit)
		for n := range limit - 1 {
			b.wantRefused(t, merge, api.ErrState)
			b.wantDone(t, put(fmt.Sprintf("%02d", n), "v"))
			b.wantRefused(t, merge, api.ErrState)
			b.wantShape(t, n+1, 0)
		}
	}
}

// L1: a Merge of two to eight Tables, with a key that all have.
func TestMergeOfSome(t *testing.T) {
	for tables := 2; tables <= 8; tables++ {
		for youngest := range 2 {
			b := fresh(t, 60)
			var want []api.Pair
			for n := range tables {
				b.wantDone(t, put("all", strconv.Itoa(n)))
				b.wantDone(t, put("k"+strconv.Itoa(n), strconv.Itoa(n)))
				want = append(want, pair("k"+strconv.Itoa(n), strconv.Itoa(n)))
				if youngest == 1 && n == tables-1 {
					b.wantDone(t, drop("all"))
				}
				b.wantDone(t, flush)
			}
			if youngest == 0 {
				want = append([]api.Pair{pair("all", strconv.Itoa(tables-1))}, want...)
			}
			b.wantShape(t, 0, tables)
			b.wantDone(t, merge)
			wantTables(t, "merged", b.x, [][]api.Pair{want})
		}
	}
}

// wantNoGet asks for what is told beside the error, too.
func wantNoGet(t *testing.T, x *lsm.Lsm, key string) {
	t.Helper()
	got, err := x.Get(key)
	wantError(t, fmt.Sprintf("Get(%.20q)", key), err, api.ErrNone)
	if got != "" {
		t.Errorf("Get(%.20q): %.20q beside an error", key, got)
	}
}

// L1: Get of keys that none has, that are Gone, that are empty or too long.
func TestGetNone(t *testing.T) {
	b := played(t, 60,
		put("below", "1"), put("kept", "1"), put("dropped", "1"), drop("never"), flush,
		drop("dropped"), put("again", "1"), flush,
		drop("below"), drop("again"), drop("young"), put("here", ""))
	none := slices.Concat(noKeys, []string{"below", "dropped", "never", "again", "young", "none", "kep", "keptt", "kept\x00", "\x00kept", "KEPT", "her", "here ", "\x00", "\xff", strings.Repeat("k", 200)})
	for _, then := range []step{{what: "look"}, merge, flush, merge} {
		if then.what != "look" {
			b.wantDone(t, then)
		}
		for _, key := range none {
			wantNoGet(t, b.x, key)
		}
		for key, want := range map[string]string{"kept": "1", "here": ""} {
			if got, err := b.x.Get(key); err != nil || got != want {
				t.Errorf("Get(%q) = %q, %v, want %q", key, got, err, want)
			}
		}
	}
}

// L1, P4: keys and values of any bytes, by each byte and by such as are no text; keys rise by their bytes.
func TestAnyBytes(t *testing.T) {
	for _, limit := range limits {
		b := fresh(t, limit)
		for i := 255; i >= 0; i-- {
			key := string([]byte{byte(i * 7)})
			b.wantDone(t, put(key, key+"\x00\xff"+key))
		}
		b.wantStep(t, flush)
		b.wantDone(t, merge)
		b = fresh(t, limit)
		for round := range 3 {
			for i, key := range oddKeys {
				if (i+round)%4 == 3 {
					b.wantDone(t, drop(key))
				} else {
					b.wantDone(t, put(key, oddKeys[len(oddKeys)-1-i]))
				}
			}
		}
		b.wantStep(t, flush)
		b.wantDone(t, merge)
	}
	b := played(t, 3, put("\xff", ""), put("\U0001f600", ""), put("\xed\xa0\x80", ""), put("a", ""), put("\u00e9", ""), put("a\x00", ""), put("\x80", ""), put("B", ""))
	wantAll(t, b.x, pair("B", ""), pair("a", ""), pair("a\x00", ""), pair("\x80", ""), pair("\u00e9", ""), pair("\xed\xa0\x80", ""), pair("\U0001f600", ""), pair("\xff", ""))
}

// L1: far more keys than a Store may have, so that a Table has more Pairs than a byte can tell, and few that come again and again.
func TestManyKeys(t *testing.T) {
	for _, limit := range []int{7, 59, 60} {
		b := fresh(t, limit)
		for i := range 1500 {
			s := put(fmt.Sprintf("%04d", i*7919%1009), strconv.Itoa(i))
			if i%5 == 4 {
				s = drop(s.p.Key)
			}
			wantError(t, s.String(), do(b.x, s), api.OK)
			b.m.do(s)
			if i%100 == 99 {
				b.want(t, fmt.Sprintf("%d steps", i+1))
			}
		}
		b.wantDone(t, put("more", ""))
		b.wantDone(t, flush)
		b.wantDone(t, merge)
		if pairs := len(b.x.All()); pairs < 257 {
			t.Fatalf("%d Pairs: too few", pairs)
		}
	}
}

// L1: what one can Get, and All, is the same ahead of a Flush or a Merge and behind it, and with or without them.
func TestSameFlushedOrNot(t *testing.T) {
	r := rand.New(rand.NewSource(11))
	for range 40 {
		var all []*lsm.Lsm
		for _, limit := range limits {
			all = append(all, fresh(t, limit).x)
		}
		last := map[string]api.Pair{}
		for range 150 {
			s := anyStep(r, 30)
			for s.what == "Flush" || s.what == "Merge" || s.p.Key == "" || len(s.p.Key) > 200 || len(s.p.Value) > 200 {
				s = anyStep(r, 30)
			}
			last[s.p.Key] = s.p
			for _, x := range all {
				wantError(t, s.String(), do(x, s), api.OK)
				for range r.Intn(3) {
					wantSame(t, x, []step{flush, merge}[r.Intn(2)], last)
				}
				if got := x.All(); !slices.Equal(got, all[0].All()) {
					t.Fatalf("%v: All is %s, and %s at another limit", s, brief(got), brief(all[0].All()))
				}
			}
		}
	}
}

// wantSame does a Flush or a Merge, whatever comes of it: what was last put is what one gets, ahead of it and behind it.
func wantSame(t *testing.T, x *lsm.Lsm, s step, last map[string]api.Pair) {
	t.Helper()
	before := x.All()
	_ = do(x, s)
	if !slices.Equal(before, x.All()) {
		t.Fatalf("%v: All was %s and is %s", s, brief(before), brief(x.All()))
	}
	for key, p := range last {
		got, err := x.Get(key)
		if got != p.Value || p.Gone != (plain.Told(err) == api.ErrNone) {
			t.Fatalf("%v: Get(%.20q) = %.20q, %v, last was %s", s, key, got, err, brief(p))
		}
	}
}

// P2: what All and Tables told is the caller's, each time anew: to write into it, or to append to it, is not to be seen.
func TestListsAreTheCallers(t *testing.T) {
	r := rand.New(rand.NewSource(14))
	for _, limit := range limits {
		b := fresh(t, limit)
		for range 200 {
			all, again, tables, same := b.x.All(), b.x.All(), b.x.Tables(), b.x.Tables()
			for j := range all {
				all[j] = api.Pair{Key: "!", Value: "written", Gone: true}
			}
			_ = append(all, gone("behind"), gone("it"))
			_ = append(all[:0], gone("ahead"))
			for j := range tables {
				tables[j] = "written"
			}
			_ = append(tables, "behind")
			_ = append(tables[:0], "ahead")
			if !slices.Equal(again, there(b.m.levels())) {
				t.Fatalf("two lists of All share memory")
			}
			b.want(t, "after writing into what was told", "!", "behind", "it", "ahead")
			s := anyStep(r, 9)
			before, old := slices.Clone(again), slices.Clone(same)
			b.wantStep(t, s)
			if !slices.Equal(again, before) || !slices.Equal(same, old) {
				t.Fatalf("%v: a later call wrote into what was told", s)
			}
		}
	}
}

// text is of the memory of bytes, which can be written into behind a call.
func text(memory []byte) string { return unsafe.String(unsafe.SliceData(memory), len(memory)) }

// P2: what is handed in is not kept: the memory of keys and values may be another's behind the call.
func TestArgumentsAreNotKept(t *testing.T) {
	for _, limit := range limits {
		b := fresh(t, limit)
		for _, c := range []struct{ key, value string }{{"bb", "new"}, {"aa", "first"}, {"aa", "anew"}, {"cc", ""}, {"dd", "v"}} {
			key, value := []byte(c.key), []byte(c.value)
			wantError(t, c.key, b.x.Put(text(key), text(value)), b.m.do(put(c.key, c.value)))
			copy(key, "zzzz")
			copy(value, "zzzzzzzz")
		}
		for _, name := range []string{"dd", "ee"} {
			key := []byte(name)
			wantError(t, name, b.x.Drop(text(key)), b.m.do(drop(name)))
			copy(key, "zzzz")
		}
		b.want(t, "written over", "zz", "dd")
		b.wantStep(t, flush, "zz")
		b.wantDone(t, merge)
	}
}

// P2: two Lsms do not share, also where they began the same, whichever goes on.
func TestTwoLsms(t *testing.T) {
	r := rand.New(rand.NewSource(12))
	for _, limit := range limits {
		start := []step{put("k1", "1"), drop("k2"), put("k3", "3")}
		two := []both{played(t, limit, start...), played(t, limit, start...), fresh(t, limit)}
		for range 300 {
			two[r.Intn(2)].wantStep(t, anyStep(r, 12))
			two[0].want(t, "the first")
			two[1].want(t, "the second")
		}
		two[2].want(t, "one that nobody used", "k1", "k2", "k3")
		two[2].wantShape(t, 0, 0)
	}
}

// P2: asking, however often and in whatever order, changes nothing.
func TestAskingChangesNothing(t *testing.T) {
	b := played(t, 3, put("a", "1"), put("b", "2"), drop("c"), drop("a"), flush, put("c", "3"), drop("d"))
	for range 3 {
		for _, key := range slices.Concat(oddKeys, noKeys, []string{"c", "d"}) {
			_, _ = b.x.Get(key)
			_ = b.x.Tables()
			_ = b.x.All()
		}
		b.want(t, "asked", oddKeys...)
	}
}

// anyStep is mostly of few keys, so that they come again; some are wrong.
func anyStep(r *rand.Rand, keys int) step {
	key, value := "k"+strconv.Itoa(r.Intn(keys)), strconv.Itoa(r.Intn(1000))
	switch r.Intn(30) {
	case 0:
		key = ""
	case 1:
		key = strings.Repeat("k", 199+r.Intn(4))
	case 2:
		value = strings.Repeat("v", 199+r.Intn(4))
	case 3:
		value = ""
	case 4:
		key = oddKeys[r.Intn(len(oddKeys))]
	case 5, 6, 7:
		return flush
	case 8:
		return merge
	}
	if r.Intn(3) == 0 {
		return drop(key)
	}
	return put(key, value)
}

// L1: many steps at random, refused ones among them, against the test's own reckoning.
func TestManySteps(t *testing.T) {
	r := rand.New(rand.NewSource(13))
	for _, limit := range []int{1, 2, 3, 4, 7, 20, 59, 60} {
		for _, keys := range []int{1, 2, 5, 20, 100} {
			for range 3 {
				b := fresh(t, limit)
				for range 200 {
					b.wantStep(t, anyStep(r, keys), "none", "k")
				}
			}
		}
	}
}

// L1: all there are of six steps, of few kinds, at limits of 1, 2 and 3.
func TestEveryShortWay(t *testing.T) {
	kinds := []step{put("a", "1"), put("b", ""), drop("a"), drop("b"), flush, merge}
	for limit := 1; limit <= 3; limit++ {
		for i := range 6 * 6 * 6 * 6 * 6 * 6 {
			b := fresh(t, limit)
			for left, n := i, 0; n < 6; left, n = left/6, n+1 {
				s := kinds[left%6]
				want := b.m.do(s)
				wantError(t, s.String(), do(b.x, s), want)
			}
			b.want(t, fmt.Sprintf("way %d at %d", i, limit))
		}
	}
}
