package store_test

import (
	"bytes"
	"fmt"
	"math/rand"
	"slices"
	"sort"
	"strconv"
	"strings"
	"testing"
	"unsafe"

	"witnessbox/api"
	"witnessbox/plain"
	"witnessbox/store"
)

var (
	goodKeyLengths = []int{1, 2, 127, 128, 199, 200}
	goodLengths    = []int{0, 1, 2, 127, 128, 199, 200}
	// Of some of these the low byte alone is a length that may be.
	badLengths = []int{201, 202, 255, 256, 257, 456, 1000, 1 << 16, 1<<16 + 200}
)

// oddKeys are of any bytes, some of them no text, some the beginning of another one.
var oddKeys = []string{
	"\x00", "\x00\x00", "\x00\x01", "\x01", "\n", " ", "  ", "=", "-", "0", "9", "10", "A", "Z", "a", "a\x00", "a\x00b", "aa", "ab", "a\xff",
	"b", "\x7f", "\x80", "\x80\x80", "\xc3", "\xc3\xa9", "\u00e9", "e\u0301", "\u20ac", "\U0001f600", "\xed\xa0\x80", "\xfe", "\xff", "\xff\x00", "\xff\xff",
	strings.Repeat("a", 199), strings.Repeat("a", 200), strings.Repeat("\xff", 200), strings.Repeat("\x00", 200),
}

// bounds are keys and texts that can be none, being empty or too long.
var bounds = slices.Concat(oddKeys, []string{"", strings.Repeat("a", 201), strings.Repeat("\xff", 201), strings.Repeat("\x00", 300)})

// kept is S1, word for word, in the order in which the keys came.
type kept []api.Pair

func (k *kept) set(p api.Pair) api.Errno {
	if p.Key == "" {
		return api.ErrSyntax
	}
	if len(p.Key) > 200 || len(p.Value) > 200 {
		return api.ErrFull
	}
	for i := range *k {
		if (*k)[i].Key == p.Key {
			(*k)[i] = p
			return api.OK
		}
	}
	if len(*k)+1 > 60 {
		return api.ErrFull
	}
	*k = append(*k, p)
	return api.OK
}

func (k kept) get(key string) (string, api.Errno) {
	for _, p := range k {
		if p.Key == key && !p.Gone {
			return p.Value, api.OK
		}
	}
	return "", api.ErrNone
}

func (k kept) all() []api.Pair {
	out := slices.Clone(k)
	sort.Slice(out, func(i, j int) bool { return bytes.Compare([]byte(out[i].Key), []byte(out[j].Key)) < 0 })
	return out
}

func (k kept) part(from, to string) []api.Pair {
	var out []api.Pair
	for _, p := range k.all() {
		if bytes.Compare([]byte(p.Key), []byte(from)) >= 0 && bytes.Compare([]byte(p.Key), []byte(to)) < 0 {
			out = append(out, p)
		}
	}
	return out
}

func pair(key, value string) api.Pair { return api.Pair{Key: key, Value: value} }

func gone(key string) api.Pair { return api.Pair{Key: key, Gone: true} }

// short keeps what is told of a fault to a line.
func short(p api.Pair) string {
	return fmt.Sprintf("%.20q (%d) %.20q (%d) %v", p.Key, len(p.Key), p.Value, len(p.Value), p.Gone)
}

// wantError also asks that an Errno is told, never OK.
func wantError(t *testing.T, what string, err error, want api.Errno) {
	t.Helper()
	if err == nil || plain.Told(err) != want {
		t.Errorf("%s: error %v, want %v", what, err, want)
	}
}

// set is a Drop of what is gone, else a Put.
func set(s *store.Store, p api.Pair) error {
	if p.Gone {
		return s.Drop(p.Key)
	}
	return s.Put(p.Key, p.Value)
}

func filled(t *testing.T, pairs ...api.Pair) *store.Store {
	t.Helper()
	s := store.New()
	for _, p := range pairs {
		wantSet(t, s, p)
	}
	return s
}

func wantSet(t *testing.T, s *store.Store, p api.Pair) {
	t.Helper()
	if err := set(s, p); err != nil {
		t.Fatalf("%s: %v", short(p), err)
	}
}

func wantNoSet(t *testing.T, s *store.Store, p api.Pair, want api.Errno) {
	t.Helper()
	wantError(t, short(p), set(s, p), want)
}

func wantGet(t *testing.T, s *store.Store, key, want string) {
	t.Helper()
	if got, err := s.Get(key); err != nil || got != want {
		t.Errorf("Get(%.20q) = %.20q, %v, want %.20q", key, got, err, want)
	}
}

func wantNoGet(t *testing.T, s *store.Store, key string) {
	t.Helper()
	got, err := s.Get(key)
	wantError(t, fmt.Sprintf("Get(%.20q)", key), err, api.ErrNone)
	if got != "" {
		t.Errorf("Get(%.20q): %.20q beside an error", key, got)
	}
}

func wantAll(t *testing.T, what string, s *store.Store, want ...api.Pair) {
	t.Helper()
	if got := s.All(); !slices.Equal(got, want) {
		t.Errorf("%s: All is %.500q, want %.500q", what, fmt.Sprint(got), fmt.Sprint(want))
	}
	if got := s.Len(); got != len(want) {
		t.Errorf("%s: Len is %d, want %d", what, got, len(want))
	}
}

func wantRange(t *testing.T, s *store.Store, from, to string, want ...api.Pair) {
	t.Helper()
	if got := s.Range(from, to); !slices.Equal(got, want) {
		t.Errorf("Range(%.20q, %.20q) = %.500q, want %.500q", from, to, fmt.Sprint(got), fmt.Sprint(want))
	}
}

// wantKept asks for all that a Store can tell, of its own keys and of others.
func wantKept(t *testing.T, what string, s *store.Store, k kept, others ...string) {
	t.Helper()
	wantAll(t, what, s, k.all()...)
	keys := slices.Clone(others)
	for _, p := range k {
		keys = append(keys, p.Key)
	}
	for _, key := range keys {
		if value, told := k.get(key); told == api.OK {
			wantGet(t, s, key, value)
		} else {
			wantNoGet(t, s, key)
		}
	}
	if t.Failed() {
		t.Fatalf("%s: not what is kept", what)
	}
}

// numbered are keys "00", "01" and so on, every third of them Gone.
func numbered(n int) kept {
	out := make(kept, n)
	for i := range out {
		out[i] = pair(fmt.Sprintf("%02d", i), strconv.Itoa(i))
		if i%3 == 2 {
			out[i] = gone(out[i].Key)
		}
	}
	return out
}

// S1: a Store that has nothing.
func TestNew(t *testing.T) {
	s := store.New()
	wantKept(t, "new", s, nil, bounds...)
	for _, from := range bounds {
		for _, to := range bounds {
			wantRange(t, s, from, to)
		}
	}
}

// S1: step by step, written out by hand.
func TestSteps(t *testing.T) {
	s, k := store.New(), kept{}
	for i, c := range []struct {
		step api.Pair
		all  []api.Pair
	}{
		{pair("m", "1"), []api.Pair{pair("m", "1")}},
		{pair("c", "2"), []api.Pair{pair("c", "2"), pair("m", "1")}},
		{pair("x", ""), []api.Pair{pair("c", "2"), pair("m", "1"), pair("x", "")}},
		{pair("m", "3"), []api.Pair{pair("c", "2"), pair("m", "3"), pair("x", "")}},
		{pair("m", "3"), []api.Pair{pair("c", "2"), pair("m", "3"), pair("x", "")}},
		{gone("c"), []api.Pair{gone("c"), pair("m", "3"), pair("x", "")}},
		{gone("c"), []api.Pair{gone("c"), pair("m", "3"), pair("x", "")}},
		{gone("d"), []api.Pair{gone("c"), gone("d"), pair("m", "3"), pair("x", "")}},
		{pair("c", "4"), []api.Pair{pair("c", "4"), gone("d"), pair("m", "3"), pair("x", "")}},
		{pair("d", ""), []api.Pair{pair("c", "4"), pair("d", ""), pair("m", "3"), pair("x", "")}},
		{pair("x", "longer"), []api.Pair{pair("c", "4"), pair("d", ""), pair("m", "3"), pair("x", "longer")}},
		{pair("x", ""), []api.Pair{pair("c", "4"), pair("d", ""), pair("m", "3"), pair("x", "")}},
		{gone("x"), []api.Pair{pair("c", "4"), pair("d", ""), pair("m", "3"), gone("x")}},
		{pair("a", "5"), []api.Pair{pair("a", "5"), pair("c", "4"), pair("d", ""), pair("m", "3"), gone("x")}},
		{pair("ca", "6"), []api.Pair{pair("a", "5"), pair("c", "4"), pair("ca", "6"), pair("d", ""), pair("m", "3"), gone("x")}},
	} {
		wantSet(t, s, c.step)
		if told := k.set(c.step); told != api.OK {
			t.Fatalf("step %d: the test's own list tells %v", i, told)
		}
		what := fmt.Sprintf("step %d", i)
		wantAll(t, what, s, c.all...)
		wantKept(t, what, s, k, "", "b", "ma", "l", "M", "xx")
	}
}

// S1: All rises by key in whatever order they came.
func TestEveryOrder(t *testing.T) {
	pairs := kept{pair("a", "1"), gone("ab"), pair("b", ""), pair("ba", "4"), gone("c"), pair("\xff", "6")}
	var orders func(done, left kept)
	orders = func(done, left kept) {
		if len(left) == 0 {
			wantKept(t, fmt.Sprint(done), filled(t, done...), pairs)
		}
		for i := range left {
			orders(append(slices.Clone(done), left[i]), slices.Delete(slices.Clone(left), i, i+1))
		}
	}
	orders(nil, pairs)
}

// S1: Range by hand.
func TestRange(t *testing.T) {
	b, d, f, h := pair("b", "1"), gone("d"), pair("f", ""), pair("h", "4")
	s := filled(t, f, b, h, d)
	for _, c := range []struct {
		from, to string
		want     []api.Pair
	}{
		{"b", "f", []api.Pair{b, d}},
		{"b", "g", []api.Pair{b, d, f}},
		{"b", "f\x00", []api.Pair{b, d, f}},
		{"c", "f", []api.Pair{d}},
		{"c", "g", []api.Pair{d, f}},
		{"b\x00", "h", []api.Pair{d, f}},
		{"d", "e", []api.Pair{d}},
		{"d", "f", []api.Pair{d}},
		{"d", "d\x00", []api.Pair{d}},
		{"b", "b", nil},
		{"d", "d", nil},
		{"c", "c", nil},
		{"f", "b", nil},
		{"g", "c", nil},
		{"h", "g", nil},
		{"", "", nil},
		{"", "b", nil},
		{"", "c", []api.Pair{b}},
		{"", "h", []api.Pair{b, d, f}},
		{"b", "", nil},
		{"z", "", nil},
		{"", "z", []api.Pair{b, d, f, h}},
		{"a", "i", []api.Pair{b, d, f, h}},
		{"b", "h\x00", []api.Pair{b, d, f, h}},
		{"h", "i", []api.Pair{h}},
		{"h\x00", "z", nil},
		{"i", "z", nil},
		{"", "a", nil},
		{"A", "Z", nil},
		{"", strings.Repeat("z", 1000), []api.Pair{b, d, f, h}},
		{strings.Repeat("c", 1000), "z", []api.Pair{d, f, h}},
	} {
		wantRange(t, s, c.from, c.to, c.want...)
	}
	wantAll(t, "after Range", s, b, d, f, h)
}

// S1: Range from each to each against those of All, in Stores of every size.
func TestRangeIsOfAll(t *testing.T) {
	s, k := store.New(), kept{}
	for i, key := range oddKeys {
		p := pair(key, strconv.Itoa(i))
		if i%4 == 3 {
			p = gone(key)
		}
		wantSet(t, s, p)
		k.set(p)
		wantKept(t, fmt.Sprintf("%d keys", i+1), s, k)
		for _, from := range bounds {
			for _, to := range bounds {
				wantRange(t, s, from, to, k.part(from, to)...)
			}
		}
	}
}

// S1: a key of every length.
func TestKeyLengths(t *testing.T) {
	for long := 1; long <= 260; long++ {
		s, key := filled(t, pair("m", "1")), strings.Repeat("k", long)
		for _, p := range []api.Pair{pair(key, "v"), gone(key), pair(key, "")} {
			if long > 200 {
				wantNoSet(t, s, p, api.ErrFull)
				wantKept(t, short(p), s, kept{pair("m", "1")}, key)
				continue
			}
			wantSet(t, s, p)
			wantKept(t, short(p), s, kept{p, pair("m", "1")})
		}
	}
	for _, long := range badLengths {
		s := store.New()
		wantNoSet(t, s, pair(strings.Repeat("\xff", long), ""), api.ErrFull)
		wantNoSet(t, s, gone(strings.Repeat("\xff", long)), api.ErrFull)
		wantKept(t, "a key that is too long", s, nil, strings.Repeat("\xff", long))
	}
}

// S1: a value of every length, of a key that is new, there, and Gone.
func TestValueLengths(t *testing.T) {
	for long := 0; long <= 260; long++ {
		p := pair("k", strings.Repeat("v", long))
		for _, before := range []kept{nil, {pair("k", "1")}, {pair("k", "")}, {gone("k")}} {
			s := filled(t, before...)
			if long > 200 {
				wantNoSet(t, s, p, api.ErrFull)
				wantKept(t, short(p), s, before, "k")
				continue
			}
			wantSet(t, s, p)
			wantKept(t, short(p), s, kept{p})
		}
	}
	for _, long := range badLengths {
		s := store.New()
		wantNoSet(t, s, pair("k", strings.Repeat("\x00", long)), api.ErrFull)
		wantKept(t, "a value that is too long", s, nil, "k")
	}
}

// S1: the length is of bytes, whatever they would be as text.
func TestLengthIsOfBytes(t *testing.T) {
	hundred := strings.Repeat("\u00e9", 100)
	s := filled(t, pair(hundred, hundred))
	wantKept(t, "200 bytes", s, kept{pair(hundred, hundred)})
	wantNoSet(t, s, pair(hundred+"\u00e9", ""), api.ErrFull)
	wantNoSet(t, s, gone(hundred+"\u00e9"), api.ErrFull)
	wantNoSet(t, s, pair(hundred, hundred+"\u00e9"), api.ErrFull)
	wantKept(t, "202 bytes", s, kept{pair(hundred, hundred)})
}

// S1: each length of a key that may be with each of a value.
func TestLengthsTogether(t *testing.T) {
	for _, a := range slices.Concat(goodKeyLengths, badLengths) {
		for _, b := range slices.Concat(goodLengths, badLengths) {
			s, p := store.New(), pair(strings.Repeat("k", a), strings.Repeat("v", b))
			if a > 200 || b > 200 {
				wantNoSet(t, s, p, api.ErrFull)
				wantKept(t, short(p), s, nil, p.Key)
				continue
			}
			wantSet(t, s, p)
			wantKept(t, short(p), s, kept{p})
		}
	}
}

// wantFull asks a Store of 60 for what it refuses and what it takes.
func wantFull(t *testing.T, s *store.Store, k kept) {
	t.Helper()
	others := []string{"!", "00x", "30x", "59x", "\xff", strings.Repeat("k", 200)}
	for _, key := range others {
		for _, p := range []api.Pair{pair(key, "v"), pair(key, ""), gone(key)} {
			wantNoSet(t, s, p, api.ErrFull)
			wantKept(t, "refused in a Store of 60", s, k, others...)
		}
	}
	for i := range k {
		key := k[i].Key
		for _, p := range []api.Pair{pair(key, "anew"), gone(key), gone(key), pair(key, ""), pair(key, strings.Repeat("v", 200)), gone(key)} {
			wantSet(t, s, p)
			k[i] = p
			wantKept(t, "set in a Store of 60", s, k, others...)
		}
		wantNoSet(t, s, pair("!", ""), api.ErrFull)
		wantNoSet(t, s, gone("!"), api.ErrFull)
	}
	wantKept(t, "all Gone in a Store of 60", s, k, others...)
}

// S1: 59, 60 and 61 Pairs, of which none, some or all are Gone, rising, falling and in between.
func TestHowMany(t *testing.T) {
	mixed := numbered(60)
	put, dropped := slices.Clone(mixed), slices.Clone(mixed)
	for i := range mixed {
		put[i] = pair(mixed[i].Key, "v")
		dropped[i] = gone(mixed[i].Key)
	}
	falling := slices.Clone(mixed)
	slices.Reverse(falling)
	between := slices.Clone(mixed)
	for i := range between {
		between[i] = mixed[i*7%60]
	}
	for _, k := range []kept{mixed, put, dropped, falling, between} {
		s := store.New()
		for n, p := range k {
			wantSet(t, s, p)
			wantKept(t, fmt.Sprintf("%d Pairs", n+1), s, k[:n+1], "!", "60")
		}
		wantFull(t, s, slices.Clone(k))
	}
}

// S1: the 60th is taken whether it is put or dropped.
func TestTheLast(t *testing.T) {
	for _, last := range []api.Pair{pair("zz", "v"), pair("zz", ""), gone("zz"), pair(" ", "v"), gone(" ")} {
		k := numbered(59)
		s := filled(t, k...)
		wantKept(t, "59", s, k, last.Key)
		wantSet(t, s, last)
		wantFull(t, s, append(k, last))
	}
}

// S1: what is refused, with the error that is named first, in Stores of 0, 1, 59 and 60; nothing is changed by it.
func TestRefused(t *testing.T) {
	long := strings.Repeat("k", 201)
	for _, n := range []int{0, 1, 2, 59, 60} {
		k := numbered(n)
		s := filled(t, k...)
		for _, c := range []struct {
			p    api.Pair
			want api.Errno
		}{
			{pair("", ""), api.ErrSyntax},
			{pair("", "v"), api.ErrSyntax},
			{pair("", strings.Repeat("v", 200)), api.ErrSyntax},
			{pair("", long), api.ErrSyntax},
			{pair("", strings.Repeat("v", 1<<16)), api.ErrSyntax},
			{gone(""), api.ErrSyntax},
			{pair(long, ""), api.ErrFull},
			{pair(long, "v"), api.ErrFull},
			{pair(long, long), api.ErrFull},
			{gone(long), api.ErrFull},
			{pair("k", long), api.ErrFull},
			{pair("00", long), api.ErrFull},
			{pair("58", long), api.ErrFull},
			{pair("00"+long, ""), api.ErrFull},
			{gone("00" + long), api.ErrFull},
		} {
			for range 2 {
				wantNoSet(t, s, c.p, c.want)
				wantKept(t, "refused: "+short(c.p), s, k, "", long, "k", "00", "58", "00"+long)
			}
		}
		if n == 60 {
			wantFull(t, s, k)
			continue
		}
		for i := n; i < 60; i++ {
			wantSet(t, s, numbered(60)[i])
		}
		wantFull(t, s, numbered(60))
	}
}

// S1: Get of what was never there, of what is Gone, of the empty key and of keys that are too long.
func TestGetNone(t *testing.T) {
	s := filled(t, pair("b", "1"), gone("c"), pair("d", "2"), gone("d"), pair("e", ""))
	for _, key := range []string{"a", "bb", "B", "b\x00", "\x00b", "b ", "c", "d", "f", "", strings.Repeat("b", 200), strings.Repeat("b", 201), strings.Repeat("b", 1<<16)} {
		wantNoGet(t, s, key)
	}
	wantGet(t, s, "b", "1")
	wantGet(t, s, "e", "")
	wantAll(t, "after Get", s, pair("b", "1"), gone("c"), gone("d"), pair("e", ""))
}

// S1: what is Gone has no value, in All and in Range, and has the new one alone when it is put again.
func TestGone(t *testing.T) {
	s := filled(t, pair("a", "first"), pair("b", strings.Repeat("v", 200)), gone("a"), gone("b"), gone("c"))
	wantAll(t, "dropped", s, gone("a"), gone("b"), gone("c"))
	wantRange(t, s, "a", "c", gone("a"), gone("b"))
	for _, key := range []string{"a", "b", "c"} {
		wantNoGet(t, s, key)
		wantSet(t, s, pair(key, "again "+key))
		wantGet(t, s, key, "again "+key)
		wantSet(t, s, gone(key))
		wantSet(t, s, pair(key, ""))
		wantGet(t, s, key, "")
	}
	wantAll(t, "put again", s, pair("a", ""), pair("b", ""), pair("c", ""))
}

// S1, P4: keys and values of any bytes, by each byte and by such as are no text; keys rise by their bytes.
func TestAnyBytes(t *testing.T) {
	for from := 0; from < 256; from += 32 {
		s, k := store.New(), kept{}
		for i := from + 31; i >= from; i-- {
			key := string([]byte{byte(i)})
			p := pair(key, key+"\x00\xff"+key)
			wantSet(t, s, p)
			k.set(p)
		}
		wantKept(t, fmt.Sprintf("bytes from %d on", from), s, k, oddKeys...)
	}
	s, k := store.New(), kept{}
	for i, key := range oddKeys {
		p := pair(key, oddKeys[len(oddKeys)-1-i])
		wantSet(t, s, p)
		k.set(p)
	}
	wantKept(t, "odd keys", s, k)
	s = filled(t, pair("\xff", ""), pair("\U0001f600", ""), pair("\xed\xa0\x80", ""), pair("a", ""), pair("\u00e9", ""), pair("a\x00", ""), pair("\x80", ""), pair("B", ""))
	wantAll(t, "by their bytes", s, pair("B", ""), pair("a", ""), pair("a\x00", ""), pair("\x80", ""), pair("\u00e9", ""), pair("\xed\xa0\x80", ""), pair("\U0001f600", ""), pair("\xff", ""))
}

// P2: what All and Range hand out is the caller's, each time anew: to write into it, or to append to it, is not to be seen.
func TestListsAreTheCallers(t *testing.T) {
	s, k := store.New(), kept{}
	for n, p := range numbered(60) {
		lists := [][]api.Pair{s.All(), s.All(), s.Range("", "\xff"), s.Range("", "\xff"), s.Range("10", "50"), s.Range("10", "50")}
		for i, list := range lists {
			var others [][]api.Pair
			for _, other := range lists[i+1:] {
				others = append(others, slices.Clone(other))
			}
			for j := range list {
				list[j] = api.Pair{Key: "!", Value: "written", Gone: true}
			}
			_ = append(list, gone("behind"), gone("it"))
			_ = append(list[:0], gone("ahead"))
			for j, other := range lists[i+1:] {
				if !slices.Equal(other, others[j]) {
					t.Fatalf("%d Pairs: two lists share memory", n)
				}
			}
		}
		wantKept(t, "after writing into what was told", s, k, "!", "behind", "it", "ahead")
		wantRange(t, s, "", "\xff", k.all()...)
		told, part := s.All(), s.Range("", "\xff")
		wantSet(t, s, p)
		if len(k) > 0 {
			wantSet(t, s, pair("00", p.Key))
		}
		if !slices.Equal(told, k.all()) || !slices.Equal(part, k.all()) {
			t.Fatalf("%d Pairs: a later call wrote into what was told", n)
		}
		k.set(p)
		if n > 0 {
			k.set(pair("00", p.Key))
		}
		wantKept(t, "gone on", s, k)
	}
}

// P2: what is handed in is not kept: the memory of keys and values may be another's behind the call.
func TestArgumentsAreNotKept(t *testing.T) {
	s := filled(t, pair("aa", "there"), gone("cc"))
	text := func(memory []byte) string { return unsafe.String(&memory[0], len(memory)) }
	for _, c := range []struct{ key, value string }{{"bb", "new"}, {"aa", "anew"}, {"cc", "again"}} {
		key, value := []byte(c.key), []byte(c.value)
		wantSet(t, s, pair(text(key), text(value)))
		copy(key, "zzzz")
		copy(value, "zzzzzzzz")
	}
	for _, name := range []string{"dd", "aa"} {
		key := []byte(name)
		wantSet(t, s, gone(text(key)))
		copy(key, "zzzz")
	}
	wantKept(t, "written over", s, kept{gone("aa"), pair("bb", "new"), pair("cc", "again"), gone("dd")}, "zz")
	from, to := []byte("bb"), []byte("dd")
	part := s.Range(text(from), text(to))
	copy(from, "zzzz")
	copy(to, "zzzz")
	if !slices.Equal(part, []api.Pair{pair("bb", "new"), pair("cc", "again")}) {
		t.Errorf("Range: %v", part)
	}
}

// P2: two Stores do not share, also where they began the same.
func TestTwoStores(t *testing.T) {
	a, b := filled(t, pair("x", "1"), gone("y")), filled(t, pair("x", "1"), gone("y"))
	for _, p := range []api.Pair{pair("x", "2"), pair("y", "3"), pair("z", "4"), gone("x"), gone("w")} {
		wantSet(t, a, p)
		wantKept(t, "the other one", b, kept{pair("x", "1"), gone("y")}, "z", "w")
	}
	wantKept(t, "the first", a, kept{gone("x"), pair("y", "3"), pair("z", "4"), gone("w")})
	for _, p := range numbered(58) {
		wantSet(t, b, p)
	}
	wantNoSet(t, b, pair("more", ""), api.ErrFull)
	wantSet(t, a, pair("more", ""))
	wantKept(t, "a third", store.New(), nil, "x", "more")
}

// P2: the order of the calls that tell, and how often they are called, changes nothing.
func TestAskingChangesNothing(t *testing.T) {
	k := numbered(20)
	s := filled(t, k...)
	for range 3 {
		for _, key := range bounds {
			_, _ = s.Get(key)
			wantRange(t, s, key, "05", k.part(key, "05")...)
			wantRange(t, s, "05", key, k.part("05", key)...)
		}
		wantKept(t, "asked", s, k, bounds...)
	}
}

// anyStep is mostly of few keys, so that they come again; some are wrong, and some Stores grow full.
func anyStep(r *rand.Rand, keys int) api.Pair {
	p := pair("k"+strconv.Itoa(r.Intn(keys)), strconv.Itoa(r.Intn(1000)))
	switch r.Intn(20) {
	case 0:
		p.Key = ""
	case 1:
		p.Key = strings.Repeat("k", 199+r.Intn(4))
	case 2:
		p.Value = strings.Repeat("v", 199+r.Intn(4))
	case 3:
		p.Value = ""
	case 4:
		p.Key = oddKeys[r.Intn(len(oddKeys))]
	}
	if r.Intn(3) == 0 {
		p = gone(p.Key)
	}
	return p
}

// S1: many steps at random, refused ones among them, against the test's own list.
func TestManySteps(t *testing.T) {
	r := rand.New(rand.NewSource(9))
	for _, keys := range []int{1, 2, 5, 20, 55, 60, 61, 100, 1000} {
		for range 8 {
			s, k := store.New(), kept{}
			for i := range 200 {
				p := anyStep(r, keys)
				want := k.set(p)
				if err := set(s, p); plain.Told(err) != want {
					t.Fatalf("step %d: %s: %v, want %v", i, short(p), err, want)
				}
				wantKept(t, fmt.Sprintf("%d keys, step %d: %s", keys, i, short(p)), s, k, p.Key, "none", "k")
				from, to := anyStep(r, keys).Key, anyStep(r, keys).Key
				wantRange(t, s, from, to, k.part(from, to)...)
			}
		}
	}
}
