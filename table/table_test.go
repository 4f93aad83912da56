package table_test

import (
	"bytes"
	"encoding/binary"
	"fmt"
	"math/rand"
	"slices"
	"strconv"
	"strings"
	"testing"
	"unsafe"

	"witnessbox/api"
	"witnessbox/plain"
	"witnessbox/table"
)

var (
	goodKeyLengths = []int{1, 2, 127, 128, 199, 200}
	goodLengths    = []int{0, 1, 2, 127, 128, 199, 200}
	// Of some of these the low byte alone is a length that may be.
	badLengths = []int{201, 202, 255, 256, 257, 456, 1000, 1 << 16, 1<<16 + 200}
)

// oddKeys rise and are of any bytes, some of them no text, some the beginning of another one.
var oddKeys = []string{
	"\x00", "\x00\x00", "\x00\x01", strings.Repeat("\x01", 200), "\n", " ", "  ", "-", "0", "10", "9", "=", "A", "Z",
	"a", "a\x00", "a\x00b", "aa", strings.Repeat("a", 199), strings.Repeat("a", 200), "ab", "a\xff", "b", "e\u0301", "\x7f",
	"\x80", "\x80\x80", "\xc3", "\u00e9", "\u20ac", "\xed\xa0\x80", "\U0001f600", "\xfe", "\xff", "\xff\x00", "\xff\xff", strings.Repeat("\xff", 200),
}

func pair(key, value string) api.Pair { return api.Pair{Key: key, Value: value} }

func gone(key string) api.Pair { return api.Pair{Key: key, Gone: true} }

// oddPairs have values of any bytes, too; every fourth is Gone.
func oddPairs() []api.Pair {
	out := make([]api.Pair, len(oddKeys))
	for i, key := range oddKeys {
		out[i] = pair(key, oddKeys[len(oddKeys)-1-i])
		if i%4 == 3 {
			out[i] = gone(key)
		}
	}
	return out
}

// numbered are keys "000000", "000001" and so on, every third of them Gone.
func numbered(n int) []api.Pair {
	out := make([]api.Pair, n)
	for i := range out {
		out[i] = pair(fmt.Sprintf("%06d", i), strconv.Itoa(i))
		if i%3 == 2 {
			out[i] = gone(out[i].Key)
		}
	}
	return out
}

// anyPairs rise, and are mostly short.
func anyPairs(r *rand.Rand, n int) []api.Pair {
	text := func(least, most int) string {
		out := make([]byte, least+r.Intn(1+r.Intn(1+most-least)))
		r.Read(out)
		return string(out)
	}
	there := map[string]api.Pair{}
	for range n {
		most := []int{3, 3, 3, 200}[r.Intn(4)]
		p := pair(text(1, most), text(0, most))
		if r.Intn(3) == 0 {
			p = gone(p.Key)
		}
		there[p.Key] = p
	}
	var out []api.Pair
	for _, p := range there {
		out = append(out, p)
	}
	slices.SortFunc(out, func(a, b api.Pair) int { return bytes.Compare([]byte(a.Key), []byte(b.Key)) })
	return out
}

// sumByHand is M1's Sum, word for word.
func sumByHand(b string) uint32 {
	sum := uint64(5381)
	for _, c := range []byte(b) {
		sum = (sum*131 + uint64(c) + 1) % 2147483647
	}
	return uint32(sum)
}

func four(n uint32) string { return string(binary.BigEndian.AppendUint32(nil, n)) }

func one(n int) string { return string([]byte{byte(n)}) }

// summed has the Sum of bytes behind them.
func summed(b string) string { return b + four(sumByHand(b)) }

// counted has how many there are and the Sum behind the bytes of pairs.
func counted(b string, many int) string { return summed(b + four(uint32(many))) }

// pairByHand also writes pairs that may not be.
func pairByHand(p api.Pair) string {
	mark := 0
	if p.Gone {
		mark = 1
	}
	return one(len(p.Key)) + p.Key + one(mark) + one(len(p.Value)) + p.Value
}

// byHand is B1, word for word.
func byHand(l []api.Pair) string {
	var out strings.Builder
	for _, p := range l {
		out.WriteString(pairByHand(p))
	}
	return counted(out.String(), len(l))
}

// faultByHand is B1, word for word, of a pair with those ahead of it.
func faultByHand(l []api.Pair, i int) api.Errno {
	p := l[i]
	if len(p.Key) == 0 {
		return api.ErrSyntax
	}
	if len(p.Key) > 200 || len(p.Value) > 200 {
		return api.ErrFull
	}
	if p.Gone && len(p.Value) > 0 {
		return api.ErrShape
	}
	if i > 0 && bytes.Compare([]byte(l[i-1].Key), []byte(p.Key)) >= 0 {
		return api.ErrClash
	}
	return api.OK
}

func firstFault(l []api.Pair) api.Errno {
	for i := range l {
		if told := faultByHand(l, i); told != api.OK {
			return told
		}
	}
	return api.OK
}

// readByHand goes from place to place: it is false where bytes are none of B1.
func readByHand(b string) (l []api.Pair, ok bool) {
	if len(b) < 8 || b[len(b)-4:] != four(sumByHand(b[:len(b)-4])) {
		return nil, false
	}
	end, at := len(b)-8, 0
	text := func() (string, bool) {
		if at >= end || at+1+int(b[at]) > end {
			return "", false
		}
		from := at + 1
		at = from + int(b[at])
		return b[from:at], true
	}
	for at < end {
		key, is := text()
		if !is || at >= end || b[at] != 0 && b[at] != 1 {
			return nil, false
		}
		mark := b[at]
		at++
		value, is := text()
		l = append(l, api.Pair{Key: key, Value: value, Gone: mark == 1})
		if !is || faultByHand(l, len(l)-1) != api.OK {
			return nil, false
		}
	}
	return l, b[end:end+4] == four(uint32(len(l)))
}

// brief keeps what is told of a fault to a line.
func brief(v any) string { return fmt.Sprintf("%.300q", fmt.Sprint(v)) }

// tells also asks that an Errno is told, never OK.
func tells(err error, want api.Errno) bool { return err != nil && plain.Told(err) == want }

func wantBuild(t *testing.T, l []api.Pair, want string) {
	t.Helper()
	if got, err := table.Build(l); err != nil || got != want {
		t.Fatalf("Build(%s) = %s, %v, want %s", brief(l), brief(got), err, brief(want))
	}
}

func wantNoBuild(t *testing.T, l []api.Pair, want api.Errno) {
	t.Helper()
	if got, err := table.Build(l); got != "" || !tells(err, want) {
		t.Errorf("Build(%s) = %s, %v, want %v alone", brief(l), brief(got), err, want)
	}
}

func opened(t *testing.T, b string) *table.Table {
	t.Helper()
	got, err := table.Open(b)
	if err != nil || got == nil {
		t.Fatalf("Open(%s): a Table: %v, %v", brief(b), got != nil, err)
	}
	return got
}

func wantNoOpen(t *testing.T, what, b string) {
	t.Helper()
	if got, err := table.Open(b); got != nil || !tells(err, api.ErrSyntax) {
		t.Errorf("Open of %s: %s: a Table: %v, %v, want ErrSyntax alone", what, brief(b), got != nil, err)
	}
}

func wantGet(t *testing.T, a *table.Table, want api.Pair) {
	t.Helper()
	if got, err := a.Get(want.Key); err != nil || got != want {
		t.Errorf("Get(%s) = %s, %v, want %s", brief(want.Key), brief(got), err, brief(want))
	}
}

func wantNoGet(t *testing.T, a *table.Table, key string) {
	t.Helper()
	if got, err := a.Get(key); got != (api.Pair{}) || !tells(err, api.ErrNone) {
		t.Errorf("Get(%s) = %s, %v, want ErrNone alone", brief(key), brief(got), err)
	}
}

// wantTable asks for all that a Table can tell, of its own keys and of those next to them.
func wantTable(t *testing.T, a *table.Table, want []api.Pair) {
	t.Helper()
	if got := a.All(); !slices.Equal(got, want) {
		t.Fatalf("All is %s, want %s", brief(got), brief(want))
	}
	first, last := "", ""
	there := map[string]api.Pair{}
	if len(want) > 0 {
		first, last = want[0].Key, want[len(want)-1].Key
	}
	if a.First() != first || a.Last() != last {
		t.Errorf("First, Last: %s, %s, want %s, %s", brief(a.First()), brief(a.Last()), brief(first), brief(last))
	}
	for _, p := range want {
		there[p.Key] = p
		wantGet(t, a, p)
	}
	ask := []string{"", "\x00", "m", "\xff\xff\xff", strings.Repeat("\xff", 201), strings.Repeat("a", 1<<16)}
	for _, p := range want {
		ask = append(ask, p.Key+"\x00", p.Key+"\xff", p.Key[:len(p.Key)-1], p.Key[1:])
	}
	for _, key := range ask {
		if p, is := there[key]; is {
			wantGet(t, a, p)
		} else {
			wantNoGet(t, a, key)
		}
	}
	if t.Failed() {
		t.Fatalf("a Table of %d Pairs is not what was handed in", len(want))
	}
}

// wantBoth asks that pairs are built as B1 says, opened as they were, and built anew the same.
func wantBoth(t *testing.T, l []api.Pair) {
	t.Helper()
	want := byHand(l)
	wantBuild(t, l, want)
	a := opened(t, want)
	wantTable(t, a, l)
	wantBuild(t, a.All(), want)
}

// wantOpen is what the test's own reading tells of any bytes.
func wantOpen(t *testing.T, what, b string) (taken bool) {
	t.Helper()
	want, ok := readByHand(b)
	if !ok {
		wantNoOpen(t, what, b)
		return false
	}
	got := opened(t, b)
	if !slices.Equal(got.All(), want) {
		t.Errorf("Open of %s: %s: %s, want %s", what, brief(b), brief(got.All()), brief(want))
	}
	wantBuild(t, got.All(), b)
	return true
}

// known are bytes written out by hand; their sums were worked out by another program.
var known = []struct {
	of []api.Pair
	b  string
}{
	{nil, "\x00\x00\x00\x00\x77\xdb\xc8\x9e"},
	{[]api.Pair{}, "\x00\x00\x00\x00\x77\xdb\xc8\x9e"},
	{[]api.Pair{pair("a", "")}, "\x01a\x00\x00\x00\x00\x00\x01\x29\xde\x3f\xe5"},
	{[]api.Pair{gone("a")}, "\x01a\x01\x00\x00\x00\x00\x01\x25\x62\x8b\x6a"},
	{[]api.Pair{pair("a", "x")}, "\x01a\x00\x01x\x00\x00\x00\x01\x22\xac\x73\x66"},
	{[]api.Pair{pair("\x00", "\x00")}, "\x01\x00\x00\x01\x00\x00\x00\x00\x01\x28\xe8\xe9\x90"},
	{[]api.Pair{pair("\xff\xfe", "\xff\x00\x80")}, "\x02\xff\xfe\x00\x03\xff\x00\x80\x00\x00\x00\x01\x67\xd8\x14\xa9"},
	{[]api.Pair{pair("a", "1"), gone("ab"), pair("b", "hello")}, "\x01a\x00\x011\x02ab\x01\x00\x01b\x00\x05hello\x00\x00\x00\x03\x02\xd2\x36\x3f"},
	{
		[]api.Pair{pair("\x00", ""), gone("\x00\x00"), pair("\x01", "\n"), gone("\x7f"), pair("\x80", "\x01"), pair("\xc3\xa9", "\xed\xa0\x80"), pair("\xff", "")},
		"\x01\x00\x00\x00\x02\x00\x00\x01\x00\x01\x01\x00\x01\x0a\x01\x7f\x01\x00\x01\x80\x00\x01\x01\x02\xc3\xa9\x00\x03\xed\xa0\x80\x01\xff\x00\x00\x00\x00\x00\x07\x0f\x7a\x7d\x62",
	},
	{
		[]api.Pair{pair(strings.Repeat("k", 200), strings.Repeat("v", 200))},
		"\xc8" + strings.Repeat("k", 200) + "\x00\xc8" + strings.Repeat("v", 200) + "\x00\x00\x00\x01\x51\xd4\xbf\xe2",
	},
	{
		[]api.Pair{gone(strings.Repeat("k", 199)), pair(strings.Repeat("k", 200), "")},
		"\xc7" + strings.Repeat("k", 199) + "\x01\x00\xc8" + strings.Repeat("k", 200) + "\x00\x00\x00\x00\x00\x02\x10\x05\x69\xe9",
	},
}

// B1: Build and Open by hand.
func TestKnown(t *testing.T) {
	for _, c := range known {
		wantBuild(t, c.of, c.b)
		wantTable(t, opened(t, c.b), c.of)
		wantBoth(t, c.of)
	}
}

// B1: how long the bytes are and how they end, where the number takes a second and a third byte; another program worked the sums out.
func TestManyKnown(t *testing.T) {
	for _, c := range []struct {
		many, long int
		end        string
	}{
		{255, 2739, "\x00\x00\x00\xff\x33\xd7\xcf\x5c"},
		{256, 2751, "\x00\x00\x01\x00\x06\x03\xc4\xd8"},
		{257, 2763, "\x00\x00\x01\x01\x57\xe9\x78\x58"},
		{1000, 10935, "\x00\x00\x03\xe8\x30\x80\x71\x7f"},
		{65535, 800865, "\x00\x00\xff\xff\x29\x5d\xc3\xa7"},
		{65536, 800879, "\x00\x01\x00\x00\x63\x0d\xbc\xd4"},
		{65537, 800893, "\x00\x01\x00\x01\x11\x39\x09\xea"},
	} {
		b, err := table.Build(numbered(c.many))
		if err != nil || len(b) != c.long || !strings.HasSuffix(b, c.end) {
			t.Errorf("Build of %d: %d bytes, %v, want %d that end with %q", c.many, len(b), err, c.long, c.end)
		}
		wantBoth(t, numbered(c.many))
	}
}

// B1: Tables of every size, there and back.
func TestEachSize(t *testing.T) {
	for n := range 300 {
		wantBoth(t, numbered(n))
	}
}

// B1: no Pairs at all, as nil and as an empty list.
func TestNoPairs(t *testing.T) {
	a := opened(t, "\x00\x00\x00\x00\x77\xdb\xc8\x9e")
	if len(a.All()) != 0 || a.First() != "" || a.Last() != "" {
		t.Errorf("%v, %q, %q", a.All(), a.First(), a.Last())
	}
	for _, key := range append(oddKeys, "", strings.Repeat("a", 201)) {
		wantNoGet(t, a, key)
	}
}

// B1: Get below all, between two and above all.
func TestGet(t *testing.T) {
	a := opened(t, byHand([]api.Pair{pair("b", "1"), gone("d"), pair("f", "")}))
	wantGet(t, a, pair("b", "1"))
	wantGet(t, a, gone("d"))
	wantGet(t, a, pair("f", ""))
	for _, key := range []string{"", "\x00", "a", "a\xff", "b\x00", "bb", "B", " b", "c", "d\x00", "e", "f\x00", "g", "\xff", strings.Repeat("b", 200), strings.Repeat("d", 201), strings.Repeat("z", 1<<16)} {
		wantNoGet(t, a, key)
	}
}

// B1: keys and values of any bytes, of each beginning and each end of the list.
func TestAnyBytes(t *testing.T) {
	l := oddPairs()
	for from := range l {
		wantBoth(t, l[from:])
		wantBoth(t, l[:from])
		wantBoth(t, l[from:from+1])
	}
	for c := range 256 {
		wantBoth(t, []api.Pair{pair(one(c), one(255-c)), gone(one(c) + one(c)), pair(one(c)+one(c)+"\x00", strings.Repeat(one(c), 200))})
	}
}

// B1: a key of every length, alone, ahead of others and behind them.
func TestKeyLengths(t *testing.T) {
	for long := 1; long <= 260; long++ {
		key := strings.Repeat("k", long)
		for _, p := range []api.Pair{pair(key, ""), pair(key, "v"), gone(key)} {
			for _, l := range [][]api.Pair{{p}, {pair("a", "1"), p}, {p, pair("z", "1")}, {gone("a"), p, gone("z")}} {
				if long > 200 {
					wantNoBuild(t, l, api.ErrFull)
				} else {
					wantBoth(t, l)
				}
			}
		}
	}
}

// B1: a value of every length.
func TestValueLengths(t *testing.T) {
	for long := 0; long <= 260; long++ {
		p := pair("k", strings.Repeat("v", long))
		for _, l := range [][]api.Pair{{p}, {pair("a", "1"), p}, {p, pair("z", "1")}, {gone("a"), p, gone("z")}} {
			if long > 200 {
				wantNoBuild(t, l, api.ErrFull)
			} else {
				wantBoth(t, l)
			}
		}
	}
}

// B1: each length of a key with each of a value.
func TestLengthsTogether(t *testing.T) {
	for _, a := range slices.Concat(goodKeyLengths, badLengths) {
		for _, b := range slices.Concat(goodLengths, badLengths) {
			l := []api.Pair{pair(strings.Repeat("\xff", a), strings.Repeat("\x00", b))}
			if a > 200 || b > 200 {
				wantNoBuild(t, l, api.ErrFull)
			} else {
				wantBoth(t, l)
			}
		}
	}
	hundred := strings.Repeat("\u00e9", 100)
	wantBoth(t, []api.Pair{pair(hundred, hundred)})
	wantNoBuild(t, []api.Pair{pair(hundred+"\u00e9", "")}, api.ErrFull)
	wantNoBuild(t, []api.Pair{pair("k", hundred+"\u00e9")}, api.ErrFull)
}

// B1: of each two keys the second rises or it does not, by their bytes.
func TestRising(t *testing.T) {
	for i, a := range oddKeys {
		for j, b := range oddKeys {
			for _, l := range [][]api.Pair{{pair(a, "1"), pair(b, "2")}, {gone(a), pair(b, "")}, {pair(a, ""), gone(b)}, {gone(a), gone(b)}} {
				if i < j {
					wantBoth(t, l)
				} else {
					wantNoBuild(t, l, api.ErrClash)
					wantNoOpen(t, "keys that do not rise", byHand(l))
				}
			}
		}
	}
	for _, keys := range []string{"aba", "abb", "acb", "baa", "bab", "bbc", "cba", "abca", "abcb", "abcc", "abdc"} {
		var l []api.Pair
		for _, c := range keys {
			l = append(l, pair(string(c), "v"))
		}
		wantNoBuild(t, l, api.ErrClash)
		wantNoOpen(t, "keys that do not rise", byHand(l))
	}
}

// wrongAt are Pairs that are wrong behind a Pair of the key "m", with which one thing or more is wrong.
func wrongAt() []api.Pair {
	var out []api.Pair
	for _, key := range []string{"", "a", "m", "n", strings.Repeat("a", 201), strings.Repeat("n", 201), strings.Repeat("z", 256)} {
		for _, value := range []string{"", "v", strings.Repeat("v", 200), strings.Repeat("v", 201), strings.Repeat("v", 256)} {
			for _, is := range []bool{false, true} {
				p := api.Pair{Key: key, Value: value, Gone: is}
				if faultByHand([]api.Pair{pair("m", ""), p}, 1) != api.OK {
					out = append(out, p)
				}
			}
		}
	}
	return out
}

// B1: each error by hand, and of a Pair with which more is wrong the one that is named first.
func TestRefused(t *testing.T) {
	long := strings.Repeat("n", 201)
	for _, c := range []struct {
		p    api.Pair
		want api.Errno
	}{
		{pair("", ""), api.ErrSyntax},
		{pair("", "v"), api.ErrSyntax},
		{pair("", long), api.ErrSyntax},
		{gone(""), api.ErrSyntax},
		{api.Pair{Value: "v", Gone: true}, api.ErrSyntax},
		{api.Pair{Value: long, Gone: true}, api.ErrSyntax},
		{pair(long, ""), api.ErrFull},
		{pair("n", long), api.ErrFull},
		{pair(long, long), api.ErrFull},
		{gone(long), api.ErrFull},
		{api.Pair{Key: long, Value: "v", Gone: true}, api.ErrFull},
		{api.Pair{Key: "n", Value: long, Gone: true}, api.ErrFull},
		{pair("a"+long, ""), api.ErrFull},
		{pair("a", long), api.ErrFull},
		{api.Pair{Key: "m", Value: long, Gone: true}, api.ErrFull},
		{api.Pair{Key: "n", Value: "v", Gone: true}, api.ErrShape},
		{api.Pair{Key: "n", Value: "\x00", Gone: true}, api.ErrShape},
		{api.Pair{Key: "a", Value: "v", Gone: true}, api.ErrShape},
		{api.Pair{Key: "m", Value: strings.Repeat("v", 200), Gone: true}, api.ErrShape},
		{pair("m", ""), api.ErrClash},
		{pair("m", "v"), api.ErrClash},
		{gone("m"), api.ErrClash},
		{pair("a", ""), api.ErrClash},
		{gone("a"), api.ErrClash},
		{pair("lz", "v"), api.ErrClash},
	} {
		wantNoBuild(t, []api.Pair{pair("m", "1"), c.p}, c.want)
		wantNoBuild(t, []api.Pair{gone("m"), c.p, pair("z", "")}, c.want)
		if c.want != api.ErrClash {
			wantNoBuild(t, []api.Pair{c.p}, c.want)
			wantNoBuild(t, []api.Pair{c.p, pair("z", "")}, c.want)
		}
	}
}

// B1: one by one: of two wrong Pairs the first one's error, wherever they stand.
func TestFirstFault(t *testing.T) {
	for _, first := range wrongAt() {
		for _, second := range wrongAt() {
			for _, l := range [][]api.Pair{
				{pair("m", ""), first, second},
				{pair("m", ""), first, pair("z", ""), second},
				{first, pair("m", ""), second},
				{first, second},
			} {
				if want := firstFault(l); want != api.OK {
					wantNoBuild(t, l, want)
				} else {
					wantBoth(t, l)
				}
			}
		}
	}
	for _, at := range []int{0, 1, 128, 255, 256} {
		for _, p := range []api.Pair{pair("", ""), pair("z", strings.Repeat("v", 201)), {Key: "z", Value: "v", Gone: true}, pair("!", "")} {
			l := numbered(257)
			l[at] = p
			if want := firstFault(l); want != api.OK {
				wantNoBuild(t, l, want)
			}
			wantOpen(t, "one of many is wrong", byHand(l))
		}
	}
}

// B1: no bytes, each beginning, each end, one byte more behind, ahead and between.
func TestCutOrLeftOver(t *testing.T) {
	wantNoOpen(t, "no bytes", "")
	for _, c := range known {
		for n := range len(c.b) {
			wantNoOpen(t, "a beginning", c.b[:n])
			wantNoOpen(t, "an end", c.b[n+1:])
			wantNoOpen(t, "a byte taken out", c.b[:n]+c.b[n+1:])
			wantOpen(t, "a beginning, summed", summed(c.b[:n]))
			wantOpen(t, "a beginning, counted", counted(c.b[:n], len(c.of)))
			wantOpen(t, "an end, counted", counted(c.b[min(n, len(c.b)-8):len(c.b)-8], len(c.of)))
		}
		for more := range 256 {
			wantNoOpen(t, "one byte behind", c.b+one(more))
			wantNoOpen(t, "one byte ahead", one(more)+c.b)
			wantNoOpen(t, "one byte behind the pairs", counted(c.b[:len(c.b)-8]+one(more), len(c.of)))
			wantNoOpen(t, "one byte behind the pairs, counted", counted(c.b[:len(c.b)-8]+one(more), len(c.of)+1))
			wantNoOpen(t, "one byte between number and sum", summed(c.b[:len(c.b)-4]+one(more)))
		}
		wantNoOpen(t, "it twice", c.b+c.b)
		wantNoOpen(t, "it twice, summed anew", summed(c.b+c.b[:len(c.b)-4]))
		wantNoOpen(t, "a sum of it behind", summed(c.b))
		wantNoOpen(t, "no number", summed(c.b[:len(c.b)-8]))
	}
}

// B1: each single byte changed, of short bytes into each other one, with the Sum as it was and made anew.
func TestEachByteChanged(t *testing.T) {
	taken := 0
	change := func(b string, at, c int) {
		if b[at] == byte(c) {
			return
		}
		other := b[:at] + one(c) + b[at+1:]
		wantNoOpen(t, "a byte changed", other)
		if wantOpen(t, "a byte changed, summed anew", summed(other[:len(b)-4])) && at < len(b)-4 {
			taken++
		}
	}
	for _, c := range known {
		for at := range len(c.b) {
			for other := 0; other < 256; other += 1 + len(c.b)/50 {
				change(c.b, at, other)
			}
		}
	}
	b := byHand(numbered(257))
	for at := range len(b) {
		change(b, at, int(b[at]^1))
		change(b, at, int(b[at]^0x80))
	}
	if taken == 0 {
		t.Errorf("no change of a key or value was ever taken")
	}
}

// B1: a number of Pairs that is not how many there are.
func TestWrongNumber(t *testing.T) {
	for _, n := range []int{0, 1, 2, 3, 255, 256, 257} {
		b := byHand(numbered(n))
		b = b[:len(b)-8]
		for many := range 600 {
			if many != n {
				wantNoOpen(t, fmt.Sprintf("%d as %d", n, many), counted(b, many))
			}
		}
		for _, many := range []uint32{1 << 16, 1 << 24, 1 << 31, 1<<31 - 1, 1<<32 - 1} {
			wantNoOpen(t, "a great number", summed(b+four(many)))
			wantNoOpen(t, "a great number", summed(b+four(many+uint32(n))))
			wantNoOpen(t, "a great number", summed(b+four(many|uint32(n))))
		}
		low := string(binary.LittleEndian.AppendUint32(nil, uint32(n)))
		wantOpen(t, "the low byte first", summed(b+low))
		wantNoOpen(t, "a number of two bytes", summed(b+low[:2]))
	}
}

// B1: a Sum that is none, or of other bytes.
func TestWrongSum(t *testing.T) {
	for _, c := range known {
		ahead := c.b[:len(c.b)-4]
		sum := sumByHand(ahead)
		for _, other := range []uint32{0, 1, sum + 1, sum - 1, sum + 2147483647, sum + 1<<31, ^sum, sumByHand(""), sumByHand(ahead[:len(ahead)-4]), sumByHand("\x00" + ahead), sumByHand(c.b)} {
			wantNoOpen(t, "another sum", ahead+four(other))
		}
		wantNoOpen(t, "the low byte first", ahead+string(binary.LittleEndian.AppendUint32(nil, sum)))
	}
}

// B1: bytes of Pairs that may not be, first, between, last and alone.
func TestWrongPair(t *testing.T) {
	var wrong []string
	for mark := 2; mark < 256; mark++ {
		wrong = append(wrong, "\x01n"+one(mark)+"\x00", "\x01n"+one(mark)+"\x01v")
	}
	for long := 201; long < 256; long++ {
		text := strings.Repeat("n", long)
		wrong = append(wrong, pairByHand(pair(text, "")), pairByHand(gone(text)), pairByHand(pair("n", text)), pairByHand(pair(text, text)))
	}
	for _, value := range []string{"v", "\x00", "\x01", "vv", strings.Repeat("v", 200)} {
		wrong = append(wrong, pairByHand(api.Pair{Key: "n", Value: value, Gone: true}))
	}
	wrong = append(wrong, pairByHand(pair("", "")), pairByHand(pair("", "v")), pairByHand(gone("")), "\x00", "\x01", "\x00\x00", "\x01n", "\x01n\x00", "\x01n\x01", "n", "\x02n\x00\x00\x01")
	good, last := pairByHand(pair("m", "1")), pairByHand(gone("o"))
	for _, b := range wrong {
		for many := range 5 {
			wantNoOpen(t, "one that is none", counted(b, many))
			wantOpen(t, "the first is none", counted(b+last, many))
			wantNoOpen(t, "the last is none", counted(good+b, many))
			wantOpen(t, "the one between is none", counted(good+b+last, many))
		}
	}
	for many := range 5 {
		wantNoOpen(t, "two of one key", counted(good+good, many))
		wantNoOpen(t, "two of one key", counted(good+pairByHand(gone("m")), many))
		wantNoOpen(t, "keys that fall", counted(last+good, many))
	}
}

// B1: a length that reaches beyond the bytes, by one and by more, also into the number and the Sum.
func TestLengthBeyond(t *testing.T) {
	for _, there := range []int{0, 1, 2, 7, 8, 9, 100, 199, 200} {
		text := strings.Repeat("n", there)
		for long := range 256 {
			wantOpen(t, "a key's length", counted(one(long)+text+"\x00\x00", 1))
			wantOpen(t, "a value's length", counted("\x01k\x00"+one(long)+text, 1))
			wantOpen(t, "a key's length and none behind", counted(one(long)+text, 1))
			if long > there {
				wantNoOpen(t, "a value beyond the bytes", counted("\x01k\x00"+one(long)+text, 1))
				wantNoOpen(t, "a key beyond the bytes", counted(one(long)+text, 1))
			}
		}
	}
}

// B1: short bytes of few kinds, all that there are, with each small number behind them.
func TestShortBytes(t *testing.T) {
	kinds := []byte{0, 1, 2, 3, 201, 255}
	taken := 0
	var each func(b string)
	each = func(b string) {
		wantNoOpen(t, "short bytes without a sum", b)
		for many := range 3 {
			if wantOpen(t, "short bytes", counted(b, many)) {
				taken++
			}
		}
		if len(b) < 6 {
			for _, c := range kinds {
				each(b + string([]byte{c}))
			}
		}
	}
	each("")
	if taken < 10 {
		t.Errorf("%d short bytes were taken: too few", taken)
	}
}

// damaged has a byte changed, put in, or taken out.
func damaged(r *rand.Rand, b string) string {
	at := r.Intn(len(b) + 1)
	c := one([]int{0, 1, 2, r.Intn(256)}[r.Intn(4)])
	behind := min(at+1, len(b))
	switch r.Intn(4) {
	case 0:
		return b[:at] + c + b[at:]
	case 1:
		return b[:at] + b[behind:]
	}
	return b[:at] + c + b[behind:]
}

// B1: of any bytes Open takes just those that Build writes.
func TestOpenOfAnyBytes(t *testing.T) {
	r := rand.New(rand.NewSource(10))
	taken := 0
	for range 20_000 {
		l := anyPairs(r, r.Intn(6))
		b := byHand(l)
		b = b[:len(b)-8]
		for range r.Intn(3) {
			b = damaged(r, b)
		}
		if wantOpen(t, "any bytes", counted(b, len(l))) {
			taken++
		}
		wantOpen(t, "any bytes, damaged", damaged(r, counted(b, len(l))))
	}
	if taken < 2000 || taken > 18_000 {
		t.Errorf("%d of 20000 are bytes of a Table: too few of one kind", taken)
	}
}

// B1: lists at random, there and back; with one Pair put elsewhere or spoilt, the first fault.
func TestBuildOfAnyPairs(t *testing.T) {
	r := rand.New(rand.NewSource(11))
	for range 3000 {
		l := anyPairs(r, r.Intn(30))
		wantBoth(t, l)
		for range min(len(l), 1+r.Intn(3)) {
			i, j := r.Intn(len(l)), r.Intn(len(l))
			switch r.Intn(5) {
			case 0:
				l[i], l[j] = l[j], l[i]
			case 1:
				l[i].Key = l[j].Key
			case 2:
				l[i].Gone = true
			case 3:
				l[i].Value = strings.Repeat("v", 199+r.Intn(4))
			case 4:
				l[i].Key = l[i].Key[min(1, len(l[i].Key)):]
			}
		}
		if want := firstFault(l); want != api.OK {
			wantNoBuild(t, l, want)
		} else {
			wantBoth(t, l)
		}
	}
}

// P2, P4: what is handed to Build is neither written into nor kept, nor read behind its length.
func TestBuildLeavesItsList(t *testing.T) {
	for _, n := range []int{0, 1, 2, 60, 257} {
		room := append(numbered(n), pair("", ""), gone("behind"))
		before := slices.Clone(room)
		b, err := table.Build(room[:n])
		if err != nil || b != byHand(before[:n]) {
			t.Fatalf("Build of %d: %s, %v", n, brief(b), err)
		}
		wantNoBuild(t, room[:n+1], api.ErrSyntax)
		if !slices.Equal(room, before) {
			t.Fatalf("Build wrote into a list of %d", n)
		}
		a := opened(t, b)
		for i := range room {
			room[i] = api.Pair{Key: "!", Value: "written", Gone: true}
		}
		if b != byHand(before[:n]) {
			t.Fatalf("the bytes of %d change with the list", n)
		}
		wantTable(t, a, before[:n])
	}
}

// P2: what All told is the caller's, each time anew.
func TestAllIsTheCallers(t *testing.T) {
	for _, n := range []int{0, 1, 2, 3, 60, 257} {
		a := opened(t, byHand(numbered(n)))
		first, second := a.All(), a.All()
		for i := range first {
			first[i] = api.Pair{Key: "!", Value: "written", Gone: true}
		}
		_ = append(first, gone("behind"), gone("it"))
		_ = append(first[:0], gone("ahead"))
		if !slices.Equal(second, numbered(n)) {
			t.Fatalf("%d Pairs: two lists share memory", n)
		}
		wantTable(t, a, numbered(n))
		wantNoGet(t, a, "!")
		wantNoGet(t, a, "behind")
	}
}

// P2: Tables that were opened of the same bytes, and of others, do not share.
func TestTwoTables(t *testing.T) {
	b, c := byHand(numbered(20)), byHand(oddPairs())
	a, same, other := opened(t, b), opened(t, b), opened(t, c)
	clear(a.All())
	clear(other.All())
	wantTable(t, same, numbered(20))
	wantTable(t, other, oddPairs())
	wantTable(t, a, numbered(20))
	wantNoOpen(t, "bytes behind", b+c)
	wantTable(t, a, numbered(20))
	wantTable(t, opened(t, byHand(nil)), nil)
	wantTable(t, other, oddPairs())
}

// text is of the memory of bytes, which can be written into behind a call.
func text(memory []byte) string { return unsafe.String(unsafe.SliceData(memory), len(memory)) }

// P2: what is handed in is not kept: the memory of bytes and keys may be another's behind the call.
func TestArgumentsAreNotKept(t *testing.T) {
	l := oddPairs()
	memory := []byte(byHand(l))
	a := opened(t, text(memory))
	clear(memory)
	wantTable(t, a, l)

	key := []byte("a\x00b")
	got, err := a.Get(text(key))
	copy(key, "zzz")
	if err != nil || got.Key != "a\x00b" {
		t.Errorf("Get = %s, %v: it has the memory of what was asked", brief(got), err)
	}

	key, value := []byte("key"), []byte("value")
	b, err := table.Build([]api.Pair{pair(text(key), text(value))})
	clear(key)
	clear(value)
	if err != nil || b != byHand([]api.Pair{pair("key", "value")}) {
		t.Errorf("Build = %s, %v: it has the memory of its Pairs", brief(b), err)
	}
}

// P2: asking, however often and in whatever order, changes nothing.
func TestAskingChangesNothing(t *testing.T) {
	a := opened(t, byHand(oddPairs()))
	for range 3 {
		for i := range oddKeys {
			_, _ = a.Get(oddKeys[len(oddKeys)-1-i])
			wantNoGet(t, a, oddKeys[i]+"\x02")
			if a.Last() != oddKeys[len(oddKeys)-1] || a.First() != oddKeys[0] {
				t.Fatalf("First, Last: %s, %s", brief(a.First()), brief(a.Last()))
			}
		}
		wantTable(t, a, oddPairs())
	}
}
