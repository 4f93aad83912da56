package entry_test

import (
	"encoding/binary"
	"fmt"
	"math"
	"math/rand"
	"slices"
	"strings"
	"testing"
	"unsafe"

	"witnessbox/api"
	"witnessbox/entry"
	"witnessbox/mix"
	"witnessbox/plain"
)

var goodTimes = []int{0, 1, 2, 127, 128, 255, 256, 257, 65535, 65536, 65537, 66051, 983040, 999_999, 1_000_000}

// Of some of these the low three bytes alone are a Time that may be.
var badTimes = []int{-1, -2, -256, -1_000_000, 1_000_001, 1_048_576, 1<<24 - 1, 1 << 24, 1<<24 + 1, 1 << 32, 1<<32 + 5, math.MinInt, math.MinInt + 1, math.MinInt32, math.MaxInt - 1, math.MaxInt}

var goodLengths = []int{0, 1, 2, 127, 128, 199, 200}

// Of some of these the low byte alone is a length that may be.
var badLengths = []int{201, 202, 255, 256, 257, 456, 1000, 1 << 16, 1<<16 + 200}

var listSizes = []int{0, 1, 2, 3, 127, 128, 199, 200}

// wantError also asks that an Errno is told, never OK.
func wantError(t *testing.T, what string, err error, want api.Errno) {
	t.Helper()
	if err == nil || plain.Told(err) != want {
		t.Errorf("%s: error %v, want %v", what, err, want)
	}
}

// someData has all bytes from 0 to 255 in it, as far as it reaches, the ends first.
func someData(n int) string {
	out := make([]byte, n)
	for i := range out {
		out[i] = byte(i / 2)
		if i%2 == 1 {
			out[i] = byte(255 - i/2)
		}
	}
	return string(out)
}

func anyEntry(r *rand.Rand) api.Entry {
	data := make([]byte, r.Intn(r.Intn(201)+1))
	r.Read(data)
	return api.Entry{Time: r.Intn(1_000_001), Data: string(data)}
}

func anyList(r *rand.Rand, n int) []api.Entry {
	out := make([]api.Entry, n)
	for i := range out {
		out[i] = anyEntry(r)
	}
	return out
}

// byHand is E1, word for word: Time in three bytes, how long Data is in one, Data.
func byHand(e api.Entry) string {
	four := binary.BigEndian.AppendUint32(nil, uint32(e.Time))
	return string(four[1:]) + string([]byte{byte(len(e.Data))}) + e.Data
}

// packedByHand is E1, word for word: how many in one byte, then of each its bytes.
func packedByHand(l []api.Entry) string {
	out := string([]byte{byte(len(l))})
	for _, e := range l {
		out += byHand(e)
	}
	return out
}

// readByHand tells how many bytes the entry at the beginning has, 0 where there is none.
func readByHand(b string) (api.Entry, int) {
	if len(b) < 4 {
		return api.Entry{}, 0
	}
	time, long := int(binary.BigEndian.Uint32([]byte("\x00"+b[:3]))), int(b[3])
	if time > 1_000_000 || long > 200 || len(b) < 4+long {
		return api.Entry{}, 0
	}
	return api.Entry{Time: time, Data: b[4 : 4+long]}, 4 + long
}

func unpackedByHand(b string) ([]api.Entry, bool) {
	if len(b) == 0 || b[0] > 200 {
		return nil, false
	}
	many, b := int(b[0]), b[1:]
	var out []api.Entry
	for range many {
		e, n := readByHand(b)
		if n == 0 {
			return nil, false
		}
		out, b = append(out, e), b[n:]
	}
	return out, len(b) == 0
}

func wantEncode(t *testing.T, e api.Entry, want string) {
	t.Helper()
	if got, err := entry.Encode(e); err != nil || got != want {
		t.Errorf("Encode(%v) = %q, %v, want %q", e, got, err, want)
	}
}

func wantDecode(t *testing.T, b string, want api.Entry) {
	t.Helper()
	if got, err := entry.Decode(b); err != nil || got != want {
		t.Errorf("Decode(%q) = %v, %v, want %v", b, got, err, want)
	}
}

func wantNoDecode(t *testing.T, b string) {
	t.Helper()
	got, err := entry.Decode(b)
	wantError(t, fmt.Sprintf("Decode(%q)", b), err, api.ErrSyntax)
	if got != (api.Entry{}) {
		t.Errorf("Decode(%q): %v beside an error", b, got)
	}
}

func wantPack(t *testing.T, l []api.Entry, want string) {
	t.Helper()
	if got, err := entry.Pack(l); err != nil || got != want {
		t.Errorf("Pack of %d = %q, %v, want %q", len(l), got, err, want)
	}
}

func wantUnpack(t *testing.T, b string, want []api.Entry) {
	t.Helper()
	if got, err := entry.Unpack(b); err != nil || !slices.Equal(got, want) {
		t.Errorf("Unpack(%q) = %v, %v, want %v", b, got, err, want)
	}
}

func wantNoUnpack(t *testing.T, what, b string) {
	t.Helper()
	got, err := entry.Unpack(b)
	wantError(t, fmt.Sprintf("Unpack of %s %q", what, b), err, api.ErrSyntax)
	if len(got) != 0 {
		t.Errorf("Unpack of %s %q: %v beside an error", what, b, got)
	}
}

// wantListError asks both that take lists.
func wantListError(t *testing.T, what string, l []api.Entry, want api.Errno) {
	t.Helper()
	b, err := entry.Pack(l)
	wantError(t, "Pack of "+what, err, want)
	if b != "" {
		t.Errorf("Pack of %s: %q beside an error", what, b)
	}
	leafs, err := entry.Leafs(l)
	wantError(t, "Leafs of "+what, err, want)
	if len(leafs) != 0 {
		t.Errorf("Leafs of %s: %v beside an error", what, leafs)
	}
}

// known are entries written out by hand; the sums of their leafs were worked out by another program.
var known = []struct {
	of   api.Entry
	b    string
	leaf int
}{
	{api.Entry{}, "\x00\x00\x00\x00", 1433905493},
	{api.Entry{Time: 1}, "\x00\x00\x01\x00", 1433905624},
	{api.Entry{Time: 255, Data: "a"}, "\x00\x00\xff\x01a", 1014918578},
	{api.Entry{Time: 256, Data: "\x00"}, "\x00\x01\x00\x01\x00", 1012790517},
	{api.Entry{Time: 65535, Data: "\xff"}, "\x00\xff\xff\x01\xff", 1588181941},
	{api.Entry{Time: 65536, Data: "\x00\xff\x00"}, "\x01\x00\x00\x03\x00\xff\x00", 1876775670},
	{api.Entry{Time: 66051, Data: "hello"}, "\x01\x02\x03\x05hello", 1820317639},
	{api.Entry{Time: 16909, Data: "\u00e9"}, "\x00\x42\x0d\x02\xc3\xa9", 1523465361},
	{api.Entry{Time: 1_000_000}, "\x0f\x42\x40\x00", 1468767868},
	{api.Entry{Time: 1_000_000, Data: strings.Repeat("\xff", 200)}, "\x0f\x42\x40\xc8" + strings.Repeat("\xff", 200), 543848060},
	{api.Entry{Time: 7, Data: strings.Repeat("\x00", 200)}, "\x00\x00\x07\xc8" + strings.Repeat("\x00", 200), 1824177509},
}

// wrongEntries are those that Check refuses, and with which error.
func wrongEntries() map[api.Entry]api.Errno {
	out := map[api.Entry]api.Errno{}
	for _, time := range badTimes {
		for _, long := range slices.Concat(goodLengths, badLengths) {
			out[api.Entry{Time: time, Data: someData(long)}] = api.ErrRange
		}
	}
	for _, time := range goodTimes {
		for _, long := range badLengths {
			out[api.Entry{Time: time, Data: someData(long)}] = api.ErrFull
		}
	}
	return out
}

// wrongBytes are those of no entry.
func wrongBytes() []string {
	out := []string{
		"", "\x00", "\x00\x00", "\x00\x00\x00", "\xff", "\xff\xff\xff",
		"\x00\x00\x00\x00\x00",
		"\x00\x00\x00\x01",
		"\x00\x00\x00\x01ab",
		"\x00\x00\x00\x02a",
		"\x00\x00\x05\x00\x00\x00\x05\x00",
		"\x0f\x42\x41\x00",
		"\x0f\x42\x41\x01a",
		"\x0f\x43\x00\x00",
		"\x10\x00\x00\x00",
		"\x80\x00\x00\x00",
		"\xff\xff\xff\x00",
		"\xff\xff\xff\xff",
		"\x00\x00\x00\xc8",
		"\x00\x00\x00\xc9",
		"0:a",
	}
	for long := 201; long <= 255; long++ {
		ahead := "\x00\x00\x05" + string([]byte{byte(long)})
		out = append(out, ahead, ahead+someData(long), ahead+someData(long-1), ahead+someData(200))
	}
	for _, c := range known {
		for n := range len(c.b) {
			out = append(out, c.b[:n])
		}
		out = append(out, c.b+"\x00", c.b+"\xff", c.b+c.b)
	}
	return out
}

// E1: Check: Time from 0 to 1000000, Data of at most 200 bytes.
func TestCheck(t *testing.T) {
	for _, time := range goodTimes {
		for _, long := range goodLengths {
			if err := entry.Check(api.Entry{Time: time, Data: someData(long)}); err != nil {
				t.Errorf("Check of Time %d and %d bytes: %v", time, long, err)
			}
		}
	}
	if err := entry.Check(api.Entry{Time: 5, Data: strings.Repeat("\u00e9", 100)}); err != nil {
		t.Errorf("Check of 100 letters of two bytes each: %v", err)
	}
	wantError(t, "Check of 101 letters of two bytes each", entry.Check(api.Entry{Time: 5, Data: strings.Repeat("\u00e9", 101)}), api.ErrFull)
}

// E1: a Time that is none is told ahead of Data that is too long; Encode, and lists of one, tell the same.
func TestCheckWrong(t *testing.T) {
	for e, want := range wrongEntries() {
		what := fmt.Sprintf("Time %d and %d bytes", e.Time, len(e.Data))
		wantError(t, "Check of "+what, entry.Check(e), want)
		b, err := entry.Encode(e)
		wantError(t, "Encode of "+what, err, want)
		if b != "" {
			t.Errorf("Encode of %s: %q beside an error", what, b)
		}
		wantListError(t, what, []api.Entry{e}, want)
	}
}

// E1: Encode and Decode by hand.
func TestKnown(t *testing.T) {
	for _, c := range known {
		wantEncode(t, c.of, c.b)
		wantDecode(t, c.b, c.of)
	}
}

// E1: each Time that may be, there and back.
func TestEachTime(t *testing.T) {
	for time := 0; time <= 1_000_000; time++ {
		e := api.Entry{Time: time}
		b, err := entry.Encode(e)
		if err != nil || b != byHand(e) {
			t.Fatalf("Encode of Time %d = %q, %v", time, b, err)
		}
		if back, err := entry.Decode(b); err != nil || back != e {
			t.Fatalf("Decode of Time %d = %v, %v", time, back, err)
		}
	}
}

// E1: each length of Data that may be, at each edge of Time, there and back.
func TestEachLength(t *testing.T) {
	for long := 0; long <= api.MaxText; long++ {
		for _, time := range goodTimes {
			for _, data := range []string{someData(long), strings.Repeat("\x00", long), strings.Repeat("\xff", long)} {
				e := api.Entry{Time: time, Data: data}
				wantEncode(t, e, byHand(e))
				wantDecode(t, byHand(e), e)
			}
		}
	}
}

// E1: bytes of a Time that may not be, whatever stands behind them.
func TestDecodeEachWrongTime(t *testing.T) {
	for time := 1_000_001; time < 1<<24; time += 1 + time%97 {
		wantNoDecode(t, byHand(api.Entry{Time: time}))
	}
	for _, time := range []int{1_000_001, 1_000_256, 1 << 20, 1 << 23, 1<<24 - 1} {
		for _, long := range goodLengths {
			wantNoDecode(t, byHand(api.Entry{Time: time, Data: someData(long)}))
		}
	}
}

// E1: no bytes, fewer than four, bytes that are missing or left over, a Time or a length that may not be.
func TestDecodeWrong(t *testing.T) {
	for _, b := range wrongBytes() {
		wantNoDecode(t, b)
	}
}

// E1: each length against each number of bytes behind it: just as many, and at most 200.
func TestDecodeLengthAgainstBytes(t *testing.T) {
	for long := range 256 {
		for there := range 260 {
			b := "\x00\x01\x02" + string([]byte{byte(long)}) + someData(there)
			if long == there && long <= 200 {
				wantDecode(t, b, api.Entry{Time: 258, Data: someData(there)})
			} else {
				wantNoDecode(t, b)
			}
		}
	}
}

// damaged is a text with a byte changed, put in, or taken out.
func damaged(r *rand.Rand, b string) string {
	at, one := r.Intn(len(b)+1), string([]byte{byte(r.Intn(256))})
	switch r.Intn(5) {
	case 0:
		return b[:at] + one + b[at:]
	case 1:
		return b[:at]
	case 2:
		return b + one
	}
	behind := min(at+1, len(b))
	if r.Intn(3) == 0 {
		return b[:at] + b[behind:]
	}
	return b[:at] + one + b[behind:]
}

// E1: of any bytes Decode takes just those that Encode writes.
func TestDecodeOfAnyBytes(t *testing.T) {
	r := rand.New(rand.NewSource(7))
	taken := 0
	for range 20_000 {
		b := byHand(anyEntry(r))
		for range r.Intn(3) {
			b = damaged(r, b)
		}
		want, n := readByHand(b)
		if n == 0 || n != len(b) {
			wantNoDecode(t, b)
			continue
		}
		taken++
		wantDecode(t, b, want)
		wantEncode(t, want, b)
	}
	if taken < 1000 || taken > 19_000 {
		t.Errorf("%d of 20000 are bytes of an entry: too few of one kind", taken)
	}
}

// E1: Pack and Unpack by hand.
func TestPackKnown(t *testing.T) {
	for _, c := range []struct {
		l []api.Entry
		b string
	}{
		{nil, "\x00"},
		{[]api.Entry{}, "\x00"},
		{[]api.Entry{{}}, "\x01\x00\x00\x00\x00"},
		{[]api.Entry{{Time: 66051, Data: "hello"}}, "\x01\x01\x02\x03\x05hello"},
		{[]api.Entry{{Time: 5, Data: "ab"}, {}, {Time: 1_000_000, Data: "\xff"}}, "\x03\x00\x00\x05\x02ab\x00\x00\x00\x00\x0f\x42\x40\x01\xff"},
		{[]api.Entry{{Time: 9}, {Time: 1}}, "\x02\x00\x00\x09\x00\x00\x00\x01\x00"},
		{slices.Repeat([]api.Entry{{Time: 1, Data: "x"}}, 199), "\xc7" + strings.Repeat("\x00\x00\x01\x01x", 199)},
		{slices.Repeat([]api.Entry{{Time: 1, Data: "x"}}, 200), "\xc8" + strings.Repeat("\x00\x00\x01\x01x", 200)},
	} {
		wantPack(t, c.l, c.b)
		wantUnpack(t, c.b, c.l)
	}
}

// E1: bytes and leafs of 200 entries, whose sums another program worked out.
func TestFullListKnown(t *testing.T) {
	l := make([]api.Entry, 200)
	for i := range l {
		l[i] = api.Entry{Time: i * 5000, Data: strings.Repeat(string([]byte{byte(i)}), i)}
	}
	b, err := entry.Pack(l)
	if err != nil || len(b) != 20701 || mix.Sum(b) != 964174868 {
		t.Errorf("Pack: %d bytes of the sum %d, %v", len(b), mix.Sum(b), err)
	}
	leafs, err := entry.Leafs(l)
	all := 0
	for _, n := range leafs {
		all = (all + n) % api.Prime
	}
	if err != nil || len(leafs) != 200 || all != 1420401918 {
		t.Errorf("Leafs: %d that come to %d, %v", len(leafs), all, err)
	}
}

// E1: Pack, Unpack and Leafs of lists of each size, against E1 written out.
func TestListOfEachSize(t *testing.T) {
	r := rand.New(rand.NewSource(8))
	for size := 0; size <= api.MaxLeafs; size++ {
		l := anyList(r, size)
		wantPack(t, l, packedByHand(l))
		wantUnpack(t, packedByHand(l), l)
		leafs, err := entry.Leafs(l)
		if err != nil || len(leafs) != size {
			t.Fatalf("Leafs of %d: %d, %v", size, len(leafs), err)
		}
		for i, e := range l {
			if want := mix.Leaf(byHand(e)); leafs[i] != want {
				t.Errorf("Leafs of %d: %v at %d, want %v", size, leafs[i], i, want)
			}
		}
	}
}

// E1: entries at the edges, as many as there may be, and the most bytes that there may be.
func TestListOfEdges(t *testing.T) {
	for _, size := range listSizes {
		for _, time := range goodTimes {
			for _, long := range goodLengths {
				l := slices.Repeat([]api.Entry{{Time: time, Data: someData(long)}}, size)
				wantPack(t, l, packedByHand(l))
				wantUnpack(t, packedByHand(l), l)
			}
		}
	}
}

// E1: the leafs of known entries, one by one and in one list.
func TestLeafsKnown(t *testing.T) {
	var l []api.Entry
	var want []int
	for _, c := range known {
		if got, err := entry.Leafs([]api.Entry{c.of}); err != nil || !slices.Equal(got, []int{c.leaf}) {
			t.Errorf("Leafs of %v = %v, %v, want %d", c.of, got, err, c.leaf)
		}
		l, want = append(l, c.of), append(want, c.leaf)
	}
	if got, err := entry.Leafs(l); err != nil || !slices.Equal(got, want) {
		t.Errorf("Leafs = %v, %v, want %v", got, err, want)
	}
	for _, none := range [][]api.Entry{nil, {}} {
		if got, err := entry.Leafs(none); err != nil || len(got) != 0 {
			t.Errorf("Leafs of none = %v, %v", got, err)
		}
	}
}

// E1: more than MaxLeafs, also with entries that are none, wherever they stand.
func TestListTooLong(t *testing.T) {
	r := rand.New(rand.NewSource(9))
	for _, size := range []int{201, 202, 255, 256, 257, 456, 1000} {
		l := anyList(r, size)
		what := fmt.Sprintf("%d entries", size)
		wantListError(t, what, l, api.ErrFull)
		for _, at := range []int{0, 1, 199, 200, size - 1} {
			for _, bad := range []api.Entry{{Time: -1}, {Time: 1_000_001, Data: someData(201)}, {Data: someData(201)}} {
				wrong := slices.Clone(l)
				wrong[at] = bad
				wantListError(t, what+", one of which is none", wrong, api.ErrFull)
			}
		}
	}
}

// E1: one entry that is none, wherever it stands; of two the first one's error.
func TestListFirstFault(t *testing.T) {
	r := rand.New(rand.NewSource(10))
	early, long, both := api.Entry{Time: -1, Data: "a"}, api.Entry{Time: 1, Data: someData(201)}, api.Entry{Time: 1_000_001, Data: someData(300)}
	told := map[api.Entry]api.Errno{early: api.ErrRange, long: api.ErrFull, both: api.ErrRange}
	for _, size := range []int{1, 2, 3, 199, 200} {
		l := anyList(r, size)
		places := slices.Compact([]int{0, size / 2, size - 1})
		for bad, want := range told {
			for _, at := range places {
				wrong := slices.Clone(l)
				wrong[at] = bad
				wantListError(t, fmt.Sprintf("%d with a fault at %d", size, at), wrong, want)
				for other := range told {
					for behind := at + 1; behind < size; behind += 1 + behind/3 {
						wrong := slices.Clone(wrong)
						wrong[behind] = other
						wantListError(t, fmt.Sprintf("%d with faults at %d and %d", size, at, behind), wrong, want)
					}
				}
			}
		}
	}
}

// E1: no bytes, numbers above 200, fewer and more entries than the number says.
func TestUnpackWrongNumber(t *testing.T) {
	wantNoUnpack(t, "no bytes", "")
	r := rand.New(rand.NewSource(11))
	for _, size := range []int{0, 1, 2, 3, 199, 200, 201, 202, 255, 256, 257} {
		b := packedByHand(anyList(r, size))[1:]
		for number := range 256 {
			if number == size && size <= 200 {
				continue
			}
			wantNoUnpack(t, fmt.Sprintf("%d as %d", size, number), string([]byte{byte(number)})+b)
		}
	}
	for number := 1; number < 256; number++ {
		wantNoUnpack(t, "a number alone", string([]byte{byte(number)}))
	}
	for number := 201; number < 256; number++ {
		wantNoUnpack(t, "a number above 200", packedByHand(make([]api.Entry, number)))
	}
}

// E1: bytes that are missing at any place of the end, or left over there.
func TestUnpackCutOrLeftOver(t *testing.T) {
	r := rand.New(rand.NewSource(12))
	for _, size := range []int{0, 1, 2, 3, 199, 200} {
		b := packedByHand(anyList(r, size))
		for n := 0; n < len(b); n += 1 + n/500 {
			wantNoUnpack(t, "a beginning", b[:n])
		}
		wantNoUnpack(t, "all but one", b[:len(b)-1])
		for _, more := range []string{"\x00", "\xff", "\x00\x00\x00", "\x00\x00\x00\x00", "\x00\x00\x05\x01a", b} {
			wantNoUnpack(t, "one with more behind it", b+more)
		}
	}
}

// E1: an entry that is none, at the beginning, between, and at the end; bytes of a whole number of entries in all.
func TestUnpackWrongEntry(t *testing.T) {
	r := rand.New(rand.NewSource(13))
	good := byHand(anyEntry(r))
	for _, bad := range []string{
		"\x0f\x42\x41\x00",
		"\x0f\x42\x41\x01a",
		"\xff\xff\xff\x00",
		"\x00\x00\x01\xc9" + someData(201),
		"\x00\x00\x01\xff" + someData(255),
	} {
		wantNoUnpack(t, "one that is none", "\x01"+bad)
		wantNoUnpack(t, "the first is none", "\x03"+bad+good+good)
		wantNoUnpack(t, "the second is none", "\x03"+good+bad+good)
		wantNoUnpack(t, "the third is none", "\x03"+good+good+bad)
		wantNoUnpack(t, "one that is none behind those of the number", "\x01"+good+bad)
		wantNoUnpack(t, "the last of 200 is none", "\xc8"+strings.Repeat(good, 199)+bad)
	}
}

// E1: of any bytes Unpack takes just those that Pack writes.
func TestUnpackOfAnyBytes(t *testing.T) {
	r := rand.New(rand.NewSource(14))
	taken := 0
	for range 10_000 {
		b := packedByHand(anyList(r, r.Intn(6)))
		for range r.Intn(3) {
			b = damaged(r, b)
		}
		want, ok := unpackedByHand(b)
		if !ok {
			wantNoUnpack(t, "any bytes", b)
			continue
		}
		taken++
		wantUnpack(t, b, want)
		wantPack(t, want, b)
	}
	if taken < 1000 || taken > 9000 {
		t.Errorf("%d of 10000 are bytes of a list: too few of one kind", taken)
	}
}

// E1: short bytes of few kinds, all that there are.
func TestShortBytes(t *testing.T) {
	kinds := []byte{0, 1, 2, 200, 201, 255}
	var each func(b string)
	each = func(b string) {
		if e, n := readByHand(b); n > 0 && n == len(b) {
			wantDecode(t, b, e)
		} else {
			wantNoDecode(t, b)
		}
		if l, ok := unpackedByHand(b); ok {
			wantUnpack(t, b, l)
		} else {
			wantNoUnpack(t, "short bytes", b)
		}
		if len(b) < 6 {
			for _, c := range kinds {
				each(b + string([]byte{c}))
			}
		}
	}
	each("")
}

// inside tells whether a text begins in the memory of another one.
func inside(part, whole string) bool {
	if part == "" || whole == "" {
		return false
	}
	from, at := uintptr(unsafe.Pointer(unsafe.StringData(whole))), uintptr(unsafe.Pointer(unsafe.StringData(part)))
	return from <= at && at < from+uintptr(len(whole))
}

// DOC's P2: texts that are handed out lie in memory of their own.
func TestTextsShareNothing(t *testing.T) {
	r := rand.New(rand.NewSource(15))
	for range 200 {
		e := anyEntry(r)
		b, err := entry.Encode(e)
		if err != nil || inside(b, e.Data) || inside(e.Data, b) {
			t.Fatalf("Encode(%v) = %q, %v: it shares memory with Data", e, b, err)
		}
		if back, err := entry.Decode(b); err != nil || inside(back.Data, b) {
			t.Fatalf("Decode(%q) = %v, %v: Data shares memory with the bytes", b, back, err)
		}
		l := anyList(r, 5)
		b, err = entry.Pack(l)
		if err != nil {
			t.Fatalf("Pack(%v): %v", l, err)
		}
		back, err := entry.Unpack(b)
		if err != nil || len(back) != len(l) {
			t.Fatalf("Unpack(%q) = %v, %v", b, back, err)
		}
		for i := range l {
			if inside(l[i].Data, b) || inside(back[i].Data, b) {
				t.Fatalf("Data at %d shares memory with packed bytes", i)
			}
		}
	}
}

// DOC's P2, P4: lists that are handed in are neither written into, kept, nor read behind their length.
func TestListsAreNotTouched(t *testing.T) {
	r := rand.New(rand.NewSource(16))
	for _, size := range listSizes {
		room := append(anyList(r, size), api.Entry{Time: -1}, api.Entry{Data: someData(201)})
		before := slices.Clone(room)
		for range 2 {
			wantPack(t, room[:size], packedByHand(before[:size]))
			leafs, err := entry.Leafs(room[:size])
			if err != nil || len(leafs) != size {
				t.Errorf("Leafs of %d: %v, %v", size, leafs, err)
			}
			for i := range leafs {
				leafs[i] = -1
			}
			_ = append(leafs, -2)
		}
		if size < api.MaxLeafs {
			wantListError(t, "one more, which is none", room[:size+1], api.ErrRange)
		}
		if !slices.Equal(room, before) {
			t.Errorf("a list of %d was written into", size)
		}
	}
}

// DOC's P2: what is handed out is the caller's: no later answer hangs on it.
func TestListsAreTheCallers(t *testing.T) {
	r := rand.New(rand.NewSource(17))
	for _, size := range listSizes {
		l := anyList(r, size)
		b := packedByHand(l)
		first, err := entry.Unpack(b)
		again, bad := entry.Unpack(b)
		if err != nil || bad != nil {
			t.Fatalf("Unpack of %d: %v, %v", size, err, bad)
		}
		for i := range first {
			first[i] = api.Entry{Time: -1, Data: "other"}
		}
		_ = append(first, api.Entry{Time: -1})
		if !slices.Equal(again, l) {
			t.Errorf("Unpack of %d: two answers share memory", size)
		}
		wantUnpack(t, b, l)
		leafs, err := entry.Leafs(l)
		want := slices.Clone(leafs)
		clear(l)
		if err != nil || !slices.Equal(leafs, want) {
			t.Errorf("Leafs of %d change with the list, %v", size, err)
		}
	}
}
