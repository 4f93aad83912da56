package head_test

import (
	"fmt"
	"math"
	"math/rand"
	"regexp"
	"slices"
	"strconv"
	"strings"
	"testing"

	"witnessbox/api"
	"witnessbox/head"
	"witnessbox/mix"
	"witnessbox/plain"
)

var (
	goodSizes = []int{0, 1, 2, 9, 10, 99, 100, 199, 200}
	badSizes  = []int{-1, -2, -200, 201, 202, 1000, 999_999_999, 1 << 32, 1<<32 + 5, math.MinInt32, math.MinInt, math.MaxInt}
	goodTimes = []int{0, 1, 9, 10, 201, 65536, 999_999, 1_000_000}
	badTimes  = []int{-1, -2, -1_000_000, 1_000_001, 1_000_002, 999_999_999, 1 << 32, 1<<32 + 5, math.MinInt32, math.MinInt, math.MaxInt}
	goodSums  = []int{0, 1, 15, 16, 5381, 0x01020304, 1 << 30, api.Prime - 2, api.Prime - 1}
	badSums   = []int{-1, -2, -api.Prime, api.Prime, api.Prime + 1, math.MaxUint32, 1 << 32, math.MinInt32, math.MinInt, math.MaxInt}
	goodKeys  = []int{1, 2, 7, 9, 10, 1000, 999_999, 1_000_000}
	badKeys   = []int{0, -1, -7, -1_000_000, 1_000_001, 1_000_002, 1 << 32, 1<<32 + 7, math.MinInt32, math.MinInt, math.MaxInt}
)

// wantError also asks that an Errno is told, never OK.
func wantError(t *testing.T, what string, err error, want api.Errno) {
	t.Helper()
	if err == nil || plain.Told(err) != want {
		t.Errorf("%s: error %v, want %v", what, err, want)
	}
}

// known are heads, keys, what is signed and what is printed, written out by hand; the sums were worked out by another program.
var known = []struct {
	of           api.Head
	key          int
	signed       string
	sign         int
	printed      string
	otherPrinted string
}{
	{api.Head{Size: 0, Root: 0, Time: 0}, 1, "0 00000000 0 1", 893566715, "0 00000000 0 3542befb", "0 00000000 0 00000000"},
	{api.Head{Size: 0, Root: 0, Time: 0}, 2, "0 00000000 0 2", 893566716, "0 00000000 0 3542befc", "0 00000000 0 00000000"},
	{api.Head{Size: 1, Root: 1, Time: 1}, 1, "1 00000001 1 1", 2094181335, "1 00000001 1 7cd2abd7", "1 00000001 1 00000000"},
	{api.Head{Size: 2, Root: 7, Time: 4}, 4, "2 00000007 4 4", 472362591, "2 00000007 4 1c27ae5f", "2 00000007 4 00000000"},
	{api.Head{Size: 199, Root: 2147483645, Time: 999999}, 999999, "199 7ffffffd 999999 999999", 2081065180, "199 7ffffffd 999999 7c0a88dc", "199 7ffffffd 999999 00000000"},
	{api.Head{Size: 200, Root: 2147483646, Time: 1000000}, 1000000, "200 7ffffffe 1000000 1000000", 811209934, "200 7ffffffe 1000000 305a14ce", "200 7ffffffe 1000000 00000000"},
	{api.Head{Size: 200, Root: 16909060, Time: 10}, 7, "200 01020304 10 7", 2026527228, "200 01020304 10 78ca59fc", "200 01020304 10 00000000"},
	{api.Head{Size: 10, Root: 11259375, Time: 100}, 1000, "10 00abcdef 100 1000", 1817146748, "10 00abcdef 100 6c4f757c", "10 00abcdef 100 00000000"},
	{api.Head{Size: 5, Root: 5381, Time: 0}, 10, "5 00001505 0 10", 1246301114, "5 00001505 0 4a490bba", "5 00001505 0 00000000"},
	{api.Head{Size: 100, Root: 1073741824, Time: 1000000}, 1, "100 40000000 1000000 1", 2097201764, "100 40000000 1000000 7d00c264", "100 40000000 1000000 00000000"},
}

// signByHand is H1, word for word: the Sum of `SIZE ROOT TIME KEY`.
func signByHand(h api.Head, key int) int {
	return mix.Sum(fmt.Sprintf("%d %08x %d %d", h.Size, h.Root, h.Time, key))
}

// printByHand is H2, word for word: `SIZE ROOT TIME SIGN`.
func printByHand(h api.Head) string {
	return fmt.Sprintf("%d %08x %d %08x", h.Size, h.Root, h.Time, h.Sign)
}

var formOfHead = regexp.MustCompile(`\A(0|[1-9][0-9]{0,8}) ([0-9a-f]{8}) (0|[1-9][0-9]{0,8}) ([0-9a-f]{8})\z`)

// parseByHand is H2's Parse by an expression: what is of another form is ErrSyntax, then what is out of its bounds ErrRange.
func parseByHand(text string) (api.Head, api.Errno) {
	words := formOfHead.FindStringSubmatch(text)
	if words == nil {
		return api.Head{}, api.ErrSyntax
	}
	var n [4]int
	for i, base := range []int{10, 16, 10, 16} {
		wide, _ := strconv.ParseInt(words[i+1], base, 64)
		n[i] = int(wide)
	}
	if n[0] > 200 || n[1] > 2147483646 || n[2] > 1_000_000 || n[3] > 2147483646 {
		return api.Head{}, api.ErrRange
	}
	return api.Head{Size: n[0], Root: n[1], Time: n[2], Sign: n[3]}, api.OK
}

func anyHead(r *rand.Rand) api.Head {
	h := api.Head{Size: r.Intn(201), Root: r.Intn(api.Prime), Time: r.Intn(1_000_001), Sign: r.Intn(api.Prime)}
	// Short numbers are rare by chance alone.
	if r.Intn(3) == 0 {
		h.Size, h.Root, h.Time, h.Sign = h.Size%12, h.Root%300, h.Time%1100, h.Sign%300
	}
	return h
}

// goodHeads are all there are of the edges.
func goodHeads() []api.Head {
	var out []api.Head
	for _, size := range goodSizes {
		for _, root := range goodSums {
			for _, time := range goodTimes {
				for _, sign := range goodSums {
					out = append(out, api.Head{Size: size, Root: root, Time: time, Sign: sign})
				}
			}
		}
	}
	return out
}

// badButForSign are heads in which one number is out of its bounds, but not the Sign, or all three others are.
func badButForSign() []api.Head {
	base := api.Head{Size: 3, Root: 5, Time: 9, Sign: 11}
	var out []api.Head
	for _, n := range badSizes {
		h := base
		h.Size = n
		out = append(out, h)
	}
	for _, n := range badSums {
		h := base
		h.Root = n
		out = append(out, h)
	}
	for _, n := range badTimes {
		h := base
		h.Time = n
		out = append(out, h)
	}
	return append(out, api.Head{Size: -1, Root: -1, Time: -1}, api.Head{Size: 201, Root: api.Prime, Time: 1_000_001})
}

// badHeads are also those whose Sign is no sum.
func badHeads() []api.Head {
	out := badButForSign()
	for _, n := range badSums {
		out = append(out, api.Head{Size: 3, Root: 5, Time: 9, Sign: n}, api.Head{Sign: n}, api.Head{Size: 201, Sign: n})
	}
	return out
}

func wantSign(t *testing.T, h api.Head, key, sign int) {
	t.Helper()
	want := api.Head{Size: h.Size, Root: h.Root, Time: h.Time, Sign: sign}
	if got, err := head.Sign(h, key); err != nil || got != want {
		t.Errorf("Sign(%v, %d) = %v, %v, want %v", h, key, got, err, want)
	}
}

func wantNoSign(t *testing.T, h api.Head, key int) {
	t.Helper()
	got, err := head.Sign(h, key)
	wantError(t, fmt.Sprintf("Sign(%v, %d)", h, key), err, api.ErrRange)
	if got != (api.Head{}) {
		t.Errorf("Sign(%v, %d): %v beside an error", h, key, got)
	}
}

func wantVerify(t *testing.T, h api.Head, key int) {
	t.Helper()
	if err := head.Verify(h, key); err != nil {
		t.Errorf("Verify(%v, %d): %v", h, key, err)
	}
}

func wantNoVerify(t *testing.T, h api.Head, key int, want api.Errno) {
	t.Helper()
	wantError(t, fmt.Sprintf("Verify(%v, %d)", h, key), head.Verify(h, key), want)
}

func wantPrint(t *testing.T, h api.Head, want string) {
	t.Helper()
	if got, err := head.Print(h); err != nil || got != want {
		t.Errorf("Print(%v) = %q, %v, want %q", h, got, err, want)
	}
}

func wantParse(t *testing.T, text string, want api.Head) {
	t.Helper()
	if got, err := head.Parse(text); err != nil || got != want {
		t.Errorf("Parse(%q) = %v, %v, want %v", text, got, err, want)
	}
}

func wantNoParse(t *testing.T, text string, want api.Errno) {
	t.Helper()
	got, err := head.Parse(text)
	wantError(t, fmt.Sprintf("Parse(%q)", text), err, want)
	if got != (api.Head{}) {
		t.Errorf("Parse(%q): %v beside an error", text, got)
	}
}

func wantBetter(t *testing.T, a, b api.Head, want bool) {
	t.Helper()
	if got, err := head.Better(a, b); err != nil || got != want {
		t.Errorf("Better(%v, %v) = %v, %v, want %v", a, b, got, err, want)
	}
}

func wantNoBetter(t *testing.T, a, b api.Head) {
	t.Helper()
	got, err := head.Better(a, b)
	wantError(t, fmt.Sprintf("Better(%v, %v)", a, b), err, api.ErrRange)
	if got {
		t.Errorf("Better(%v, %v): true beside an error", a, b)
	}
}

// H1: Check: each edge of Size, Root, Time and Sign with each of the others.
func TestCheck(t *testing.T) {
	for _, h := range goodHeads() {
		if err := head.Check(h); err != nil {
			t.Errorf("Check(%v): %v", h, err)
		}
	}
}

// H1: each Size and each Time that may be is taken, and the ones beside them are not.
func TestCheckEachSizeAndTime(t *testing.T) {
	for size := -300; size <= 600; size++ {
		err := head.Check(api.Head{Size: size})
		if (err == nil) != (0 <= size && size <= 200) {
			t.Errorf("Check of Size %d: %v", size, err)
		}
	}
	for time := -1000; time <= 1_001_000; time++ {
		err := head.Check(api.Head{Time: time})
		if (err == nil) != (0 <= time && time <= 1_000_000) {
			t.Errorf("Check of Time %d: %v", time, err)
		}
	}
}

// H1, H2: what Check refuses, Verify, Print and Better refuse, too, and tell nothing beside.
func TestBadHeads(t *testing.T) {
	good := api.Head{Size: 3, Root: 5, Time: 9, Sign: 11}
	for _, h := range badHeads() {
		wantError(t, fmt.Sprintf("Check(%v)", h), head.Check(h), api.ErrRange)
		text, err := head.Print(h)
		wantError(t, fmt.Sprintf("Print(%v)", h), err, api.ErrRange)
		if text != "" {
			t.Errorf("Print(%v): %q beside an error", h, text)
		}
		for _, key := range slices.Concat(goodKeys, badKeys) {
			wantNoVerify(t, h, key, api.ErrRange)
		}
		for _, other := range []api.Head{good, {}, {Size: 200, Time: 1_000_000}, h} {
			wantNoBetter(t, h, other)
			wantNoBetter(t, other, h)
		}
	}
}

// H1: Sign, Verify and H2: Print, Parse, by hand.
func TestKnown(t *testing.T) {
	for _, c := range known {
		if got := mix.Sum(c.signed); got != c.sign {
			t.Errorf("Sum(%q) = %d, want %d", c.signed, got, c.sign)
		}
		wantSign(t, c.of, c.key, c.sign)
		wantPrint(t, c.of, c.otherPrinted)
		wantParse(t, c.otherPrinted, c.of)
		signed := c.of
		signed.Sign = c.sign
		wantVerify(t, signed, c.key)
		wantPrint(t, signed, c.printed)
		wantParse(t, c.printed, signed)
	}
}

// H1: Sign at each edge of a head and of a key is the Sum of the text written out, whatever the Sign was; Verify takes it and no other.
func TestSignAtEdges(t *testing.T) {
	for _, h := range goodHeads() {
		for _, key := range goodKeys {
			sign := signByHand(h, key)
			wantSign(t, h, key, sign)
			if h.Sign == sign {
				wantVerify(t, h, key)
			} else {
				wantNoVerify(t, h, key, api.ErrSign)
			}
			h.Sign = sign
			wantVerify(t, h, key)
		}
	}
}

// H1: each key that may be signs, and no other.
func TestSignWithEachKey(t *testing.T) {
	h := api.Head{Size: 3, Root: 5, Time: 9, Sign: 11}
	for key := -1000; key <= 1_001_000; key++ {
		got, err := head.Sign(h, key)
		if key < 1 || key > 1_000_000 {
			if plain.Told(err) != api.ErrRange || got != (api.Head{}) {
				t.Fatalf("Sign with the key %d = %v, %v", key, got, err)
			}
			continue
		}
		if err != nil || got != (api.Head{Size: 3, Root: 5, Time: 9, Sign: signByHand(h, key)}) {
			t.Fatalf("Sign with the key %d = %v, %v", key, got, err)
		}
		if err := head.Verify(got, key); err != nil {
			t.Fatalf("Verify with the key %d: %v", key, err)
		}
	}
}

// H1: a head whose own Sign is no sum is signed as if it were 0.
func TestSignOverNoSum(t *testing.T) {
	for _, n := range badSums {
		for _, key := range goodKeys {
			h := api.Head{Size: 200, Root: 7, Time: 1_000_000, Sign: n}
			wantSign(t, h, key, signByHand(h, key))
		}
	}
}

// H1: a key that is none, a head that is none, and both.
func TestSignWrong(t *testing.T) {
	good := api.Head{Size: 3, Root: 5, Time: 9, Sign: 11}
	for _, key := range badKeys {
		wantNoSign(t, good, key)
		wantNoSign(t, api.Head{}, key)
		for _, h := range badHeads() {
			wantNoSign(t, h, key)
		}
	}
	for _, key := range goodKeys {
		for _, h := range badButForSign() {
			wantNoSign(t, h, key)
			h.Sign = -1
			wantNoSign(t, h, key)
		}
	}
}

// H1: what Sign told is right with its key, and ErrSign with another key, Size, Root, Time or Sign.
func TestVerifyOfAnother(t *testing.T) {
	r := rand.New(rand.NewSource(1))
	for range 3000 {
		key := 1 + r.Intn(1_000_000)
		signed, err := head.Sign(anyHead(r), key)
		if err != nil {
			t.Fatal(err)
		}
		wantVerify(t, signed, key)
		others := []api.Head{signed, signed, signed, signed, signed}
		others[0].Size = (signed.Size + 1 + r.Intn(200)) % 201
		others[1].Root = (signed.Root + 1 + r.Intn(api.Prime-1)) % api.Prime
		others[2].Time = (signed.Time + 1 + r.Intn(1_000_000)) % 1_000_001
		others[3].Sign = (signed.Sign + 1) % api.Prime
		others[4].Sign = (signed.Sign + api.Prime - 1) % api.Prime
		for _, h := range others {
			wantNoVerify(t, h, key, api.ErrSign)
		}
		wantNoVerify(t, signed, 1+key%1_000_000, api.ErrSign)
		wantNoVerify(t, signed, 1+(key+r.Intn(999_999))%1_000_000, api.ErrSign)
	}
}

// H1: a key that is none is told though the Sign is another one, or is the Sum of such a text.
func TestVerifyWrongKey(t *testing.T) {
	for _, h := range []api.Head{{}, {Size: 3, Root: 5, Time: 9, Sign: 11}} {
		for _, key := range badKeys {
			wantNoVerify(t, h, key, api.ErrRange)
			h.Sign = signByHand(h, key)
			wantNoVerify(t, h, key, api.ErrRange)
		}
	}
}

// H1: a head that is out of its bounds is told though it is signed just so.
func TestVerifySignedButBad(t *testing.T) {
	for _, h := range badButForSign() {
		for _, key := range goodKeys {
			h.Sign = signByHand(h, key)
			wantNoVerify(t, h, key, api.ErrRange)
		}
	}
}

// H1: a Sign that is the right one but for what is taken away modulo Prime is no sum.
func TestVerifySignBeyondPrime(t *testing.T) {
	for _, c := range known {
		for _, off := range []int{api.Prime, -api.Prime, 1 << 32} {
			h := c.of
			h.Sign = c.sign + off
			wantNoVerify(t, h, c.key, api.ErrRange)
		}
	}
}

// H1: Better both ways round: more entries, as many and a later Time, all the same, fewer and a later Time.
func TestBetterKnown(t *testing.T) {
	for _, c := range []struct {
		a, b       api.Head
		ab, ba     bool
		whatIsSaid string
	}{
		{api.Head{Size: 4, Time: 5}, api.Head{Size: 3, Time: 5}, true, false, "more entries"},
		{api.Head{Size: 4, Time: 9}, api.Head{Size: 3, Time: 5}, true, false, "more entries, later"},
		{api.Head{Size: 4, Time: 6}, api.Head{Size: 4, Time: 5}, true, false, "as many, later"},
		{api.Head{Size: 4, Time: 5}, api.Head{Size: 4, Time: 5}, false, false, "the same"},
		{api.Head{Size: 4, Time: 5, Root: 9, Sign: 9}, api.Head{Size: 4, Time: 5, Root: 1, Sign: 1}, false, false, "the same but for Root and Sign"},
		{api.Head{Size: 3, Time: 9}, api.Head{Size: 4, Time: 5}, false, true, "fewer, later"},
		{api.Head{Size: 10, Time: 5}, api.Head{Size: 9, Time: 5}, true, false, "more, not as texts"},
		{api.Head{Size: 4, Time: 10}, api.Head{Size: 4, Time: 9}, true, false, "later, not as texts"},
		{api.Head{}, api.Head{}, false, false, "none of both"},
		{api.Head{Size: 1}, api.Head{Time: 1_000_000}, true, false, "one entry against none at the last Time"},
		{api.Head{Size: 200}, api.Head{Size: 199, Time: 1_000_000}, true, false, "the most entries"},
		{api.Head{Size: 200, Time: 1_000_000}, api.Head{Size: 200, Time: 999_999}, true, false, "the last Time"},
	} {
		t.Run(c.whatIsSaid, func(t *testing.T) {
			wantBetter(t, c.a, c.b, c.ab)
			wantBetter(t, c.b, c.a, c.ba)
		})
	}
}

// H1: Better hangs on Size, then on Time, on nothing else, and of two heads at most one is better.
func TestBetterOfAny(t *testing.T) {
	r := rand.New(rand.NewSource(2))
	for range 20_000 {
		a, b := anyHead(r), anyHead(r)
		if r.Intn(2) == 0 {
			b.Size = a.Size
		}
		if r.Intn(3) == 0 {
			b.Time = a.Time
		}
		wantBetter(t, a, b, slices.Compare([]int{a.Size, a.Time}, []int{b.Size, b.Time}) > 0)
		wantBetter(t, b, a, slices.Compare([]int{b.Size, b.Time}, []int{a.Size, a.Time}) > 0)
	}
}

// H1: Better of two heads of which both are none; more entries or a later Time of one that is none count for nothing.
func TestBetterOfTwoBad(t *testing.T) {
	bad := badHeads()
	for _, a := range bad {
		for _, b := range bad {
			wantNoBetter(t, a, b)
		}
	}
}

// H2: Print and Parse, there and back, at each edge.
func TestPrintAndParseAtEdges(t *testing.T) {
	for _, h := range goodHeads() {
		wantPrint(t, h, printByHand(h))
		wantParse(t, printByHand(h), h)
	}
}

// H2: each Size and each Time that may be, there and back.
func TestEachSizeAndTimeThereAndBack(t *testing.T) {
	for time := 0; time <= 1_000_000; time++ {
		h := api.Head{Size: time % 201, Root: time * 2000, Time: time, Sign: api.Prime - 1 - time}
		text, err := head.Print(h)
		if err != nil || text != printByHand(h) {
			t.Fatalf("Print(%v) = %q, %v", h, text, err)
		}
		if back, err := head.Parse(text); err != nil || back != h {
			t.Fatalf("Parse(%q) = %v, %v", text, back, err)
		}
	}
}

// textOf puts words where those of a good text stand.
func textOf(at int, word string) string {
	words := []string{"12", "0000abcd", "345", "6789abc0"}
	words[at] = word
	return strings.Join(words, " ")
}

var (
	noNumbers = []string{
		"", "00", "01", "000", "012", "0000000001", "000000012", "1000000000", "9999999999", "12345678901234567890", "18446744073709551628",
		"+1", "-1", "-0", "+0", "+", "-", "1-", "1+", "a", "1a", "a1", "1a2", "c", "0x1", "0b1", "1e3", "1_0", "1,0", "1.0", ".", "\t1", "1\t", "1\n", "\n1", "1\r", "\x001", "1\x00",
		"/", ":", "1/", "1:", "\u0661", "\u00b2", "\xff", "12\u00a0", "NaN", strings.Repeat("1", 10), strings.Repeat("0", 9), strings.Repeat("9", 5000),
	}
	noSums = []string{
		"", "0", "0000000", "000000000", "000abcd", "00000abcd", "0000ABCD", "0000abcD", "ABCDEF01", "7FFFFFFE", "0000abcg", "g000abcd", "0000abc`", "0000abc/", "0000abc:", "0000abc@",
		"+000abcd", "-000abcd", "0x00abcd", "0000 bcd", "\t000abcd", "0000abc\n", "\x00000abcd", "0000abc\xff", "0000\u00e9bc", "000\u00e9bcd", "80000000f", "ffffffff0", "fffffffff", "FFFFFFFF", "FFFFFFFFF", strings.Repeat("a", 16), strings.Repeat("0", 5000),
	}
	sizesBeyond = []string{"201", "202", "256", "1000", "4294967", "999999999", "100000000"}
	timesBeyond = []string{"1000001", "1000002", "1048576", "9999999", "10000000", "999999999"}
	sumsBeyond  = []string{"7fffffff", "80000000", "80000001", "ffffffff", "fffffffe"}
)

// H2: Parse of a text of another form.
func TestParseSyntax(t *testing.T) {
	good := textOf(0, "12")
	wantParse(t, good, api.Head{Size: 12, Root: 0xabcd, Time: 345, Sign: 0x6789abc0})
	for _, text := range []string{
		"", " ", "  ", "   ", "    ", "12", "12 0000abcd", "12 0000abcd 345", "12 0000abcd 345 ", " 0000abcd 345 6789abc0",
		good + " 1", good + " 0000abcd", good + " " + good, good + "\n" + good, good + good,
		" " + good, good + " ", "\t" + good, good + "\t", good + "\n", "\n" + good, good + "\x00", "\x00" + good, good + "\r\n",
		"12  0000abcd 345 6789abc0", "12 0000abcd  345 6789abc0", "12 0000abcd 345  6789abc0", "  " + good, good + "  ",
		"12\t0000abcd\t345\t6789abc0", "12\n0000abcd\n345\n6789abc0", "12,0000abcd,345,6789abc0", "12:0000abcd:345:6789abc0", "12\u00a00000abcd\u00a0345\u00a06789abc0",
		"120000abcd3456789abc0", "{12 0000abcd 345 6789abc0}", "0000abcd 12 6789abc0 345", "12 345 0000abcd 6789abc0", "12 0000abcd 6789abc0 345",
		strings.Repeat(" ", 5000), strings.Repeat("1 ", 5000), strings.Repeat(good+" ", 500),
	} {
		wantNoParse(t, text, api.ErrSyntax)
	}
	for _, word := range noNumbers {
		wantNoParse(t, textOf(0, word), api.ErrSyntax)
		wantNoParse(t, textOf(2, word), api.ErrSyntax)
	}
	for _, word := range noSums {
		wantNoParse(t, textOf(1, word), api.ErrSyntax)
		wantNoParse(t, textOf(3, word), api.ErrSyntax)
	}
}

// beyond are words that are of their form and out of their bounds, by where they stand.
func beyond() [4][]string { return [4][]string{sizesBeyond, sumsBeyond, timesBeyond, sumsBeyond} }

// H2: Parse of a text of just that form with numbers out of their bounds; one or each of them.
func TestParseRange(t *testing.T) {
	for at, words := range beyond() {
		for _, word := range words {
			wantNoParse(t, textOf(at, word), api.ErrRange)
		}
	}
	wantNoParse(t, "201 7fffffff 1000001 7fffffff", api.ErrRange)
	wantNoParse(t, "999999999 ffffffff 999999999 ffffffff", api.ErrRange)
	wantParse(t, "200 7ffffffe 1000000 7ffffffe", api.Head{Size: 200, Root: api.Prime - 1, Time: 1_000_000, Sign: api.Prime - 1})
	wantParse(t, "0 00000000 0 00000000", api.Head{})
}

// H2: where one word is none and another one out of its bounds, the text is no head's, whichever comes first.
func TestParseSyntaxAheadOfRange(t *testing.T) {
	none := [4]string{"012", "000abcD0", "+5", "0abcdef"}
	for at, words := range beyond() {
		for _, word := range words {
			for other := range none {
				if other == at {
					continue
				}
				both := strings.Split(textOf(at, word), " ")
				both[other] = none[other]
				wantNoParse(t, strings.Join(both, " "), api.ErrSyntax)
				wantNoParse(t, textOf(at, word)+" ", api.ErrSyntax)
				wantNoParse(t, " "+textOf(at, word), api.ErrSyntax)
			}
		}
	}
	wantNoParse(t, "201 7fffffff 1000001", api.ErrSyntax)
	wantNoParse(t, "201 7fffffff 1000001 7fffffff 1", api.ErrSyntax)
}

// H2: each byte at each place of a text.
func TestParseWithEachByte(t *testing.T) {
	for _, good := range []string{textOf(0, "12"), "0 00000000 0 00000000", "200 7ffffffe 1000000 7ffffffe"} {
		for at := range len(good) {
			for b := range 256 {
				text := []byte(good)
				text[at] = byte(b)
				sameParse(t, string(text))
			}
		}
	}
}

// sameParse holds Parse against its reading by hand, and Print against Parse; it tells what Parse is to say.
func sameParse(t *testing.T, text string) api.Errno {
	t.Helper()
	want, errno := parseByHand(text)
	if errno != api.OK {
		wantNoParse(t, text, errno)
		return errno
	}
	wantParse(t, text, want)
	wantPrint(t, want, text)
	return api.OK
}

// damaged is a text with a byte changed, put in, or taken out; mostly by what stands in such texts.
func damaged(r *rand.Rand, text string) string {
	const usual = "0123456789abcdef 0f9 "
	one := string(usual[r.Intn(len(usual))])
	if r.Intn(10) == 0 {
		one = string([]byte{byte(r.Intn(256))})
	}
	at := r.Intn(len(text) + 1)
	behind := min(at+1, len(text))
	switch r.Intn(6) {
	case 0:
		return text[:at] + one + text[at:]
	case 1:
		return text[:at] + text[behind:]
	}
	return text[:at] + one + text[behind:]
}

// H2: of any text, Parse takes just those that Print writes.
func TestParseOfAnyText(t *testing.T) {
	r := rand.New(rand.NewSource(3))
	told := map[api.Errno]int{}
	for range 40_000 {
		text := printByHand(anyHead(r))
		for range r.Intn(4) {
			text = damaged(r, text)
		}
		told[sameParse(t, text)]++
	}
	for _, errno := range []api.Errno{api.OK, api.ErrSyntax, api.ErrRange} {
		if told[errno] < 1000 {
			t.Errorf("%d of 40000 texts are told %v: too few", told[errno], errno)
		}
	}
}

// H1, H2: what is signed, printed, parsed and verified is right still; the same call answers the same.
func TestSignedThereAndBack(t *testing.T) {
	r := rand.New(rand.NewSource(4))
	for range 2000 {
		h, key := anyHead(r), 1+r.Intn(1_000_000)
		signed, err := head.Sign(h, key)
		if err != nil {
			t.Fatal(err)
		}
		wantSign(t, h, key, signed.Sign)
		wantSign(t, signed, key, signed.Sign)
		wantPrint(t, signed, printByHand(signed))
		wantParse(t, printByHand(signed), signed)
		wantVerify(t, signed, key)
	}
}
