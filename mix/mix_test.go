package mix_test

import (
	"encoding/binary"
	"fmt"
	"math"
	"math/big"
	"math/rand"
	"strings"
	"testing"

	"witnessbox/api"
	"witnessbox/mix"
	"witnessbox/plain"
)

var goodSums = []int{0, 1, 15, 16, 255, 256, 65536, 1 << 24, 1 << 30, 0x01020304, api.Prime - 2, api.Prime - 1}

var badSums = []int{-1, -2, -api.Prime, math.MinInt, math.MinInt32, api.Prime, api.Prime + 1, math.MaxUint32, 1 << 32, math.MaxInt}

// wantError also asks that an Errno is told, never OK.
func wantError(t *testing.T, what string, err error, want api.Errno) {
	t.Helper()
	if err == nil || plain.Told(err) != want {
		t.Errorf("%s: error %v, want %v", what, err, want)
	}
}

// bigSum works the sum out as one polynomial, reduced once at the end.
func bigSum(b string) int {
	n := big.NewInt(5381)
	for i := range len(b) {
		n.Mul(n, big.NewInt(131))
		n.Add(n, big.NewInt(int64(b[i])+1))
	}
	return int(n.Mod(n, big.NewInt(api.Prime)).Int64())
}

func someTexts() []string {
	r := rand.New(rand.NewSource(1))
	var out []string
	for n := range 300 {
		b := make([]byte, n)
		r.Read(b)
		out = append(out, string(b))
	}
	return out
}

func allBytes() string {
	b := make([]byte, 256)
	for i := range b {
		b[i] = byte(i)
	}
	return string(b)
}

// M1: Sum and Leaf of texts whose sums were worked out by hand or by another program.
func TestSumAndLeafKnown(t *testing.T) {
	for _, c := range []struct {
		text      string
		sum, leaf int
	}{
		{"", 5381, 704912},
		{"\x00", 704912, 92343473},
		{"\xff", 705167, 92343728},
		{"a", 705009, 92343570},
		{"abc", 1361254283, 2012570000},
		{"hello", 78567410, 1802687859},
		{"\u00e9", 92369187, 1359602443},
		{"\x00\x00", 92343473, 1359576729},
		{"The quick brown fox", 1674306378, 781413722},
		{allBytes(), 1871704356, 619521322},
	} {
		if got := mix.Sum(c.text); got != c.sum {
			t.Errorf("Sum(%q) = %d, want %d", c.text, got, c.sum)
		}
		if got := mix.Leaf(c.text); got != c.leaf {
			t.Errorf("Leaf(%q) = %d, want %d", c.text, got, c.leaf)
		}
	}
}

// M1: sums at both ends of what may be, where a wrong modulo would be seen.
func TestSumAtTheEdges(t *testing.T) {
	for text, want := range map[string]int{
		"\x02762>": api.Prime - 1,
		"\x02762?": 0,
		"\x02762@": 1,
	} {
		if got := mix.Sum(text); got != want {
			t.Errorf("Sum(%q) = %d, want %d", text, got, want)
		}
	}
}

// M1: Sum and Leaf of bytes of all kinds and lengths.
func TestSumAndLeafOfAnyBytes(t *testing.T) {
	texts := append(someTexts(), strings.Repeat("\xff", 5000), strings.Repeat("\x00", 5000))
	for _, text := range texts {
		if got, want := mix.Sum(text), bigSum(text); got != want {
			t.Errorf("Sum of %d bytes = %d, want %d", len(text), got, want)
		}
		if got, want := mix.Leaf(text), bigSum("\x00"+text); got != want {
			t.Errorf("Leaf of %d bytes = %d, want %d", len(text), got, want)
		}
	}
}

// M1: NodeBytes and Node of sums whose answers were worked out by another program.
func TestNodeKnown(t *testing.T) {
	for _, c := range []struct {
		a, b  int
		bytes string
		node  int
	}{
		{0, 0, "\x01\x00\x00\x00\x00\x00\x00\x00\x00", 761568778},
		{0, api.Prime - 1, "\x01\x00\x00\x00\x00\x7f\xff\xff\xfe", 1051486049},
		{api.Prime - 1, 0, "\x01\x7f\xff\xff\xfe\x00\x00\x00\x00", 1552471807},
		{api.Prime - 1, api.Prime - 1, "\x01\x7f\xff\xff\xfe\x7f\xff\xff\xfe", 1842389078},
		{1, 2, "\x01\x00\x00\x00\x01\x00\x00\x00\x02", 1056068701},
		{2, 1, "\x01\x00\x00\x00\x02\x00\x00\x00\x01", 1350568621},
		{0x01020304, 0x7f80ff00, "\x01\x01\x02\x03\x04\x7f\x80\xff\x00", 1478401832},
	} {
		b, err := mix.NodeBytes(c.a, c.b)
		if err != nil || b != c.bytes {
			t.Errorf("NodeBytes(%d, %d) = %q, %v, want %q", c.a, c.b, b, err, c.bytes)
		}
		n, err := mix.Node(c.a, c.b)
		if err != nil || n != c.node {
			t.Errorf("Node(%d, %d) = %d, %v, want %d", c.a, c.b, n, err, c.node)
		}
	}
}

// M1: NodeBytes and Node of all pairs of sums at edges.
func TestNodeOfGoodSums(t *testing.T) {
	for _, a := range goodSums {
		for _, b := range goodSums {
			want := []byte{1}
			want = binary.BigEndian.AppendUint32(want, uint32(a))
			want = binary.BigEndian.AppendUint32(want, uint32(b))
			text, err := mix.NodeBytes(a, b)
			if err != nil || text != string(want) {
				t.Errorf("NodeBytes(%d, %d) = %q, %v, want %q", a, b, text, err, want)
			}
			n, err := mix.Node(a, b)
			if err != nil || n != bigSum(string(want)) {
				t.Errorf("Node(%d, %d) = %d, %v, want %d", a, b, n, err, bigSum(string(want)))
			}
		}
	}
}

// M1: ErrRange of NodeBytes and Node, whichever of both is wrong, and nothing beside it.
func TestNodeOfBadSums(t *testing.T) {
	for _, bad := range badSums {
		for _, other := range append(append([]int{}, goodSums...), badSums...) {
			for _, c := range [][2]int{{bad, other}, {other, bad}} {
				what := fmt.Sprint("node of ", c)
				text, err := mix.NodeBytes(c[0], c[1])
				wantError(t, what, err, api.ErrRange)
				if text != "" {
					t.Errorf("NodeBytes%v = %q beside an error", c, text)
				}
				n, err := mix.Node(c[0], c[1])
				wantError(t, what, err, api.ErrRange)
				if n != 0 {
					t.Errorf("Node%v = %d beside an error", c, n)
				}
			}
		}
	}
}

// M2: Print and Parse of texts that are known.
func TestPrintAndParseKnown(t *testing.T) {
	for text, n := range map[string]int{
		"00000000": 0,
		"00000001": 1,
		"0000000f": 15,
		"00000010": 16,
		"01234567": 0x01234567,
		"09abcdef": 0x09abcdef,
		"7ffffffd": api.Prime - 2,
		"7ffffffe": api.Prime - 1,
	} {
		if got, err := mix.Print(n); err != nil || got != text {
			t.Errorf("Print(%d) = %q, %v, want %q", n, got, err, text)
		}
		if got, err := mix.Parse(text); err != nil || got != n {
			t.Errorf("Parse(%q) = %d, %v, want %d", text, got, err, n)
		}
	}
}

// M2: what is printed is read as it was.
func TestPrintThenParse(t *testing.T) {
	r := rand.New(rand.NewSource(2))
	sums := append([]int{}, goodSums...)
	for range 2000 {
		sums = append(sums, r.Intn(api.Prime))
	}
	for _, n := range sums {
		text, err := mix.Print(n)
		if err != nil || text != fmt.Sprintf("%08x", n) {
			t.Errorf("Print(%d) = %q, %v", n, text, err)
		}
		if back, err := mix.Parse(text); err != nil || back != n {
			t.Errorf("Parse(%q) = %d, %v, want %d", text, back, err, n)
		}
	}
}

// M2: ErrRange of Print.
func TestPrintOfBadSums(t *testing.T) {
	for _, n := range badSums {
		text, err := mix.Print(n)
		wantError(t, fmt.Sprint("Print of ", n), err, api.ErrRange)
		if text != "" {
			t.Errorf("Print(%d) = %q beside an error", n, text)
		}
	}
}

func wantParseError(t *testing.T, text string, want api.Errno) {
	t.Helper()
	n, err := mix.Parse(text)
	wantError(t, fmt.Sprintf("Parse of %q", text), err, want)
	if n != 0 {
		t.Errorf("Parse(%q) = %d beside an error", text, n)
	}
}

// M2: eight digits whose number is no sum are out of range, not ill formed.
func TestParseOfTooGreat(t *testing.T) {
	for _, text := range []string{"7fffffff", "80000000", "80000001", "ffffffff", "fffffffe", "89abcdef"} {
		wantParseError(t, text, api.ErrRange)
	}
}

// M2: another length is ill formed, whatever its number would be.
func TestParseOfAnotherLength(t *testing.T) {
	for n := range 40 {
		if n == 8 {
			continue
		}
		wantParseError(t, strings.Repeat("0", n), api.ErrSyntax)
		if n > 0 {
			wantParseError(t, strings.Repeat("f", n), api.ErrSyntax)
		}
	}
	wantParseError(t, strings.Repeat("0", 1<<20), api.ErrSyntax)
}

// M2: at each place each byte but the sixteen digits is ill formed, also where the others are too great.
func TestParseOfEachByte(t *testing.T) {
	for _, base := range []string{"00000000", "7ffffffe", "ffffffff"} {
		for place := range len(base) {
			for c := range 256 {
				if strings.IndexByte("0123456789abcdef", byte(c)) >= 0 {
					continue
				}
				text := []byte(base)
				text[place] = byte(c)
				wantParseError(t, string(text), api.ErrSyntax)
			}
		}
	}
}

// M2: forms of numbers that other readers would take.
func TestParseOfOtherForms(t *testing.T) {
	for _, text := range []string{
		"+0000001", "-0000001", "0x000001", "0X000001", "0o000001", "1_000000", " 0000001", "0000001 ",
		"0000001\n", "000000\n1", "0000000A", "0ABCDEF0", "0000000g", "0000000G", "0000001h", "1.000000", "00000e+1",
		"\uff10\uff11\uff12\uff13\uff14\uff15\uff16\uff17", "\u0661\u0661\u0661\u0661", "000000\xff\xff",
	} {
		wantParseError(t, text, api.ErrSyntax)
	}
}

// M1: what other layers lean on: the bytes that a Leaf is the Sum of, and which numbers may be sums.
func TestLeafBytesAndIsSum(t *testing.T) {
	for _, text := range someTexts() {
		if got := mix.LeafBytes(text); got != "\x00"+text || mix.Sum(got) != mix.Leaf(text) {
			t.Errorf("LeafBytes(%q) = %q", text, got)
		}
	}
	for _, n := range goodSums {
		if !mix.IsSum(n) {
			t.Errorf("%d is told as no sum", n)
		}
	}
	for _, n := range badSums {
		if mix.IsSum(n) {
			t.Errorf("%d is told as a sum", n)
		}
	}
}
