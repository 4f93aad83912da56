package keys_test

import (
	"fmt"
	"math"
	"math/rand"
	"slices"
	"strconv"
	"strings"
	"testing"

	"witnessbox/api"
	"witnessbox/keys"
	"witnessbox/mix"
	"witnessbox/plain"
)

const (
	levels  = 8
	places  = 256
	most    = 60
	maxText = 200
	prime   = 2_147_483_647
	noPair  = 961_191_465 // the root of no pair
)

type pairs = []api.Pair

var (
	noSums  = []int{-1, -2, prime, prime + 1, 1 << 31, 1 << 32, 1<<32 + 5, -prime, math.MinInt32, math.MinInt, math.MaxInt}
	tooLong = []int{201, 202, 255, 256, 257, 400, 456, 1 << 16}
	tooMany = []int{61, 62, 120, 255, 256, 257, 316, 1 << 16}
)

func pair(key, value string) api.Pair { return api.Pair{Key: key, Value: value} }

func gone(key string) api.Pair { return api.Pair{Key: key, Gone: true} }

func long(n int) string { return strings.Repeat("z", n) }

func isSum(n int) bool { return 0 <= n && n < prime }

// placeByHand is where a key stands, from 0 to 255.
func placeByHand(key string) int { return mix.Sum(key) % places }

// bitsByHand is K1's Bits of a key that is one.
func bitsByHand(key string) string { return fmt.Sprintf("%08b", placeByHand(key)) }

// leafByHand is chapter 1's Leaf.
func leafByHand(data string) int { return mix.Sum("\x00" + data) }

// nodeByHand is chapter 1's Node.
func nodeByHand(a, b int) int {
	bytes := []byte{1}
	for _, n := range []int{a, b} {
		bytes = append(bytes, byte(n>>24), byte(n>>16), byte(n>>8), byte(n))
	}
	return mix.Sum(string(bytes))
}

// grown has all rows of a tree: that of the 256 places first, that of the root alone last.
type grown [][]int

func grow(l pairs) grown {
	row := make([]int, places)
	for i := range row {
		row[i] = leafByHand("")
	}
	for _, p := range l {
		row[placeByHand(p.Key)] = leafByHand(p.Key + "\x00" + p.Value)
	}
	all := grown{row}
	for len(row) > 1 {
		var above []int
		for i := 0; i < len(row); i += 2 {
			above = append(above, nodeByHand(row[i], row[i+1]))
		}
		row = above
		all = append(all, row)
	}
	return all
}

func (g grown) root() int { return g[levels][0] }

func (g grown) proof(key string) (proof []int) {
	at := placeByHand(key)
	for _, row := range g[:levels] {
		beside := at + 1
		if at%2 == 1 {
			beside = at - 1
		}
		proof = append(proof, row[beside])
		at /= 2
	}
	return proof
}

func keyRefused(key string) api.Errno {
	if key == "" {
		return api.ErrSyntax
	}
	if len(key) > maxText {
		return api.ErrFull
	}
	return api.OK
}

// pairRefused is what is wrong with the pair behind others that are right.
func pairRefused(ahead pairs, p api.Pair) api.Errno {
	if wrong := keyRefused(p.Key); wrong != api.OK {
		return wrong
	}
	if len(p.Value) > maxText {
		return api.ErrFull
	}
	if p.Gone {
		return api.ErrShape
	}
	for _, other := range ahead {
		if other.Key >= p.Key || bitsByHand(other.Key) == bitsByHand(p.Key) {
			return api.ErrClash
		}
	}
	return api.OK
}

func refusedByHand(l pairs) api.Errno {
	if len(l) > most {
		return api.ErrFull
	}
	for i, p := range l {
		if wrong := pairRefused(l[:i], p); wrong != api.OK {
			return wrong
		}
	}
	return api.OK
}

// checkByHand is K2's Check, word for word.
func checkByHand(root int, key, value string, there bool, proof []int) api.Errno {
	if !isSum(root) {
		return api.ErrRange
	}
	if wrong := keyRefused(key); wrong != api.OK {
		return wrong
	}
	if len(value) > maxText {
		return api.ErrFull
	}
	if len(proof) != levels {
		return api.ErrShape
	}
	if !there && value != "" {
		return api.ErrShape
	}
	for _, n := range proof {
		if !isSum(n) {
			return api.ErrRange
		}
	}
	at, sum := placeByHand(key), leafByHand("")
	if there {
		sum = leafByHand(key + "\x00" + value)
	}
	for _, n := range proof {
		if at%2 == 0 {
			sum = nodeByHand(sum, n)
		} else {
			sum = nodeByHand(n, sum)
		}
		at /= 2
	}
	if sum != root {
		return api.ErrProof
	}
	return api.OK
}

// at tells ten keys of each place, rising by length and then by sign.
var at = func() (l [places][]string) {
	for n, full := 0, 0; full < places; n++ {
		key := "k" + strconv.Itoa(n)
		place := placeByHand(key)
		if len(l[place]) == 10 {
			continue
		}
		l[place] = append(l[place], key)
		if len(l[place]) == 10 {
			full++
		}
	}
	return l
}()

// strewn has so many pairs, no two of one place, as they come, their values by a number from 0 on.
func strewn(n int, value func(i int) string) (l pairs) {
	used := map[int]bool{}
	for i := 0; len(l) < n; i++ {
		key := "k" + strconv.Itoa(i)
		if place := placeByHand(key); !used[place] {
			used[place] = true
			l = append(l, pair(key, value(i)))
		}
	}
	return byKey(l)
}

func byKey(l pairs) pairs {
	slices.SortFunc(l, func(a, b api.Pair) int { return strings.Compare(a.Key, b.Key) })
	return l
}

func mixedValue(i int) string { return []string{"", strconv.Itoa(i), strings.Repeat("v", 200)}[i%3] }

func noValue(int) string { return "" }

func greatValue(int) string { return strings.Repeat("\xff", maxText) }

func numbered(i int) string { return strconv.Itoa(i) }

func mixed(n int) pairs { return strewn(n, mixedValue) }

// chance is a list that is right: so many pairs at most, in places of chance, of bytes of chance.
func chance(r *rand.Rand, n int) (l pairs) {
	used := map[string]bool{}
	for range n {
		p := pair(bytesOf(r, 1+r.Intn(4)), bytesOf(r, r.Intn(4)))
		if r.Intn(10) == 0 {
			p = pair(bytesOf(r, maxText), bytesOf(r, maxText))
		}
		if bits := bitsByHand(p.Key); !used[bits] {
			used[bits] = true
			l = append(l, p)
		}
	}
	return byKey(l)
}

func bytesOf(r *rand.Rand, n int) string {
	b := make([]byte, n)
	for i := range b {
		b[i] = byte(r.Intn(256))
	}
	return string(b)
}

// tells whether an error is this one, and none if it is OK.
func tells(err error, errno api.Errno) bool {
	return (err == nil) == (errno == api.OK) && plain.Told(err) == errno
}

// few tells a list in a line.
func few(l pairs) string {
	var out strings.Builder
	for i, p := range l {
		if i == 8 {
			fmt.Fprintf(&out, "... %d in all", len(l))
			break
		}
		fmt.Fprintf(&out, "%.20q(%d)=%.20q(%d) %v; ", p.Key, len(p.Key), p.Value, len(p.Value), p.Gone)
	}
	return out.String()
}

func wantBits(t *testing.T, key string, bits string, errno api.Errno) {
	t.Helper()
	if got, err := keys.Bits(key); got != bits || !tells(err, errno) {
		t.Errorf("Bits of %.20q(%d): got %q %v, want %q %v", key, len(key), got, err, bits, errno)
	}
}

func wantRoot(t *testing.T, l pairs, root int, errno api.Errno) {
	t.Helper()
	before := slices.Clone(l)
	if got, err := keys.Root(l); got != root || !tells(err, errno) {
		t.Errorf("Root of %s: got %d %v, want %d %v", few(before), got, err, root, errno)
	}
	if !slices.Equal(l, before) {
		t.Errorf("Root of %s: the list became %s", few(before), few(l))
	}
}

func wantProof(t *testing.T, l pairs, key string, proof []int, errno api.Errno) {
	t.Helper()
	before := slices.Clone(l)
	got, err := keys.Prove(l, key)
	if !slices.Equal(got, proof) || !tells(err, errno) || errno != api.OK && got != nil {
		t.Errorf("Prove of %.20q(%d) in %s: got %v %v, want %v %v", key, len(key), few(before), got, err, proof, errno)
	}
	if !slices.Equal(l, before) {
		t.Errorf("Prove of %.20q in %s: the list became %s", key, few(before), few(l))
	}
}

func wantCheck(t *testing.T, root int, key, value string, there bool, proof []int, errno api.Errno) {
	t.Helper()
	before := slices.Clone(proof)
	if err := keys.Check(root, key, value, there, proof); !tells(err, errno) {
		t.Errorf("Check of %d, %.20q(%d), %.20q(%d), %v, %v: got %v, want %v", root, key, len(key), value, len(value), there, before, err, errno)
	}
	if !slices.Equal(proof, before) {
		t.Errorf("Check of %d, %.20q, %v: the proof became %v", root, key, before, proof)
	}
}

// wantRefused holds both that read a list to what is wrong with it.
func wantRefused(t *testing.T, l pairs, errno api.Errno) {
	t.Helper()
	wantRoot(t, l, 0, errno)
	for _, key := range []string{"a", "", long(201)} {
		wantProof(t, l, key, nil, errno)
	}
}

// wantAll holds all that is told of a list to the reckoning: its root, and of each of its keys, and of others, the proof, and what that proves.
func wantAll(t *testing.T, l pairs, others ...string) {
	t.Helper()
	g := grow(l)
	root := g.root()
	wantRoot(t, l, root, api.OK)
	used := map[string]bool{}
	for _, p := range l {
		used[bitsByHand(p.Key)] = true
		proof := g.proof(p.Key)
		wantProof(t, l, p.Key, proof, api.OK)
		wantCheck(t, root, p.Key, p.Value, true, proof, api.OK)
		wantCheck(t, root, p.Key, "", false, proof, api.ErrProof)
		wantCheck(t, root, p.Key, "another", true, proof, api.ErrProof)
	}
	for _, key := range others {
		proof, absent := g.proof(key), api.OK
		if used[bitsByHand(key)] {
			absent = api.ErrProof
		}
		wantProof(t, l, key, proof, api.OK)
		wantCheck(t, root, key, "", false, proof, absent)
		wantCheck(t, root, key, "", true, proof, api.ErrProof)
		wantCheck(t, root, key, "1", true, proof, api.ErrProof)
	}
}

// K1: eight signs, the high bit first; these were worked out by another program.
func TestBitsKnown(t *testing.T) {
	count := make([]byte, 256)
	for i := range count {
		count[i] = byte(i)
	}
	for key, bits := range map[string]string{
		"a":                         "11110001",
		"b":                         "11110010",
		"z":                         "00001010",
		"\x00":                      "10010000",
		"\xff":                      "10001111",
		" ":                         "10110000",
		"ab":                        "10110110",
		"ba":                        "00111000",
		"zz":                        "10011001",
		"a\x00":                     "01010100",
		"k0":                        "10100010",
		"k20":                       "00100010",
		"k144":                      "11110001",
		strings.Repeat("a", 199):    "11000111",
		strings.Repeat("z", 200):    "11110000",
		strings.Repeat("\xff", 200): "10010101",
		strings.Repeat("\x00", 200): "01100101",
		string(count[:200]):         "11100100",
		string(count[56:]):          "11011000",
	} {
		wantBits(t, key, bits, api.OK)
	}
}

// K1: keys of one byte and of two are of all bytes, and any may stand in a key.
func TestBitsOfFewBytes(t *testing.T) {
	seen := map[string]bool{}
	for a := range 256 {
		key := string([]byte{byte(a)})
		wantBits(t, key, bitsByHand(key), api.OK)
		for b := range 256 {
			two := key + string([]byte{byte(b)})
			wantBits(t, two, bitsByHand(two), api.OK)
			seen[bitsByHand(two)] = true
		}
	}
	if len(seen) != places {
		t.Errorf("the keys have %d places, want %d", len(seen), places)
	}
}

// K1: a key of up to 200 is one, of whatever bytes.
func TestBitsByLength(t *testing.T) {
	r := rand.New(rand.NewSource(171))
	for n := 1; n <= maxText; n++ {
		for _, key := range []string{long(n), strings.Repeat("\x00", n), strings.Repeat("\xff", n), strings.Repeat("é", n)[:n], bytesOf(r, n)} {
			wantBits(t, key, bitsByHand(key), api.OK)
		}
	}
}

// K1: one that is empty is none, and one that is longer than 200 bytes is not taken.
func TestBitsRefused(t *testing.T) {
	wantBits(t, "", "", api.ErrSyntax)
	for _, n := range tooLong {
		wantBits(t, long(n), "", api.ErrFull)
		wantBits(t, strings.Repeat("\x00", n), "", api.ErrFull)
	}
	wantBits(t, strings.Repeat("é", 100), bitsByHand(strings.Repeat("é", 100)), api.OK)
	wantBits(t, strings.Repeat("é", 101), "", api.ErrFull)
}

// K1, K2: roots and proofs that were worked out by another program.
func TestKnown(t *testing.T) {
	for _, c := range []struct {
		l     pairs
		key   string
		root  int
		proof [levels]int
	}{
		{nil, "a", 961191465, [levels]int{704912, 987074305, 748147992, 964243682, 1546957675, 202232256, 1985891924, 113653422}},
		{pairs{pair("a", "")}, "a", 960983494, [levels]int{704912, 987074305, 748147992, 964243682, 1546957675, 202232256, 1985891924, 113653422}},
		{pairs{pair("a", "1")}, "a", 961094562, [levels]int{704912, 987074305, 748147992, 964243682, 1546957675, 202232256, 1985891924, 113653422}},
		{pairs{pair("a", "1")}, "k144", 961094562, [levels]int{704912, 987074305, 748147992, 964243682, 1546957675, 202232256, 1985891924, 113653422}},
		{pairs{pair("a", "1")}, "z", 961094562, [levels]int{704912, 987074305, 748147992, 964243682, 1546957675, 202232256, 1985891924, 113272019}},
		{pairs{pair("a", "1"), pair("b", "2")}, "b", 960903515, [levels]int{704912, 1258610755, 748147992, 964243682, 1546957675, 202232256, 1985891924, 113653422}},
		{pairs{pair("a", "1"), pair("k20", "2")}, "a", 287739050, [levels]int{704912, 987074305, 748147992, 964243682, 1546957675, 202232256, 1985891924, 66263455}},
		{pairs{pair("a", "1"), pair("k20", "2")}, "k20", 287739050, [levels]int{704912, 987074305, 748147992, 964243682, 1546957675, 202232256, 1985891924, 113272019}},
		{pairs{pair("a", "1"), pair("k165", "2")}, "a", 961044864, [levels]int{704912, 987074305, 748147992, 892938734, 1546957675, 202232256, 1985891924, 113653422}},
		{pairs{pair("a", "1"), pair("k165", "2")}, "k165", 961044864, [levels]int{704912, 987074305, 748147992, 169500595, 1546957675, 202232256, 1985891924, 113653422}},
		{pairs{pair("a", "1"), pair("k129", "2")}, "a", 960867436, [levels]int{1437854679, 987074305, 748147992, 964243682, 1546957675, 202232256, 1985891924, 113653422}},
		{pairs{pair("a", "1"), pair("k129", "2")}, "k129", 960867436, [levels]int{2012557112, 987074305, 748147992, 964243682, 1546957675, 202232256, 1985891924, 113653422}},
		{pairs{pair("\x00", "\x00"), pair("a\x00", "\xff"), pair("\xff", "a\x00b")}, "\xff", 912760927, [levels]int{704912, 987074305, 748147992, 964243682, 635925716, 202232256, 1985891924, 117636296}},
		{pairs{pair(strings.Repeat("a", 200), long(200)), pair(strings.Repeat("b", 200), ""), pair(strings.Repeat("\xff", 200), strings.Repeat("\x00", 200))}, strings.Repeat("b", 200), 1035702374, [levels]int{704912, 987074305, 748147992, 964243682, 1546957675, 202232256, 863469337, 2018800372}},
	} {
		wantRoot(t, c.l, c.root, api.OK)
		wantProof(t, c.l, c.key, c.proof[:], api.OK)
		holds, value := false, ""
		for _, p := range c.l {
			if p.Key == c.key {
				holds, value = true, p.Value
			}
		}
		absent := api.OK
		if holds || c.key == "k144" {
			absent = api.ErrProof
		}
		wantCheck(t, c.root, c.key, "", false, c.proof[:], absent)
		if holds {
			wantCheck(t, c.root, c.key, value, true, c.proof[:], api.OK)
		}
	}
}

// K1, K2: the same of 60 pairs, and of the first of them.
func TestKnownOfMost(t *testing.T) {
	l := mixed(most)
	wantRoot(t, l, 1016914758, api.OK)
	for n, root := range map[int]int{0: noPair, 1: 1111743536, 2: 1055890034, 3: 1051985561, 31: 632256222, 59: 929514606} {
		wantRoot(t, l[:n], root, api.OK)
	}
	for key, proof := range map[string][levels]int{
		"k0":  {1675292168, 1842979426, 60643369, 2094917909, 2014848257, 202375831, 1985891924, 1508251422},
		"k55": {1999661288, 2014829078, 743645979, 1880703835, 1611002802, 202375831, 1985891924, 1508251422},
		"k97": {704912, 1871372219, 793939791, 1940114719, 1611002802, 202375831, 1985891924, 1508251422},
		"a":   {704912, 987074305, 748147992, 964243682, 1546957675, 202232256, 1663886692, 1508251422},
	} {
		wantProof(t, l, key, proof[:], api.OK)
	}
}

// K1, K2: no pair is a list, too: each place has the Leaf of no data.
func TestOfNone(t *testing.T) {
	sum := mix.Leaf("")
	var proof []int
	for range levels {
		proof = append(proof, sum)
		sum, _ = mix.Node(sum, sum)
	}
	if sum != noPair {
		t.Errorf("the root of no pair: got %d, want %d", sum, noPair)
	}
	for _, l := range []pairs{nil, {}, make(pairs, 0, 5)} {
		wantRoot(t, l, sum, api.OK)
		for place := range places {
			key := at[place][0]
			wantProof(t, l, key, proof, api.OK)
			wantCheck(t, sum, key, "", false, proof, api.OK)
			wantCheck(t, sum, key, "", true, proof, api.ErrProof)
		}
	}
}

// K1, K2: one pair, in each of the places; of its place another key is not there, but that can't be proved.
func TestOfOne(t *testing.T) {
	for place := range places {
		key, other := at[place][0], at[place][1]
		for _, value := range []string{"", "1", long(200)} {
			wantAll(t, pairs{pair(key, value)}, other, at[place^1][0], at[place^128][0], at[(place+77)%places][0])
		}
	}
}

// K1: a place that one has is the Leaf of the key, a byte 0 and the value; in the node above it 0 is first.
func TestLeafAndNode(t *testing.T) {
	for _, p := range []api.Pair{pair("a", "1"), pair("a", ""), pair("a\x00", "1"), pair("a", "\x001"), pair("\x00", "\x00"), pair(long(200), long(200))} {
		leaf, free := mix.Leaf(p.Key+"\x00"+p.Value), mix.Leaf("")
		sum := leaf
		bits, err := keys.Bits(p.Key)
		if err != nil {
			t.Fatalf("Bits of %q: %v", p.Key, err)
		}
		var proof []int
		for i := levels - 1; i >= 0; i-- {
			proof = append(proof, free)
			if bits[i] == '0' {
				sum, _ = mix.Node(sum, free)
			} else {
				sum, _ = mix.Node(free, sum)
			}
			free, _ = mix.Node(free, free)
		}
		wantRoot(t, pairs{p}, sum, api.OK)
		wantProof(t, pairs{p}, p.Key, proof, api.OK)
		wantCheck(t, sum, p.Key, p.Value, true, proof, api.OK)
	}
}

// K1, K2: two pairs whose places part at each of the bits, the first and the last, too.
func TestOfTwo(t *testing.T) {
	for bit := range levels {
		for place := range places {
			other := place ^ 128>>bit
			l := byKey(pairs{pair(at[place][0], "1"), pair(at[other][0], "")})
			if first, second := bitsByHand(l[0].Key), bitsByHand(l[1].Key); first[:bit] != second[:bit] || first[bit] == second[bit] {
				t.Fatalf("%q and %q do not part at %d", first, second, bit)
			}
			wantAll(t, l, at[place][1], at[other][2], at[place^255][0])
		}
	}
}

// K1, K2: of each size up to 60, with values of each length.
func TestOfEachSize(t *testing.T) {
	for n := range most + 1 {
		for _, value := range []func(int) string{noValue, greatValue, numbered, mixedValue} {
			l := strewn(n, value)
			wantAll(t, l, "a", "z", "\x00", long(200), at[0][3], at[255][3], at[n][4])
		}
	}
}

// K2: of 60 pairs a key of each place, there or not.
func TestOfEachPlace(t *testing.T) {
	var others []string
	for place := range places {
		others = append(others, at[place][len(at[place])-1])
	}
	l := mixed(most)
	for _, p := range l {
		if slices.Contains(others, p.Key) {
			t.Fatalf("%q is there", p.Key)
		}
	}
	wantAll(t, l, others...)
	wantAll(t, l[:most/2], others...)
}

// K1, K2: places that lie close together, so that one side of the tree has all pairs.
func TestOfOneSide(t *testing.T) {
	for _, from := range []int{0, 64, 128, 196} {
		var l pairs
		for i := range most {
			l = append(l, pair(at[from+i][0], strconv.Itoa(i)))
		}
		wantAll(t, byKey(l), at[0][1], at[127][1], at[128][1], at[255][1], at[from][1])
	}
}

// K1: 60 pairs are taken; of 61 or more nothing else is looked at.
func TestMostPairs(t *testing.T) {
	wantAll(t, mixed(most))
	for _, n := range tooMany {
		if n <= places/2 {
			wantRefused(t, mixed(n), api.ErrFull)
		}
		for _, p := range []api.Pair{{}, pair("a", "1"), gone("a"), {Gone: true}, pair(long(201), long(201))} {
			wantRefused(t, slices.Repeat(pairs{p}, n), api.ErrFull)
		}
	}
	for _, p := range []api.Pair{{}, gone("a"), pair("a", "1")} {
		wantRefused(t, append(pairs{p}, mixed(most)...), api.ErrFull)
		wantRefused(t, append(mixed(most), p), api.ErrFull)
	}
}

// K1: each way in which one pair is wrong, and of several ways the first.
func TestPairRefused(t *testing.T) {
	for _, c := range []struct {
		p     api.Pair
		errno api.Errno
	}{
		{pair("", ""), api.ErrSyntax},
		{pair("", "1"), api.ErrSyntax},
		{pair("", long(201)), api.ErrSyntax},
		{gone(""), api.ErrSyntax},
		{api.Pair{Value: long(201), Gone: true}, api.ErrSyntax},
		{pair(long(201), ""), api.ErrFull},
		{pair(long(201), long(201)), api.ErrFull},
		{gone(long(201)), api.ErrFull},
		{pair(long(456), ""), api.ErrFull},
		{pair("z", long(201)), api.ErrFull},
		{pair("z", long(256)), api.ErrFull},
		{pair("z", long(456)), api.ErrFull},
		{pair(long(200), long(201)), api.ErrFull},
		{api.Pair{Key: "z", Value: long(201), Gone: true}, api.ErrFull},
		{gone("z"), api.ErrShape},
		{api.Pair{Key: "z", Value: "1", Gone: true}, api.ErrShape},
		{api.Pair{Key: long(200), Value: long(200), Gone: true}, api.ErrShape},
	} {
		wantRefused(t, pairs{c.p}, c.errno)
		wantRefused(t, pairs{c.p, c.p}, c.errno)
		wantRefused(t, pairs{pair("a", "1"), c.p}, c.errno)
		wantRefused(t, pairs{pair("\xff", "1"), c.p}, c.errno)
	}
	wantAll(t, pairs{pair("a", long(200))})
	wantAll(t, pairs{pair(long(200), long(200))})
}

// K1: a key that is there already, one below one ahead, and one of the same Bits clash, next to each other or not.
func TestClash(t *testing.T) {
	for _, l := range []pairs{
		{pair("a", "1"), pair("a", "1")},
		{pair("a", "1"), pair("a", "2")},
		{pair("b", ""), pair("a", "")},
		{pair("a\x00", ""), pair("a", "")},
		{pair("ab", ""), pair("a", "")},
		{pair("\xff", ""), pair("a", "")},
		{pair("k9", ""), pair("k10", "")},
		{pair("a", "1"), pair("k144", "2")},
		{pair("k144", "1"), pair("a", "2")},
		{pair("a", "1"), pair("b", "2"), pair("a", "1")},
		{pair("a", "1"), pair("b", "2"), pair("k0", "3"), pair("k144", "4")},
		{pair("b", "1"), pair("c", "2"), pair("a", "3")},
		{pair("a", "1"), pair("c", "2"), pair("b", "3")},
	} {
		wantRefused(t, l, api.ErrClash)
	}
	l := mixed(most)
	slices.Reverse(l)
	wantRefused(t, l, api.ErrClash)
}

// K1: each two keys of one place clash, and each two of other places do not.
func TestClashOfEachPlace(t *testing.T) {
	for place := range places {
		for _, other := range []int{place, place ^ 1, place ^ 128, place ^ 255} {
			l := byKey(pairs{pair(at[place][0], "1"), pair(at[other][1], "2")})
			if other == place {
				wantRefused(t, l, api.ErrClash)
			} else {
				wantAll(t, l)
			}
		}
	}
}

// K1: one of the same Bits clashes with each one ahead, wherever either stands.
func TestClashFarApart(t *testing.T) {
	l := mixed(most - 1)
	for i, p := range l {
		keysThere := at[placeByHand(p.Key)]
		last := "z" // no key of the list is above it
		for n := 0; bitsByHand(last) != bitsByHand(p.Key); n++ {
			last = "z" + strconv.Itoa(n)
		}
		wantRefused(t, append(slices.Clone(l), pair(last, "")), api.ErrClash)
		wantRefused(t, slices.Concat(l[:i+1], pairs{pair(last, "")}), api.ErrClash)
		wantRefused(t, slices.Concat(l, pairs{p}), api.ErrClash)
		wantRefused(t, byKey(slices.Concat(l, pairs{pair(keysThere[len(keysThere)-1], "")})), api.ErrClash)
		wantRefused(t, slices.Insert(slices.Clone(l), i, p), api.ErrClash)
	}
}

// K1: keys rise byte by byte, not by length and not by sign.
func TestRising(t *testing.T) {
	wantAll(t, pairs{pair("\x00", ""), pair("\x00\x00", ""), pair("A", ""), pair("a", ""), pair("a\x00", ""), pair("ab", ""), pair("b", ""), pair("\x7f", ""), pair("\x80", ""), pair("\xff", ""), pair("\xff\x00", "")}, "zz")
	wantAll(t, pairs{pair("k10", ""), pair("k9", "")})
	wantRefused(t, pairs{pair("\xff", ""), pair("\x7f", "")}, api.ErrClash)
	wantRefused(t, pairs{pair("a\x00\x00", ""), pair("a\x00", "")}, api.ErrClash)
}

// K1: one by one: of several pairs that are wrong the first is told, whatever it is.
func TestFirstWrongPair(t *testing.T) {
	wrong := pairs{{}, {Gone: true, Value: long(201)}, pair(long(201), ""), pair("z", long(201)), {Key: "z", Value: long(201), Gone: true}, gone("z"), pair("", "1"), gone("\x00"), pair("\x00", long(201)), pair("\x00", "1")}
	for _, n := range []int{1, 2, 3, 30, 59} {
		l := mixed(n)
		for i := range n + 1 {
			for _, p := range wrong {
				bad := slices.Insert(slices.Clone(l), i, p)
				errno := refusedByHand(bad)
				if errno == api.OK {
					wantAll(t, bad)
					continue
				}
				wantRefused(t, bad, errno)
			}
		}
	}
	for _, first := range wrong {
		for _, second := range wrong {
			l := pairs{pair("a", "1"), first, second, pair("zz", "")}
			if errno := refusedByHand(l); errno != api.OK {
				wantRefused(t, l, errno)
			} else {
				wantAll(t, l)
			}
		}
	}
}

// K1: of one pair that is wrong in several ways the way that is named first is told.
func TestFirstWrongWay(t *testing.T) {
	ahead := pairs{pair("c", "1"), pair("k129", "2")}
	for _, key := range []string{"", "a", "b", "c", "k129", "k130", "zz", long(200), long(201), at[placeByHand("c")][1], "z" + at[placeByHand("k129")][1]} {
		for _, value := range []string{"", "1", long(200), long(201)} {
			for _, isGone := range []bool{false, true} {
				l := append(slices.Clone(ahead), api.Pair{Key: key, Value: value, Gone: isGone})
				if errno := refusedByHand(l); errno != api.OK {
					wantRefused(t, l, errno)
				} else {
					wantAll(t, l)
				}
			}
		}
	}
}

// K2: what is wrong with the list is told ahead of what is wrong with the key.
func TestProveRefused(t *testing.T) {
	for _, l := range []pairs{nil, {pair("a", "1")}, mixed(most)} {
		wantProof(t, l, "", nil, api.ErrSyntax)
		for _, n := range tooLong {
			wantProof(t, l, long(n), nil, api.ErrFull)
		}
		wantProof(t, l, long(200), grow(l).proof(long(200)), api.OK)
	}
	for _, c := range []struct {
		l     pairs
		errno api.Errno
	}{
		{pairs{{}}, api.ErrSyntax},
		{pairs{pair(long(201), "")}, api.ErrFull},
		{pairs{pair("a", long(201))}, api.ErrFull},
		{pairs{gone("a")}, api.ErrShape},
		{pairs{pair("b", ""), pair("a", "")}, api.ErrClash},
		{mixed(61), api.ErrFull},
	} {
		for _, key := range []string{"", long(201), "a", "b", long(200)} {
			wantProof(t, c.l, key, nil, c.errno)
		}
	}
}

// K2: a root that is no sum, ahead of all.
func TestCheckRoot(t *testing.T) {
	l := pairs{pair("a", "1")}
	proof := grow(l).proof("a")
	for _, root := range noSums {
		wantCheck(t, root, "a", "1", true, proof, api.ErrRange)
		wantCheck(t, root, "", "1", true, proof, api.ErrRange)
		wantCheck(t, root, long(201), long(201), false, nil, api.ErrRange)
		wantCheck(t, root, "a", "1", false, proof[:7], api.ErrRange)
	}
	for _, root := range []int{0, 1, 5, noPair, prime - 1} {
		wantCheck(t, root, "a", "1", true, proof, api.ErrProof)
		wantCheck(t, root, "", "1", true, proof, api.ErrSyntax)
	}
}

// K2: what is wrong with the key, then with the value, then with the form of the proof, then with a sum of it.
func TestCheckRefused(t *testing.T) {
	l := pairs{pair("a", "1"), pair("b", long(200))}
	g := grow(l)
	root, proof := g.root(), g.proof("a")
	bad := slices.Concat(proof[:3], []int{-1}, proof[4:])
	for _, c := range []struct {
		key, value string
		there      bool
		proof      []int
		errno      api.Errno
	}{
		{"", "1", true, proof, api.ErrSyntax},
		{"", "", false, proof, api.ErrSyntax},
		{"", long(201), false, nil, api.ErrSyntax},
		{"", "1", false, bad, api.ErrSyntax},
		{long(201), "1", true, proof, api.ErrFull},
		{long(456), "", false, proof, api.ErrFull},
		{long(201), "1", false, bad, api.ErrFull},
		{long(201), "1", true, proof[:7], api.ErrFull},
		{"a", long(201), true, proof, api.ErrFull},
		{"a", long(201), false, proof, api.ErrFull},
		{"a", long(201), true, nil, api.ErrFull},
		{"a", long(201), true, bad, api.ErrFull},
		{"a", long(256), true, proof, api.ErrFull},
		{"a", long(457), false, proof, api.ErrFull},
		{"a", "1", true, nil, api.ErrShape},
		{"a", "1", true, []int{}, api.ErrShape},
		{"a", "1", true, proof[:1], api.ErrShape},
		{"a", "1", true, proof[:7], api.ErrShape},
		{"a", "1", true, proof[1:], api.ErrShape},
		{"a", "1", true, bad[:7], api.ErrShape},
		{"a", "1", true, append(slices.Clone(proof), root), api.ErrShape},
		{"a", "1", true, append(slices.Clone(proof), -1), api.ErrShape},
		{"a", "1", true, slices.Repeat(proof, 2), api.ErrShape},
		{"a", "1", true, slices.Repeat(proof, 33), api.ErrShape},
		{"a", "1", false, proof, api.ErrShape},
		{"a", "x", false, proof, api.ErrShape},
		{"z", "\x00", false, g.proof("z"), api.ErrShape},
		{"z", long(200), false, g.proof("z"), api.ErrShape},
		{"a", "1", false, bad, api.ErrShape},
		{"a", "1", false, nil, api.ErrShape},
		{"a", "", false, nil, api.ErrShape},
		{"a", "", false, proof[:7], api.ErrShape},
		{"a", "1", true, bad, api.ErrRange},
		{"a", "", false, bad, api.ErrRange},
		{"a", "1", true, proof, api.OK},
		{"a", "", false, proof, api.ErrProof},
		{"b", long(200), true, g.proof("b"), api.OK},
		{"z", "", false, g.proof("z"), api.OK},
	} {
		wantCheck(t, root, c.key, c.value, c.there, c.proof, c.errno)
	}
	for n := range 20 {
		if n != levels {
			wantCheck(t, root, "a", "1", true, make([]int, n), api.ErrShape)
			wantCheck(t, noPair, "z", "", false, make([]int, n), api.ErrShape)
		}
	}
}

// K2: a sum that is none is told wherever it stands, and the least and the greatest sum are sums.
func TestCheckSums(t *testing.T) {
	l := mixed(most)
	g := grow(l)
	for i := range levels {
		for _, n := range noSums {
			proof := g.proof("k0")
			proof[i] = n
			wantCheck(t, g.root(), "k0", l[0].Value, true, proof, api.ErrRange)
			wantCheck(t, g.root(), "k0", "", false, proof, api.ErrRange)
			wantCheck(t, 5, "k0", "", true, proof, api.ErrRange)
		}
		for _, n := range []int{0, 1, 5, prime - 1} {
			proof := g.proof("k0")
			proof[i] = n
			wantCheck(t, g.root(), "k0", l[0].Value, true, proof, api.ErrProof)
		}
	}
	for _, n := range []int{0, 1, prime - 1} {
		proof := slices.Repeat([]int{n}, levels)
		for place := range places {
			key, sum := at[place][0], leafByHand(at[place][0]+"\x00v")
			for i := range levels {
				if place>>i%2 == 0 {
					sum = nodeByHand(sum, n)
				} else {
					sum = nodeByHand(n, sum)
				}
			}
			wantCheck(t, sum, key, "v", true, proof, api.OK)
		}
	}
}

// K2: a proof proves one value of one key under one root, and nothing else.
func TestCheckProof(t *testing.T) {
	l := mixed(most)
	g := grow(l)
	root := g.root()
	for i, p := range l {
		proof := g.proof(p.Key)
		wantCheck(t, root, p.Key, p.Value, true, proof, api.OK)
		for _, other := range []int{(root + 1) % prime, root - 1, grow(l[:i]).root(), 0, noPair, leafByHand("")} {
			wantCheck(t, other, p.Key, p.Value, true, proof, api.ErrProof)
		}
		for _, value := range []string{"another", p.Value[:len(p.Value)/2] + "x", "\x00" + p.Value[:min(len(p.Value), 199)]} {
			wantCheck(t, root, p.Key, value, true, proof, api.ErrProof)
		}
		for _, key := range []string{"a", l[(i+1)%most].Key, at[placeByHand(p.Key)][8], at[placeByHand(p.Key)^1][8], long(200)} {
			wantCheck(t, root, key, p.Value, true, proof, api.ErrProof)
		}
		wantCheck(t, root, p.Key, "", false, proof, api.ErrProof)
		for j := range levels {
			changed := slices.Clone(proof)
			changed[j] = (changed[j] + 1) % prime
			wantCheck(t, root, p.Key, p.Value, true, changed, api.ErrProof)
			for k := range j {
				changed = slices.Clone(proof)
				changed[j], changed[k] = changed[k], changed[j]
				wantCheck(t, root, p.Key, p.Value, true, changed, api.ErrProof)
			}
		}
		slices.Reverse(proof)
		wantCheck(t, root, p.Key, p.Value, true, proof, api.ErrProof)
	}
}

// K2: a proof that a key is not there proves that of its place alone, as long as no key has it.
func TestCheckNotThere(t *testing.T) {
	l := mixed(most)
	g := grow(l)
	root := g.root()
	used := map[int]bool{}
	for _, p := range l {
		used[placeByHand(p.Key)] = true
	}
	for place := range places {
		for _, key := range at[place][7:10] {
			proof, errno := g.proof(key), api.OK
			if used[place] {
				errno = api.ErrProof
			}
			wantCheck(t, root, key, "", false, proof, errno)
			wantCheck(t, root, key, "", true, proof, api.ErrProof)
			wantCheck(t, (root+1)%prime, key, "", false, proof, api.ErrProof)
			wantCheck(t, root, key, "1", false, proof, api.ErrShape)
			changed := slices.Clone(proof)
			changed[place%levels] = (changed[place%levels] + 1) % prime
			wantCheck(t, root, key, "", false, changed, api.ErrProof)
			wantCheck(t, root, at[(place+1)%places][0], "", false, proof, checkByHand(root, at[(place+1)%places][0], "", false, proof))
		}
	}
}

// K2: what is wrong in several ways at once is told by the first of them.
func TestCheckOrder(t *testing.T) {
	l := pairs{pair("a", "1"), pair("b", ""), pair("zz", long(200))}
	g := grow(l)
	right := g.proof("a")
	bad := slices.Concat(right[:7], []int{prime})
	seen := map[api.Errno]int{}
	for _, root := range []int{g.root(), 5, -1, prime} {
		for _, key := range []string{"", "a", "b", "z", "k144", "zz", long(200), long(201)} {
			for _, value := range []string{"", "1", long(200), long(201)} {
				for _, proof := range [][]int{nil, right, g.proof("b"), g.proof("z"), g.proof("zz"), bad, right[:7], bad[1:], append(slices.Clone(right), 5), append(slices.Clone(bad), -1), make([]int, 8), g.proof(long(200))} {
					for _, there := range []bool{false, true} {
						errno := checkByHand(root, key, value, there, proof)
						seen[errno]++
						wantCheck(t, root, key, value, there, proof, errno)
					}
				}
			}
		}
	}
	for _, errno := range []api.Errno{api.OK, api.ErrRange, api.ErrSyntax, api.ErrFull, api.ErrShape, api.ErrProof} {
		if seen[errno] == 0 {
			t.Errorf("none of the checks is told %v", errno)
		}
	}
}

// K1, K2: what lies behind the length of a list that is handed in is neither read nor written.
func TestBehindTheLength(t *testing.T) {
	whole := append(mixed(most), api.Pair{Gone: true}, pair("a", "1"))
	before := slices.Clone(whole)
	for _, n := range []int{0, 1, 2, 30, 59, 60} {
		wantAll(t, whole[:n], "a", "z")
		if !slices.Equal(whole, before) {
			t.Fatalf("of %d: behind the length something was written", n)
		}
	}
	g := grow(whole[:most])
	spare := append(g.proof("k0"), -1, 5, 5)
	wantCheck(t, g.root(), "k0", whole[0].Value, true, spare[:levels], api.OK)
	if !slices.Equal(spare[levels:], []int{-1, 5, 5}) {
		t.Errorf("behind the proof stands %v", spare[levels:])
	}
}

// K2: a proof is the caller's own: what is written into it is seen by nobody.
func TestOwn(t *testing.T) {
	l := mixed(30)
	g := grow(l)
	for _, key := range []string{"k0", "k1", "a", "z"} {
		first, _ := keys.Prove(l, key)
		second, _ := keys.Prove(l, key)
		other, _ := keys.Prove(l, "k10")
		if len(first) != levels || len(second) != levels || len(other) != levels {
			t.Fatalf("the proofs of %q have %d, %d and %d sums", key, len(first), len(second), len(other))
		}
		for _, proof := range [][]int{first, second, other} {
			behind := proof[:cap(proof)]
			for i := range behind {
				behind[i] = -7
			}
		}
		wantProof(t, l, key, g.proof(key), api.OK)
		wantProof(t, l, "k10", g.proof("k10"), api.OK)
	}
	first, _ := keys.Prove(l, "k0")
	second, _ := keys.Prove(l, "k0")
	clear(first)
	if !slices.Equal(second, g.proof("k0")) {
		t.Errorf("the second proof became %v", second)
	}
	wantAll(t, l, "a", "z")
}

// K1, K2: an answer hangs on what is handed in alone: one list by turns with another, and one that was changed.
func TestByTurns(t *testing.T) {
	first, second := mixed(20), pairs{pair("a", "1")}
	for range 3 {
		wantAll(t, first, "a")
		wantRefused(t, pairs{gone("a")}, api.ErrShape)
		wantAll(t, second, "k0")
		wantAll(t, nil, "a", "k0")
	}
	for i := range first {
		first[i].Value = "changed" + strconv.Itoa(i)
		wantAll(t, first, "a")
	}
	proof, _ := keys.Prove(second, "a")
	root, _ := keys.Root(second)
	second[0].Value = "2"
	wantCheck(t, root, "a", "1", true, proof, api.OK)
	wantCheck(t, root, "a", "2", true, proof, api.ErrProof)
}

// K1, K2: lists of chance, and lists in which one pair was made wrong by chance.
func TestChanceLists(t *testing.T) {
	r := rand.New(rand.NewSource(172))
	for range 300 {
		l := chance(r, r.Intn(most+1))
		wantAll(t, l, bytesOf(r, 1+r.Intn(3)), bytesOf(r, maxText), at[r.Intn(places)][5])
	}
	seen := map[api.Errno]int{}
	for range 2000 {
		l := spoiled(r, chance(r, 1+r.Intn(most)))
		errno := refusedByHand(l)
		seen[errno]++
		if errno != api.OK {
			wantRefused(t, l, errno)
		} else {
			wantRoot(t, l, grow(l).root(), api.OK)
		}
	}
	for _, errno := range []api.Errno{api.OK, api.ErrSyntax, api.ErrFull, api.ErrShape, api.ErrClash} {
		if seen[errno] == 0 {
			t.Errorf("none of the lists is told %v", errno)
		}
	}
}

// spoiled changes some pairs of a list by chance; what comes of it may still be right.
func spoiled(r *rand.Rand, l pairs) pairs {
	for range 1 + r.Intn(3) {
		i, j := r.Intn(len(l)), r.Intn(len(l))
		switch r.Intn(7) {
		case 0:
			l[i].Key = ""
		case 1:
			l[i].Key += long(201 - len(l[i].Key))
		case 2:
			l[i].Value = long(200 + r.Intn(2))
		case 3:
			l[i].Gone = true
		case 4:
			l[i], l[j] = l[j], l[i]
		case 5:
			l[i].Key = l[j].Key
		case 6:
			l[i].Value = bytesOf(r, r.Intn(5))
		}
	}
	return l
}

// K2: checks of chance, of which each has some of what it needs.
func TestChanceChecks(t *testing.T) {
	r := rand.New(rand.NewSource(173))
	for range 100 {
		l := chance(r, 1+r.Intn(most))
		g := grow(l)
		for range 60 {
			p, q := l[r.Intn(len(l))], l[r.Intn(len(l))]
			key := []string{p.Key, p.Key, q.Key, bytesOf(r, r.Intn(4)), long(199 + r.Intn(3))}[r.Intn(5)]
			value := []string{p.Value, p.Value, "", q.Value, long(199 + r.Intn(3))}[r.Intn(5)]
			root := []int{g.root(), g.root(), g.root(), r.Intn(prime), noSums[r.Intn(len(noSums))]}[r.Intn(5)]
			proof := g.proof(p.Key)
			switch r.Intn(6) {
			case 0:
				proof[r.Intn(levels)] = r.Intn(prime)
			case 1:
				proof[r.Intn(levels)] = noSums[r.Intn(len(noSums))]
			case 2:
				proof = proof[:r.Intn(levels)]
			}
			there := r.Intn(3) > 0
			wantCheck(t, root, key, value, there, proof, checkByHand(root, key, value, there, proof))
		}
	}
}
