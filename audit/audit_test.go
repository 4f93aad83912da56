package audit_test

import (
	"fmt"
	"math"
	"math/rand"
	"slices"
	"strconv"
	"strings"
	"testing"

	"witnessbox/api"
	"witnessbox/audit"
	"witnessbox/mix"
	"witnessbox/plain"
	"witnessbox/tile"
)

const (
	key     = 7
	most    = 200
	maxText = 200
	maxTime = 1_000_000
	maxKey  = 1_000_000
	prime   = 2_147_483_647
	noRoot  = 5381 // the Sum of no bytes
)

type entries = []api.Entry

var (
	goodKeys  = []int{1, 2, 7, 10, 1000, 999_999, maxKey}
	badKeys   = []int{0, -1, -7, -maxKey, maxKey + 1, maxKey + 2, 1 << 32, 1<<32 + 7, math.MinInt32, math.MinInt, math.MaxInt}
	goodTimes = []int{0, 1, 9, 10, 65_536, 999_999, maxTime}
	badTimes  = []int{-1, -maxTime, maxTime + 1, 1 << 24, 1<<24 + 5, 1 << 32, 1<<32 + 5, math.MinInt, math.MaxInt}
	noSums    = []int{-1, -2, prime, prime + 1, 1 << 31, 1 << 32, 1<<32 + 5, -prime, math.MinInt32, math.MinInt, math.MaxInt}
	someSizes = []int{0, 1, 2, 3, 4, 5, 15, 16, 17, 31, 32, 33, 63, 64, 65, 100, 128, 199, 200}
	fewSizes  = []int{1, 2, 3, 4, 5, 15, 16, 17, 33, 64, 65, 200}
	tooMany   = []int{201, 202, 255, 256, 257, 400, 456, 1000, 1 << 16}
)

// mixed is a log of so many entries, of which some have no Data, and some have the most.
func mixed(n int) (l entries) {
	for i := range n {
		data := []string{"e" + strconv.Itoa(i), "", " ", "two words", "\x00\xff", strings.Repeat("z", i%201), strings.Repeat("y", 200-i%201)}[i%7]
		l = append(l, api.Entry{Time: i * 4999 % (maxTime + 1), Data: data})
	}
	return l
}

func same(n int) entries { return slices.Repeat(entries{{Time: 3, Data: "a"}}, n) }

func empty(n int) entries { return make(entries, n) }

func greatest(n int) entries {
	return slices.Repeat(entries{{Time: maxTime, Data: strings.Repeat("\xff", maxText)}}, n)
}

// numbered has entries that go by their Time alone.
func numbered(n int) entries {
	l := make(entries, n)
	for i := range l {
		l[i].Time = i
	}
	return l
}

// nodeByHand is chapter 1's Node.
func nodeByHand(a, b int) int {
	bytes := []byte{1}
	for _, n := range []int{a, b} {
		bytes = append(bytes, byte(n>>24), byte(n>>16), byte(n>>8), byte(n))
	}
	return mix.Sum(string(bytes))
}

// rootByHand is chapter 2's Root.
func rootByHand(leafs []int) int {
	switch len(leafs) {
	case 0:
		return noRoot
	case 1:
		return leafs[0]
	}
	k := 1
	for 2*k < len(leafs) {
		k *= 2
	}
	return nodeByHand(rootByHand(leafs[:k]), rootByHand(leafs[k:]))
}

// leafsByHand is chapter 7's Leafs, also of entries that are none.
func leafsByHand(l entries) (leafs []int) {
	for _, e := range l {
		ahead := []byte{0, byte(e.Time >> 16), byte(e.Time >> 8), byte(e.Time), byte(len(e.Data))}
		leafs = append(leafs, mix.Sum(string(ahead)+e.Data))
	}
	return leafs
}

// refusedByHand is what is wrong with entries by chapter 7's Leafs.
func refusedByHand(l entries) api.Errno {
	if len(l) > most {
		return api.ErrFull
	}
	for _, e := range l {
		if e.Time < 0 || e.Time > maxTime {
			return api.ErrRange
		}
		if len(e.Data) > maxText {
			return api.ErrFull
		}
	}
	return api.OK
}

func isSum(n int) bool { return 0 <= n && n < prime }

func said(size, root, time, sign int) api.Head {
	return api.Head{Size: size, Root: root, Time: time, Sign: sign}
}

// signByHand is chapter 8's Sign, also of what may not be signed.
func signByHand(size, root, time, key int) api.Head {
	return said(size, root, time, mix.Sum(fmt.Sprintf("%d %08x %d %d", size, root, time, key)))
}

// verifyByHand is chapter 8's Verify, word for word.
func verifyByHand(h api.Head, key int) api.Errno {
	switch {
	case key < 1 || key > maxKey:
		return api.ErrRange
	case h.Size < 0 || h.Size > most || h.Time < 0 || h.Time > maxTime || !isSum(h.Root) || !isSum(h.Sign):
		return api.ErrRange
	case h != signByHand(h.Size, h.Root, h.Time, key):
		return api.ErrSign
	}
	return api.OK
}

// a log is of entries, and has what A1 tells of them, reckoned once.
type log struct {
	l     entries
	errno api.Errno
	root  int
	tiles []api.Tile
	sums  [][]int
}

// logOf is chapter 6's All and Sums, word for word: sum by sum, each in the Tile that it is of.
func logOf(l entries) log {
	a := log{l: l, errno: refusedByHand(l)}
	leafs := leafsByHand(l)
	a.root = rootByHand(leafs)
	for level := 0; a.errno == api.OK && len(leafs) > 0; level++ {
		var above []int
		for i, sum := range leafs {
			if i%4 == 0 {
				a.tiles = append(a.tiles, api.Tile{Level: level, Index: i / 4})
				a.sums = append(a.sums, nil)
			}
			last := len(a.tiles) - 1
			a.tiles[last].Wide++
			a.sums[last] = append(a.sums[last], sum)
			if i%4 == 3 {
				above = append(above, rootByHand(leafs[i-3:i+1]))
			}
		}
		leafs = above
	}
	return a
}

// logsOf is of each size, up to 200.
func logsOf(kind func(n int) entries) (logs []log) {
	for n := range most + 1 {
		logs = append(logs, logOf(kind(n)))
	}
	return logs
}

func (a log) head(time, key int) api.Head { return signByHand(len(a.l), a.root, time, key) }

// told is a copy of the sums, to be changed.
func (a log) told() [][]int {
	out := make([][]int, len(a.sums))
	for i, sums := range a.sums {
		out[i] = slices.Clone(sums)
	}
	return out
}

// whole is A1's Whole, word for word.
func (a log) whole(h api.Head, key int) api.Errno {
	errno := verifyByHand(h, key)
	switch {
	case errno != api.OK:
		return errno
	case a.errno != api.OK:
		return a.errno
	case h.Size != len(a.l):
		return api.ErrShape
	case h.Root != a.root:
		return api.ErrProof
	}
	return api.OK
}

// bad is A1's Bad, word for word.
func (a log) bad(tiles [][]int) (out []api.Tile, errno api.Errno) {
	switch {
	case a.errno != api.OK:
		return nil, a.errno
	case len(tiles) != len(a.tiles):
		return nil, api.ErrShape
	}
	for i, t := range a.tiles {
		other := len(tiles[i]) != t.Wide
		for place := 0; place < t.Wide && !other; place++ {
			other = tiles[i][place] != a.sums[i][place]
		}
		if other {
			out = append(out, t)
		}
	}
	return out, api.OK
}

// tells asks that an error is just this one: nil is the only one that is OK.
func tells(err error, errno api.Errno) bool {
	return (err == nil) == (errno == api.OK) && plain.Told(err) == errno
}

func equalTiles(a, b [][]int) bool { return slices.EqualFunc(a, b, slices.Equal[[]int]) }

// wantWhole asks for just this, and that the test reckons it, too.
func (a log) wantWhole(t *testing.T, h api.Head, key int, want api.Errno) {
	t.Helper()
	if errno := a.whole(h, key); errno != want {
		t.Fatalf("Whole of %d entries, head %v, key %d: the test reckons %v, want %v", len(a.l), h, key, errno, want)
	}
	if err := audit.Whole(a.l, h, key); !tells(err, want) {
		t.Fatalf("Whole of %d entries, head %v, key %d: %v, want %v", len(a.l), h, key, err, want)
	}
}

// wantTiles asks for what the test reckons.
func (a log) wantTiles(t *testing.T) {
	t.Helper()
	got, err := audit.Tiles(a.l)
	if !tells(err, a.errno) || !equalTiles(got, a.sums) {
		t.Fatalf("Tiles of %d entries: %.500s, %v, want %.500s, %v", len(a.l), fmt.Sprint(got), err, fmt.Sprint(a.sums), a.errno)
	}
}

// wantBad asks for what the test reckons, and tells it.
func (a log) wantBad(t *testing.T, tiles [][]int) ([]api.Tile, api.Errno) {
	t.Helper()
	want, errno := a.bad(tiles)
	got, err := audit.Bad(a.l, tiles)
	if !tells(err, errno) || !slices.Equal(got, want) {
		t.Fatalf("Bad of %d entries, of %d tiles %.500s: %v, %v, want %v, %v", len(a.l), len(tiles), fmt.Sprint(tiles), got, err, want, errno)
	}
	return want, errno
}

// wantJust also asks that these tiles are the bad ones, by their places in All.
func (a log) wantJust(t *testing.T, tiles [][]int, places ...int) {
	t.Helper()
	var want []api.Tile
	for _, at := range places {
		want = append(want, a.tiles[at])
	}
	if got, errno := a.wantBad(t, tiles); errno != api.OK || !slices.Equal(got, want) {
		t.Fatalf("Bad of %d entries: the test reckons %v, %v, want %v", len(a.l), got, errno, want)
	}
}

// wantRefused also asks that the error is this one.
func (a log) wantRefused(t *testing.T, tiles [][]int, want api.Errno) {
	t.Helper()
	if _, errno := a.wantBad(t, tiles); errno != want {
		t.Fatalf("Bad of %d entries, of %d tiles: the test reckons %v, want %v", len(a.l), len(tiles), errno, want)
	}
}

var five = [5]api.Entry{{Time: 5, Data: "hi"}, {}, {Time: maxTime, Data: "b\xff"}, {Time: 7, Data: " a  b "}, {Time: 9, Data: "-"}}

// A1: written out by hand; the sums were worked out by another program.
func TestKnown(t *testing.T) {
	times := numbered(20)
	for _, c := range []struct {
		l    entries
		h    api.Head
		key  int
		sums [][]int
	}{
		{nil, said(0, 5381, 0, 200211487), 7, [][]int{}},
		{nil, said(0, 5381, 1000000, 1513873564), 1000000, [][]int{}},
		{five[:1], said(1, 1395826685, 4, 504026300), 7, [][]int{{1395826685}}},
		{five[:2], said(2, 1267198852, 4, 181987883), 7, [][]int{{1395826685, 1433905493}}},
		{five[:3], said(3, 1735167711, 0, 749546633), 1, [][]int{{1395826685, 1433905493, 509865456}}},
		{five[:4], said(4, 1893076905, 1000000, 646610999), 1, [][]int{{1395826685, 1433905493, 509865456, 1140176738}, {1893076905}}},
		{five[:5], said(5, 1421193265, 4, 1068546214), 7, [][]int{{1395826685, 1433905493, 509865456, 1140176738}, {1010696920}, {1893076905}}},
		{times[:15], said(15, 1378551511, 3, 748933824), 9, [][]int{{1433905493, 1433905624, 1433905755, 1433905886}, {1433906017, 1433906148, 1433906279, 1433906410}, {1433906541, 1433906672, 1433906803, 1433906934}, {1433907065, 1433907196, 1433907327}, {1777949686, 165349588, 1013126973}}},
		{times[:16], said(16, 1382087409, 3, 1507211309), 9, [][]int{{1433905493, 1433905624, 1433905755, 1433905886}, {1433906017, 1433906148, 1433906279, 1433906410}, {1433906541, 1433906672, 1433906803, 1433906934}, {1433907065, 1433907196, 1433907327, 1433907458}, {1777949686, 165349588, 1013126973, 1206286915}, {1382087409}}},
		{times[:17], said(17, 1637445581, 3, 1002811857), 9, [][]int{{1433905493, 1433905624, 1433905755, 1433905886}, {1433906017, 1433906148, 1433906279, 1433906410}, {1433906541, 1433906672, 1433906803, 1433906934}, {1433907065, 1433907196, 1433907327, 1433907458}, {1433907589}, {1777949686, 165349588, 1013126973, 1206286915}, {1382087409}}},
		{times[:20], said(20, 1719907792, 999999, 1445108770), 1000000, [][]int{{1433905493, 1433905624, 1433905755, 1433905886}, {1433906017, 1433906148, 1433906279, 1433906410}, {1433906541, 1433906672, 1433906803, 1433906934}, {1433907065, 1433907196, 1433907327, 1433907458}, {1433907589, 1433907720, 1433907851, 1433907982}, {1777949686, 165349588, 1013126973, 1206286915}, {2051919175}, {1382087409}}},
	} {
		if err := audit.Whole(c.l, c.h, c.key); err != nil {
			t.Errorf("Whole of %d entries, %v: %v", len(c.l), c.h, err)
		}
		if got, err := audit.Tiles(c.l); err != nil || !equalTiles(got, c.sums) {
			t.Errorf("Tiles of %d entries: %v, %v, want %v", len(c.l), got, err, c.sums)
		}
		if got, err := audit.Bad(c.l, c.sums); err != nil || len(got) != 0 {
			t.Errorf("Bad of %d entries: %v, %v, want none", len(c.l), got, err)
		}
	}
}

// A1: of logs of more entries their heads, how many tiles they have, what all of their sums are together, and the last tile; worked out by another program.
func TestKnownGreat(t *testing.T) {
	for _, c := range []struct {
		h     api.Head
		many  int
		total int
		last  []int
	}{
		{said(15, 1378551511, 15, 1368997661), 5, 24465022397, []int{1777949686, 165349588, 1013126973}},
		{said(16, 1382087409, 16, 420265017), 6, 28487304179, []int{1382087409}},
		{said(17, 1637445581, 17, 930098393), 7, 29921211768, []int{1382087409}},
		{said(31, 1494731772, 31, 9363454), 11, 52334851192, []int{1382087409}},
		{said(32, 1493810389, 32, 2106485302), 11, 54510268238, []int{1382087409, 361087897}},
		{said(33, 1732399299, 33, 2110260442), 12, 55944177923, []int{1382087409, 361087897}},
		{said(63, 1654952020, 63, 1132140887), 21, 106461759957, []int{1382087409, 361087897, 703085387}},
		{said(64, 1655025618, 64, 541870506), 22, 112130824849, []int{1655025618}},
		{said(65, 1014761838, 65, 2087729739), 23, 113564738726, []int{1655025618}},
		{said(100, 900363040, 100, 1073602623), 35, 173793827206, []int{1655025618}},
		{said(128, 898195280, 128, 1719828455), 43, 225620911694, []int{1655025618, 570983569}},
		{said(199, 2052728899, 199, 521742173), 67, 353069646475, []int{1655025618, 570983569, 1741934143}},
		{said(200, 2054622578, 200, 230094175), 67, 354905198922, []int{1655025618, 570983569, 1741934143}},
	} {
		l := numbered(c.h.Size)
		if err := audit.Whole(l, c.h, 12); err != nil {
			t.Errorf("Whole of %d entries: %v", len(l), err)
		}
		got, err := audit.Tiles(l)
		total := 0
		for _, sums := range got {
			for _, n := range sums {
				total += n
			}
		}
		if err != nil || len(got) != c.many || total != c.total || !slices.Equal(got[len(got)-1], c.last) {
			t.Errorf("Tiles of %d entries: %d tiles, %d, %v, want %v", len(l), len(got), total, err, c)
		}
	}
}

// A1: Whole and Bad, written out by hand; the sums were worked out by another program.
func TestKnownFaults(t *testing.T) {
	l, h := five[:5], said(5, 1421193265, 4, 1068546214)
	for _, c := range []struct {
		l    entries
		h    api.Head
		key  int
		want api.Errno
	}{
		{l, h, 7, api.OK},
		{l, h, 0, api.ErrRange},
		{l, h, 8, api.ErrSign},
		{l, said(5, 1421193265, 5, 1068546214), 7, api.ErrSign},
		{l[:4], h, 7, api.ErrShape},
		{nil, h, 7, api.ErrShape},
		{append(slices.Clone(l), l[0]), h, 7, api.ErrShape},
		{l, said(0, 5381, 0, 200211487), 7, api.ErrShape},
		{entries{l[1], l[0], l[2], l[3], l[4]}, h, 7, api.ErrProof},
		{entries{l[0], l[1], l[2], l[3], {Time: 9, Data: "+"}}, h, 7, api.ErrProof},
		{entries{l[0], l[1], l[2], l[3], {Time: 8, Data: "-"}}, h, 7, api.ErrProof},
		{entries{l[0], l[1], l[2], l[3], {Time: -1, Data: "-"}}, h, 7, api.ErrRange},
	} {
		if err := audit.Whole(c.l, c.h, c.key); !tells(err, c.want) {
			t.Errorf("Whole of %v, %v, key %d: %v, want %v", c.l, c.h, c.key, err, c.want)
		}
	}
	first, second, above := api.Tile{Level: 0, Index: 0, Wide: 4}, api.Tile{Level: 0, Index: 1, Wide: 1}, api.Tile{Level: 1, Index: 0, Wide: 1}
	for _, c := range []struct {
		tiles [][]int
		want  []api.Tile
	}{
		{[][]int{{1395826685, 1433905493, 509865456, 1140176738}, {1010696920}, {1893076905}}, nil},
		{[][]int{{1395826685, 1433905493, 509865456, 1140176739}, {1010696920}, {1893076905}}, []api.Tile{first}},
		{[][]int{{1395826685, 1433905493, 509865456, 1140176738}, {0}, {1893076905}}, []api.Tile{second}},
		{[][]int{{1395826685, 1433905493, 509865456, 1140176738}, {1010696920}, {1893076904}}, []api.Tile{above}},
		{[][]int{{1395826685, 1433905493, 509865456}, {1140176738, 1010696920}, {1893076905}}, []api.Tile{first, second}},
		{[][]int{{1395826685, 1433905493, 509865456, 1140176738}, {1893076905}, {1010696920}}, []api.Tile{second, above}},
		{[][]int{{1395826685, 1433905493, 509865456, 1140176738, 0}, {1010696920}, {}}, []api.Tile{first, above}},
		{[][]int{{1433905493, 1395826685, 509865456, 1140176738}, nil, {1893076905}}, []api.Tile{first, second}},
		{[][]int{nil, nil, nil}, []api.Tile{first, second, above}},
		{[][]int{{-1}, {-1, -1}, {math.MaxInt}}, []api.Tile{first, second, above}},
	} {
		if got, err := audit.Bad(l, c.tiles); err != nil || !slices.Equal(got, c.want) {
			t.Errorf("Bad of %v: %v, %v, want %v", c.tiles, got, err, c.want)
		}
	}
	for _, tiles := range [][][]int{nil, {}, {nil}, {nil, nil}, {nil, nil, nil, nil}, {{1395826685, 1433905493, 509865456, 1140176738}, {1010696920}}} {
		if got, err := audit.Bad(l, tiles); !tells(err, api.ErrShape) || len(got) != 0 {
			t.Errorf("Bad of %v: %v, %v, want ErrShape", tiles, got, err)
		}
	}
}

// A1: logs of each size, of several kinds: their own head is theirs, their tiles are as written, and none of them is bad.
func TestEachSize(t *testing.T) {
	for _, kind := range []func(int) entries{mixed, same, empty, greatest, numbered} {
		for _, a := range logsOf(kind) {
			a.wantWhole(t, a.head(len(a.l), key), key, api.OK)
			a.wantTiles(t)
			a.wantJust(t, a.sums)
			got, err := audit.Tiles(a.l)
			if err != nil {
				t.Fatal(err)
			}
			a.wantJust(t, got)
		}
	}
}

// A1: the tiles are those that chapter 6's All names, in its order, of the sums that chapter 6's Sums tells, and of them comes the root.
func TestTilesAsChapterSix(t *testing.T) {
	for n := range most + 1 {
		l := mixed(n)
		got, err := audit.Tiles(l)
		all, allErr := tile.All(n)
		if err != nil || allErr != nil || len(got) != len(all) {
			t.Fatalf("Tiles of %d entries: %d of them, %v, want %d", n, len(got), err, len(all))
		}
		for i, of := range all {
			if want, err := tile.Sums(leafsByHand(l), of); err != nil || !slices.Equal(got[i], want) {
				t.Fatalf("Tiles of %d entries: %v at %v, want %v, %v", n, got[i], of, want, err)
			}
		}
		at := 0
		root, err := tile.Root(n, func(api.Tile) ([]int, error) {
			at++
			return got[at-1], nil
		})
		if want := rootByHand(leafsByHand(l)); err != nil || root != want {
			t.Fatalf("Tiles of %d entries have the root %d, %v, want %d", n, root, err, want)
		}
	}
}

// A1: entries of any bytes, of each length and of many times.
func TestAnyData(t *testing.T) {
	rnd := rand.New(rand.NewSource(3))
	for long := range maxText + 1 {
		l := make(entries, 1+rnd.Intn(12))
		for i := range l {
			data := make([]byte, long)
			rnd.Read(data)
			l[i] = api.Entry{Time: rnd.Intn(maxTime + 1), Data: string(data)}
		}
		a := logOf(l)
		a.wantWhole(t, a.head(3, key), key, api.OK)
		a.wantTiles(t)
		a.wantJust(t, a.sums)
	}
}

// A1: no entry: no tile, and the head of none.
func TestNone(t *testing.T) {
	for _, l := range []entries{nil, {}, mixed(3)[:0]} {
		a := logOf(l)
		a.wantTiles(t)
		a.wantJust(t, nil)
		a.wantJust(t, [][]int{})
		a.wantJust(t, a.told())
		for _, tiles := range [][][]int{{nil}, {{}}, {{noRoot}}, {{0}}, {nil, nil}, make([][]int, 1000)} {
			a.wantRefused(t, tiles, api.ErrShape)
		}
		a.wantWhole(t, signByHand(0, noRoot, 5, key), key, api.OK)
		for _, root := range []int{0, 1, noRoot - 1, noRoot + 1, prime - 1} {
			a.wantWhole(t, signByHand(0, root, 5, key), key, api.ErrProof)
			a.wantWhole(t, signByHand(1, root, 5, key), key, api.ErrShape)
		}
		a.wantWhole(t, signByHand(1, noRoot, 5, key), key, api.ErrShape)
		a.wantWhole(t, signByHand(200, noRoot, 5, key), key, api.ErrShape)
	}
}

// A1: heads of just these entries, of any time, signed with any key.
func TestWholeAtKeysAndTimes(t *testing.T) {
	for _, n := range someSizes {
		a := logOf(mixed(n))
		for _, k := range goodKeys {
			for _, time := range goodTimes {
				a.wantWhole(t, a.head(time, k), k, api.OK)
			}
			for _, other := range goodKeys {
				if other != k {
					a.wantWhole(t, a.head(4, k), other, api.ErrSign)
				}
			}
		}
	}
}

// A1: heads of the first entries alone, and of some more: not as many, whatever the root is.
func TestWholeOfOtherSizes(t *testing.T) {
	logs := logsOf(mixed)
	for n, a := range logs {
		for size, other := range logs {
			if size != n {
				a.wantWhole(t, other.head(6, key), key, api.ErrShape)
				a.wantWhole(t, signByHand(size, a.root, 6, key), key, api.ErrShape)
			}
		}
	}
	for _, a := range logsOf(same) {
		for _, size := range []int{0, len(a.l) - 1, len(a.l) + 1, len(a.l) / 2, most} {
			if 0 <= size && size <= most && size != len(a.l) {
				a.wantWhole(t, signByHand(size, rootByHand(leafsByHand(same(size))), 6, key), key, api.ErrShape)
			}
		}
	}
}

// otherEntries are not the same as e, but hardly.
func otherEntries(e api.Entry) entries {
	out := entries{{Time: (e.Time + 1) % (maxTime + 1), Data: e.Data}, {Time: e.Time ^ 1, Data: e.Data}}
	if n := len(e.Data); n > 0 {
		out = append(out, api.Entry{Time: e.Time, Data: e.Data[:n-1]}, api.Entry{Time: e.Time, Data: e.Data[:n-1] + string(e.Data[n-1]^1)})
	}
	if len(e.Data) < maxText {
		out = append(out, api.Entry{Time: e.Time, Data: e.Data + "\x00"}, api.Entry{Time: e.Time, Data: "\x00" + e.Data})
	}
	return out
}

// A1: as many entries, of which one is another one, at each place.
func TestWholeOfOneOther(t *testing.T) {
	for _, n := range someSizes {
		own := logOf(mixed(n))
		h := own.head(4, key)
		for at := range n {
			for _, e := range otherEntries(own.l[at]) {
				l := slices.Clone(own.l)
				l[at] = e
				other := logOf(l)
				other.wantWhole(t, h, key, api.ErrProof)
				own.wantWhole(t, other.head(4, key), key, api.ErrProof)
				other.wantWhole(t, other.head(4, key), key, api.OK)
			}
		}
	}
}

// A1: as many entries in another order, and all of them but moved on by one.
func TestWholeOfAnotherOrder(t *testing.T) {
	for _, n := range someSizes {
		own := logOf(numbered(n))
		for at := 1; at < n; at++ {
			l := slices.Clone(own.l)
			l[at-1], l[at] = l[at], l[at-1]
			logOf(l).wantWhole(t, own.head(4, key), key, api.ErrProof)
			l = slices.Concat(own.l[at:], own.l[:at])
			logOf(l).wantWhole(t, own.head(4, key), key, api.ErrProof)
		}
	}
}

// A1: roots of which but one bit is another one.
func TestWholeOfOtherRoots(t *testing.T) {
	for _, n := range someSizes {
		a := logOf(mixed(n))
		for bit := range 31 {
			if root := a.root ^ 1<<bit; isSum(root) {
				a.wantWhole(t, signByHand(n, root, 4, key), key, api.ErrProof)
			}
		}
		for _, root := range []int{0, 1, noRoot, prime - 1, (a.root + 1) % prime} {
			if root != a.root {
				a.wantWhole(t, signByHand(n, root, 4, key), key, api.ErrProof)
			}
		}
	}
}

// badHeads are heads that do not verify by the key, made of one that does; those of numbers out of their bounds are signed nonetheless.
func badHeads(h api.Head) (bad []api.Head) {
	for _, n := range []int{-1, most + 1, 256, 1 << 32, math.MinInt, math.MaxInt} {
		bad = append(bad, signByHand(n, h.Root, h.Time, key))
	}
	for _, n := range noSums {
		bad = append(bad, signByHand(h.Size, n, h.Time, key), said(h.Size, h.Root, h.Time, n))
	}
	for _, n := range badTimes {
		bad = append(bad, signByHand(h.Size, h.Root, n, key))
	}
	for _, sign := range []int{signByHand(h.Size, h.Root, h.Time, key+1).Sign, signByHand(h.Size, h.Root, h.Time, maxKey).Sign, signByHand(h.Size, h.Root, h.Time, -key).Sign, signByHand(h.Size, h.Root, h.Time+1, key).Sign, signByHand(h.Size+1, h.Root, h.Time, key).Sign, signByHand(h.Size, h.Root+1, h.Time, key).Sign, 0, prime - 1, h.Sign - 1, h.Sign + 1} {
		bad = append(bad, said(h.Size, h.Root, h.Time, sign))
	}
	return bad
}

// noEntries are none, with what is wrong with them.
func noEntries() map[api.Errno]entries {
	out := map[api.Errno]entries{}
	for _, time := range badTimes {
		// The first of its faults is told: a Time that is none goes ahead of Data that is too long.
		out[api.ErrRange] = append(out[api.ErrRange], api.Entry{Time: time, Data: "a"}, api.Entry{Time: time}, api.Entry{Time: time, Data: strings.Repeat("a", maxText+1)})
	}
	for _, long := range []int{maxText + 1, maxText + 2, 255, 256, 257, 456, 1 << 16} {
		out[api.ErrFull] = append(out[api.ErrFull], api.Entry{Data: strings.Repeat("a", long)}, api.Entry{Time: maxTime, Data: strings.Repeat("\x00", long)})
	}
	return out
}

// A1: Verify's errors go ahead of all: of entries that are none, of too many, of not as many and of another root.
func TestWholeVerifiesFirst(t *testing.T) {
	count := map[api.Errno]int{}
	for _, n := range someSizes {
		own := logOf(mixed(n))
		logs := []log{own, logOf(mixed((n + 1) % (most + 1))), logOf(nil), logOf(mixed(most)), logOf(empty(most + 1)), logOf(empty(1000))}
		for _, l := range noEntries() {
			logs = append(logs, logOf(l[:1]), logOf(append(mixed(max(n, 1)-1), l[0])))
		}
		for _, a := range logs {
			for _, h := range badHeads(own.head(4, key)) {
				errno := verifyByHand(h, key)
				count[errno]++
				a.wantWhole(t, h, key, errno)
			}
			for _, k := range badKeys {
				a.wantWhole(t, own.head(4, k), k, api.ErrRange)
				a.wantWhole(t, own.head(4, key), k, api.ErrRange)
				a.wantWhole(t, signByHand(-1, -1, -1, k), k, api.ErrRange)
			}
			a.wantWhole(t, own.head(4, key+1), key, api.ErrSign)
		}
	}
	if count[api.OK] != 0 || count[api.ErrRange] < 100 || count[api.ErrSign] < 100 {
		t.Errorf("too few of one kind, or one that is none: %v", count)
	}
}

// wantAll asks all three calls for what is wrong with the entries, whatever the head and the tiles are that verify.
func (a log) wantAll(t *testing.T, want api.Errno, heads ...api.Head) {
	t.Helper()
	if a.errno != want {
		t.Fatalf("%d entries: the test reckons %v, want %v", len(a.l), a.errno, want)
	}
	for _, h := range heads {
		a.wantWhole(t, h, key, want)
	}
	a.wantTiles(t)
	right, _ := tile.All(min(len(a.l), most))
	for _, tiles := range [][][]int{nil, {}, {nil}, {{1, 2}, {3}}, make([][]int, len(right)), make([][]int, len(right)+1), make([][]int, 1000)} {
		a.wantRefused(t, tiles, want)
	}
}

// A1: Leafs' errors: an entry that is none, wherever it stands, be the head that of just these entries or of others.
func TestEntriesRefused(t *testing.T) {
	none := noEntries()
	for _, n := range someSizes[1:] {
		good := mixed(n)
		others := []api.Head{logOf(good).head(4, key), logOf(nil).head(4, key), logOf(mixed(most)).head(4, key), signByHand(n, 0, 4, key)}
		for at := range n {
			for errno, bad := range none {
				l := slices.Clone(good)
				l[at] = bad[at%len(bad)]
				a := logOf(l)
				a.wantAll(t, errno, append(others, a.head(4, key))...)
			}
		}
	}
	for errno, bad := range none {
		for _, e := range bad {
			for _, l := range []entries{{e}, {e, {}}, {{}, e}, append(mixed(17), e), append(mixed(199), e)} {
				a := logOf(l)
				a.wantAll(t, errno, a.head(0, key), signByHand(0, noRoot, 0, key))
			}
		}
	}
}

// A1: of several entries that are none what is wrong with the first.
func TestFirstEntryRefused(t *testing.T) {
	none := noEntries()
	for _, n := range fewSizes[1:] {
		for first := range n {
			for _, second := range []int{first + 1, (first + n) / 2, n - 1} {
				if second <= first || second >= n {
					continue
				}
				for errno, other := range map[api.Errno]api.Errno{api.ErrRange: api.ErrFull, api.ErrFull: api.ErrRange} {
					l := mixed(n)
					l[first] = none[errno][(first+second)%len(none[errno])]
					l[second] = none[other][(first+second)%len(none[other])]
					a := logOf(l)
					a.wantAll(t, errno, a.head(4, key))
				}
			}
		}
	}
}

// A1: 200 entries may be, and no more: ErrFull goes ahead of entries that are none.
func TestTooManyEntries(t *testing.T) {
	logOf(mixed(most)).wantTiles(t)
	for _, n := range tooMany {
		for _, e := range []api.Entry{{}, {Time: 5, Data: "hi"}, {Time: -1}, {Data: strings.Repeat("a", 201)}} {
			l := slices.Repeat(entries{e}, n)
			a := logOf(l)
			a.wantAll(t, api.ErrFull, signByHand(most, a.root, 4, key), signByHand(n%256%(most+1), a.root, 4, key), signByHand(0, noRoot, 4, key))
			l = slices.Clone(l)
			l[0].Time = -1
			logOf(l).wantAll(t, api.ErrFull, signByHand(most, a.root, 4, key))
		}
	}
}

// A1: but one sum is another one, at each place of each tile: just that tile is bad.
func TestBadOfOneSum(t *testing.T) {
	for _, n := range someSizes {
		a := logOf(mixed(n))
		tiles := a.told()
		for i, sums := range a.sums {
			for place, right := range sums {
				for _, wrong := range []int{right - 1, right + 1, right ^ 1<<30, 0, prime - 1, sums[(place+1)%len(sums)], a.root} {
					if wrong == right {
						continue
					}
					tiles[i][place] = wrong
					a.wantJust(t, tiles, i)
				}
				tiles[i][place] = right
			}
		}
		a.wantJust(t, tiles)
	}
}

// A1: what is no sum is not what is asked for, also where it comes to the sum by its low bits, or modulo Prime.
func TestBadOfNoSums(t *testing.T) {
	for _, n := range someSizes {
		a := logOf(mixed(n))
		tiles := a.told()
		for i, sums := range a.sums {
			for place, right := range sums {
				for _, wrong := range append([]int{right + prime, right - prime, right + 1<<31, right + 1<<32, right + math.MinInt, -right, ^right}, noSums...) {
					tiles[i][place] = wrong
					a.wantJust(t, tiles, i)
				}
				tiles[i][place] = right
			}
		}
	}
}

// A1: tiles of fewer sums, of more, of none and of nil.
func TestBadOfShapes(t *testing.T) {
	long := make([]int, 100_000)
	for _, n := range someSizes {
		a := logOf(mixed(n))
		tiles := a.told()
		for i, sums := range a.sums {
			last := sums[len(sums)-1]
			wrong := [][]int{nil, {}, sums[:0], sums[:len(sums)-1], sums[1:], append(slices.Clone(sums), 0), append(slices.Clone(sums), last), append(slices.Clone(sums), -1), append([]int{0}, sums...), slices.Concat(sums, sums), append(slices.Clone(sums), long[:4]...), long, append(slices.Clone(sums), long...)}
			for _, other := range wrong {
				tiles[i] = other
				a.wantJust(t, tiles, i)
			}
			if len(sums) > 2 {
				tiles[i] = sums[:len(sums)-2]
				a.wantJust(t, tiles, i)
			}
			tiles[i] = sums
		}
	}
}

// A1: a sum that moved on to the next tile, and back from it, is missed in both.
func TestBadOfMovedSums(t *testing.T) {
	for _, n := range someSizes {
		a := logOf(mixed(n))
		for i := 1; i < len(a.sums); i++ {
			before, own := a.sums[i-1], a.sums[i]
			tiles := a.told()
			tiles[i-1], tiles[i] = before[:len(before)-1], append([]int{before[len(before)-1]}, own...)
			a.wantJust(t, tiles, i-1, i)
			tiles[i-1], tiles[i] = append(slices.Clone(before), own[0]), own[1:]
			a.wantJust(t, tiles, i-1, i)
		}
	}
}

// A1: sums of one tile that changed places.
func TestBadOfTurnedSums(t *testing.T) {
	for _, n := range someSizes {
		a := logOf(mixed(n))
		for i, sums := range a.sums {
			for x := range sums {
				for y := range x {
					tiles := a.told()
					tiles[i][x], tiles[i][y] = sums[y], sums[x]
					a.wantJust(t, tiles, i)
				}
			}
		}
	}
}

// A1: two tiles that changed places are both bad, but where they have the same sums.
func TestBadOfTurnedTiles(t *testing.T) {
	for _, n := range someSizes {
		alike, a := logOf(same(n)), logOf(mixed(n))
		for x := range a.sums {
			for y := range x {
				tiles := a.told()
				tiles[x], tiles[y] = tiles[y], tiles[x]
				a.wantJust(t, tiles, y, x)
				tiles = alike.told()
				tiles[x], tiles[y] = tiles[y], tiles[x]
				if alike.tiles[x].Level == alike.tiles[y].Level && alike.tiles[x].Wide == alike.tiles[y].Wide {
					alike.wantJust(t, tiles)
				} else {
					alike.wantBad(t, tiles)
				}
			}
		}
		if len(a.sums) > 1 {
			all := make([]int, len(a.sums))
			for i := range all {
				all[i] = i
			}
			a.wantJust(t, slices.Concat(a.sums[1:], a.sums[:1]), all...)
		}
	}
}

// A1: every choice of bad tiles of logs of few, each spoiled in one of several ways: All's order, each once.
func TestBadOfEachChoice(t *testing.T) {
	for _, n := range []int{1, 3, 4, 5, 8, 15, 16, 17, 20, 31, 33} {
		a := logOf(mixed(n))
		for choice := range 1 << len(a.sums) {
			tiles := a.told()
			var want []int
			for i := range tiles {
				if choice>>i&1 == 1 {
					tiles[i] = spoiled(tiles[i], choice+i)
					want = append(want, i)
				}
			}
			a.wantJust(t, tiles, want...)
		}
	}
}

// spoiled is not the same as sums, which it may write into.
func spoiled(sums []int, way int) []int {
	last := len(sums) - 1
	switch way % 7 {
	case 0:
		sums[last]++
	case 1:
		sums[0] = -1
	case 2:
		return nil
	case 3:
		return sums[:last]
	case 4:
		return append(sums, 0)
	case 5:
		for i := range sums {
			sums[i] ^= 1
		}
	case 6:
		return []int{}
	}
	return sums
}

// A1: some of the tiles of great logs, and all of them, in one sum and in several.
func TestBadOfSeveral(t *testing.T) {
	rnd := rand.New(rand.NewSource(5))
	for _, n := range []int{32, 63, 64, 65, 100, 128, 199, 200} {
		a := logOf(mixed(n))
		for round := range 300 {
			tiles := a.told()
			var want []int
			for i := range tiles {
				if round == 0 || rnd.Intn(1+round%20) == 0 {
					tiles[i] = spoiled(tiles[i], rnd.Intn(7))
					want = append(want, i)
				}
			}
			a.wantJust(t, tiles, want...)
		}
		for way := range 7 {
			tiles := a.told()
			for i := range tiles {
				tiles[i] = spoiled(tiles[i], way)
			}
			if got, errno := a.wantBad(t, tiles); errno != api.OK || !slices.Equal(got, a.tiles) {
				t.Fatalf("all tiles of %d entries: %v, %v", n, got, errno)
			}
		}
	}
}

// A1: what Tiles tells of a log of which one entry is another one: the tiles above that entry are bad, and no other.
func TestBadOfOneOtherEntry(t *testing.T) {
	for _, n := range someSizes {
		a := logOf(mixed(n))
		for at := range n {
			l := slices.Clone(a.l)
			l[at] = otherEntries(l[at])[0]
			told, err := audit.Tiles(l)
			if err != nil {
				t.Fatal(err)
			}
			var want []api.Tile
			for i, of := range a.tiles {
				if each := 1 << (2 * of.Level); at/each/4 == of.Index && at/each%4 < of.Wide {
					want = append(want, a.tiles[i])
				}
			}
			if got, errno := a.wantBad(t, told); errno != api.OK || !slices.Equal(got, want) {
				t.Fatalf("%d entries, other at %d: %v, %v, want %v", n, at, got, errno, want)
			}
		}
	}
}

// A1: what Tiles tells of a log of other sizes: ErrShape, or where it has as many tiles the bad ones of them.
func TestBadOfOtherSizes(t *testing.T) {
	logs := logsOf(mixed)
	asMany := 0
	for n, a := range logs {
		for size, other := range logs {
			want := api.ErrShape
			if len(other.sums) == len(a.sums) {
				want = api.OK
				if n != size {
					asMany++
				}
			}
			a.wantRefused(t, other.sums, want)
		}
	}
	if asMany < 200 {
		t.Errorf("other sizes had as many tiles but %d times", asMany)
	}
}

// A1: one tile fewer and one more, none and some, be they right or not.
func TestBadOfNotAsMany(t *testing.T) {
	for n := range most + 1 {
		a := logOf(numbered(n))
		many := len(a.sums)
		for _, tiles := range [][][]int{nil, {}, a.sums[:many/2]} {
			if n > 0 {
				a.wantRefused(t, tiles, api.ErrShape)
			}
		}
		for at := range many {
			a.wantRefused(t, slices.Delete(a.told(), at, at+1), api.ErrShape)
			a.wantRefused(t, slices.Insert(a.told(), at, a.sums[at]), api.ErrShape)
		}
		for _, more := range [][][]int{{nil}, {{}}, {{0}}, {{a.root}}, make([][]int, 2), a.sums, make([][]int, 256), make([][]int, 10_000)} {
			if len(more) > 0 {
				a.wantRefused(t, slices.Concat(a.sums, more), api.ErrShape)
				a.wantRefused(t, slices.Concat(more, a.sums), api.ErrShape)
			}
		}
		a.wantBad(t, make([][]int, many))
		a.wantRefused(t, make([][]int, many+1), api.ErrShape)
	}
}

// DOC's P2, P4: entries that are handed in are neither written into nor read behind their length; the same is answered again.
func TestEntriesAreNotTouched(t *testing.T) {
	for _, n := range someSizes {
		for _, bad := range []bool{false, true} {
			room := append(mixed(n), api.Entry{Time: -1}, api.Entry{Data: strings.Repeat("a", 201)}, api.Entry{Time: 4, Data: "b"})
			if bad && n > 0 {
				room[n-1].Time = -1
			}
			before := slices.Clone(room)
			a := logOf(room[:n])
			for range 2 {
				a.wantTiles(t)
				a.wantBad(t, a.sums)
				a.wantBad(t, nil)
				for _, h := range []api.Head{a.head(4, key), signByHand(n, 0, 4, key), signByHand((n+1)%most, 0, 4, key), {}} {
					a.wantWhole(t, h, key, a.whole(h, key))
				}
			}
			if !slices.Equal(room, before) {
				t.Fatalf("a list of %d entries was written into", n)
			}
		}
	}
}

// DOC's P2, P4: tiles that are handed in, and their sums, are neither written into nor read behind their length, be they pieces of one memory or not.
func TestTilesAreNotTouched(t *testing.T) {
	for _, n := range someSizes {
		a := logOf(mixed(n))
		for round := range 12 {
			var memory []int
			var places [][2]int
			for i, sums := range a.told() {
				if round > 0 && i%round == round-1 {
					sums = spoiled(sums, round+i)
				}
				places = append(places, [2]int{len(memory), len(memory) + len(sums)})
				memory = append(memory, sums...)
				memory = append(memory, -1, 5)
			}
			var room [][]int
			for _, p := range places {
				room = append(room, memory[p[0]:p[1]])
			}
			many := len(room)
			room = append(room, nil, []int{1, 2, 3})
			lists, numbers := slices.Clone(room), slices.Clone(memory)
			for range 2 {
				for _, tiles := range [][][]int{room[:many], room[:many+1], room[:many/2]} {
					a.wantBad(t, tiles)
				}
				logOf(append(mixed(n), api.Entry{Time: -1})).wantBad(t, room[:many])
			}
			for i := range lists {
				if len(lists[i]) != len(room[i]) || len(room[i]) > 0 && &lists[i][0] != &room[i][0] {
					t.Fatalf("the %d-th of %d tiles became another one", i, many)
				}
			}
			if !slices.Equal(memory, numbers) {
				t.Fatalf("sums of %d tiles were written into", many)
			}
		}
	}
}

// DOC's P2: what Tiles and Bad hand out is the caller's, and no two of its lists share any memory.
func TestAnswersAreTheCallers(t *testing.T) {
	for _, n := range someSizes {
		a := logOf(mixed(n))
		first, err := audit.Tiles(a.l)
		second, bad := audit.Tiles(a.l)
		if err != nil || bad != nil {
			t.Fatal(err, bad)
		}
		for i := range first {
			for at, whole := 0, first[i][:cap(first[i])]; at < len(whole); at++ {
				whole[at] = -1
			}
			for later := i + 1; later < len(first); later++ {
				if !slices.Equal(first[later], a.sums[later]) {
					t.Fatalf("tiles of %d entries: the %d-th and the %d-th share memory", n, i, later)
				}
			}
		}
		for i := range first {
			first[i] = nil
		}
		_ = append(first, []int{1})
		if !equalTiles(second, a.sums) {
			t.Fatalf("tiles of %d entries share memory with those of another call", n)
		}
		a.wantTiles(t)
		a.wantJust(t, a.sums)
		a.wantBadIsTheCallers(t)
	}
}

func (a log) wantBadIsTheCallers(t *testing.T) {
	t.Helper()
	tiles := a.told()
	for i := range tiles {
		tiles[i] = spoiled(tiles[i], i)
	}
	first, err := audit.Bad(a.l, tiles)
	second, again := audit.Bad(a.l, tiles)
	if err != nil || again != nil {
		t.Fatal(err, again)
	}
	for i, whole := 0, first[:cap(first)]; i < len(whole); i++ {
		whole[i] = api.Tile{Level: -1, Index: -1, Wide: -1}
	}
	if !slices.Equal(second, a.tiles) {
		t.Fatalf("bad tiles of %d entries share memory with those of another call", len(a.l))
	}
	a.wantBad(t, tiles)
	a.wantTiles(t)
}

// DOC's P2: what was handed out stays as it is when what was handed in is changed.
func TestAnswersKeepNothing(t *testing.T) {
	for _, n := range someSizes {
		a := logOf(mixed(n))
		l, tiles := slices.Clone(a.l), a.told()
		got, err := audit.Tiles(l)
		for i := range tiles {
			tiles[i][0] = -1
		}
		bad, again := audit.Bad(l, tiles)
		for i := range l {
			l[i] = api.Entry{Time: 77}
		}
		for i := range tiles {
			tiles[i][0] = 8
			tiles[i] = nil
		}
		if err != nil || again != nil || !equalTiles(got, a.sums) || !slices.Equal(bad, a.tiles) {
			t.Fatalf("%d entries: what was handed out changed with what was handed in: %v, %v", n, err, again)
		}
	}
}

// DOC's P2: what is answered hangs on no call before: logs of several kinds, heads and tiles by turns, some of them damaged.
func TestByTurns(t *testing.T) {
	rnd := rand.New(rand.NewSource(1))
	kinds := []func(int) entries{mixed, same, empty, numbered}
	none := noEntries()
	pick := func() entries {
		l := kinds[rnd.Intn(4)](rnd.Intn([]int{3, 10, 40, 203}[rnd.Intn(4)]))
		if errno := []api.Errno{api.ErrRange, api.ErrFull}[rnd.Intn(2)]; len(l) > 0 && rnd.Intn(8) == 0 {
			l[rnd.Intn(len(l))] = none[errno][rnd.Intn(len(none[errno]))]
		}
		return l
	}
	wholes, tiles, bads := map[api.Errno]int{}, map[api.Errno]int{}, map[api.Errno]int{}
	for range 20_000 {
		a := logOf(pick())
		h := a.head(rnd.Intn(5), key)
		switch rnd.Intn(5) {
		case 0:
			h = signByHand(len(a.l), rnd.Intn(prime), 4, key)
		case 1:
			h = logOf(pick()).head(4, key)
		case 2:
			if bad := badHeads(h); rnd.Intn(3) == 0 {
				h = bad[rnd.Intn(len(bad))]
			}
		}
		errno := a.whole(h, key)
		wholes[errno]++
		a.wantWhole(t, h, key, errno)
		tiles[a.errno]++
		a.wantTiles(t)
		told := a.told()
		for i := range told {
			if rnd.Intn(10) == 0 {
				told[i] = spoiled(told[i], rnd.Intn(7))
			}
		}
		if rnd.Intn(6) == 0 {
			told = append(told, nil)
		}
		_, errno = a.wantBad(t, told)
		bads[errno]++
	}
	for _, c := range []struct {
		name  string
		count map[api.Errno]int
		want  []api.Errno
	}{
		{"Whole", wholes, []api.Errno{api.OK, api.ErrRange, api.ErrFull, api.ErrSign, api.ErrShape, api.ErrProof}},
		{"Tiles", tiles, []api.Errno{api.OK, api.ErrRange, api.ErrFull}},
		{"Bad", bads, []api.Errno{api.OK, api.ErrRange, api.ErrFull, api.ErrShape}},
	} {
		for _, errno := range c.want {
			if c.count[errno] < 100 {
				t.Errorf("%s: %v came up %d times: too few", c.name, errno, c.count[errno])
			}
		}
	}
}
