package fork_test

import (
	"cmp"
	"fmt"
	"math"
	"math/rand"
	"slices"
	"strconv"
	"testing"

	"witnessbox/api"
	"witnessbox/fork"
	"witnessbox/grow"
	"witnessbox/mix"
	"witnessbox/plain"
)

const (
	key      = 7
	most     = 200
	maxTime  = 1_000_000
	maxKey   = 1_000_000
	maxHeads = 20
	prime    = 2_147_483_647
	noRoot   = 5381 // the Sum of no bytes
)

var (
	goodKeys  = []int{1, 2, 7, 10, 999_999, maxKey}
	badKeys   = []int{0, -1, -7, -maxKey, maxKey + 1, maxKey + 2, 1 << 32, 1<<32 + 7, math.MinInt32, math.MinInt, math.MaxInt}
	noSums    = []int{-1, prime, prime + 1, 1 << 31, 1 << 32, 1<<32 + 5, -prime, math.MinInt32, math.MinInt, math.MaxInt}
	someSizes = []int{0, 1, 2, 3, 4, 5, 15, 16, 17, 32, 33, 63, 64, 65, 100, 199, 200}
)

// nodeByHand is chapter 1's Node.
func nodeByHand(a, b int) int {
	bytes := []byte{1}
	for _, n := range []int{a, b} {
		bytes = append(bytes, byte(n>>24), byte(n>>16), byte(n>>8), byte(n))
	}
	return mix.Sum(string(bytes))
}

// splitByHand is chapter 2's Split.
func splitByHand(n int) int {
	k := 1
	for 2*k < n {
		k *= 2
	}
	return k
}

// rootByHand is chapter 2's Root.
func rootByHand(leafs []int) int {
	switch len(leafs) {
	case 0:
		return noRoot
	case 1:
		return leafs[0]
	}
	k := splitByHand(len(leafs))
	return nodeByHand(rootByHand(leafs[:k]), rootByHand(leafs[k:]))
}

// isSum is chapter 1's.
func isSum(n int) bool { return 0 <= n && n < prime }

// signByHand is chapter 8's Sign, also of what may not be signed.
func signByHand(size, root, time, key int) api.Head {
	return api.Head{Size: size, Root: root, Time: time, Sign: mix.Sum(fmt.Sprintf("%d %08x %d %d", size, root, time, key))}
}

// verifyByHand is chapter 8's Verify, word for word.
func verifyByHand(h api.Head, key int) api.Errno {
	switch {
	case key < 1 || key > maxKey:
		return api.ErrRange
	case h.Size < 0 || h.Size > most || h.Time < 0 || h.Time > maxTime || !isSum(h.Root) || !isSum(h.Sign):
		return api.ErrRange
	case h != signByHand(h.Size, h.Root, h.Time, key):
		return api.ErrSign
	}
	return api.OK
}

// stepsByHand is how long chapter 5's proof of (old, size, whole) is.
func stepsByHand(old, size int, whole bool) int {
	switch {
	case old == size && whole:
		return 0
	case old == size:
		return 1
	}
	k := splitByHand(size)
	if old <= k {
		return stepsByHand(old, k, whole) + 1
	}
	return stepsByHand(old-k, size-k, false) + 1
}

// rootsByHand is what comes of a proof of (old, size, whole) as the old root and as the new one.
func rootsByHand(oldRoot, old, size int, whole bool, proof []int) (before, after int) {
	switch {
	case old == size && whole:
		return oldRoot, oldRoot
	case old == size:
		return proof[0], proof[0]
	}
	k, rest, last := splitByHand(size), proof[:len(proof)-1], proof[len(proof)-1]
	if old <= k {
		before, after = rootsByHand(oldRoot, old, k, whole, rest)
		return before, nodeByHand(after, last)
	}
	before, after = rootsByHand(oldRoot, old-k, size-k, false, rest)
	return nodeByHand(last, before), nodeByHand(last, after)
}

// growByHand is chapter 5's Check of heads that verify, and of which a has one entry at least, and fewer than b.
func growByHand(a, b api.Head, proof []int) api.Errno {
	for _, n := range proof {
		if !isSum(n) {
			return api.ErrRange
		}
	}
	if len(proof) != stepsByHand(a.Size, b.Size, true) {
		return api.ErrShape
	}
	if before, after := rootsByHand(a.Root, a.Size, b.Size, true, proof); before != a.Root || after != b.Root {
		return api.ErrProof
	}
	return api.OK
}

// bothByHand verifies a, then b.
func bothByHand(a, b api.Head, key int) api.Errno {
	if errno := verifyByHand(a, key); errno != api.OK {
		return errno
	}
	return verifyByHand(b, key)
}

// provesByHand is F1's Proves, word for word.
func provesByHand(a, b api.Head, key int) (bool, api.Errno) {
	if errno := bothByHand(a, b, key); errno != api.OK {
		return false, errno
	}
	return a.Size == b.Size && a.Root != b.Root, api.OK
}

// checkByHand is F1's Check, word for word.
func checkByHand(a, b api.Head, key int, proof []int) (bool, api.Errno) {
	if errno := bothByHand(a, b, key); errno != api.OK {
		return false, errno
	}
	if a.Size > b.Size {
		return false, api.ErrShape
	}
	if a.Size == 0 && b.Size > 0 {
		return true, api.OK
	}
	if a.Size == b.Size {
		if len(proof) > 0 {
			return false, api.ErrShape
		}
		return a.Root == b.Root, api.OK
	}
	switch errno := growByHand(a, b, proof); errno {
	case api.OK:
		return true, api.OK
	case api.ErrProof:
		return false, api.OK
	default:
		return false, errno
	}
}

// findByHand is F1's Find: it takes all twos that prove it, and sorts them by j, then i.
func findByHand(l []api.Head, key int) (i, j int, errno api.Errno) {
	if len(l) > maxHeads {
		return 0, 0, api.ErrFull
	}
	for _, h := range l {
		if errno := verifyByHand(h, key); errno != api.OK {
			return 0, 0, errno
		}
	}
	var twos [][2]int
	for i := range l {
		for j := i + 1; j < len(l); j++ {
			if l[i].Size == l[j].Size && l[i].Root != l[j].Root {
				twos = append(twos, [2]int{i, j})
			}
		}
	}
	if len(twos) == 0 {
		return 0, 0, api.ErrNone
	}
	first := slices.MinFunc(twos, func(a, b [2]int) int { return cmp.Or(cmp.Compare(a[1], b[1]), cmp.Compare(a[0], b[0])) })
	return first[0], first[1], api.OK
}

// tells asks that an error is just this one: nil is the only one that is OK.
func tells(err error, errno api.Errno) bool {
	return (err == nil) == (errno == api.OK) && plain.Told(err) == errno
}

func wantError(t *testing.T, what string, err error, want api.Errno) {
	t.Helper()
	if !tells(err, want) {
		t.Fatalf("%s: error %v, want %v", what, err, want)
	}
}

// told asks Check for just this answer and error.
func told(t *testing.T, a, b api.Head, key int, proof []int, want bool, errno api.Errno) {
	t.Helper()
	got, err := fork.Check(a, b, key, proof)
	if got != want || !tells(err, errno) {
		t.Fatalf("Check of %v and %v, key %d, proof %.300s: %v, %v, want %v, %v", a, b, key, fmt.Sprint(proof), got, err, want, errno)
	}
}

// wantCheck asks for what the test reckons, and for just that.
func wantCheck(t *testing.T, a, b api.Head, key int, proof []int, want bool, errno api.Errno) {
	t.Helper()
	if is, no := checkByHand(a, b, key, proof); is != want || no != errno {
		t.Fatalf("Check of %v and %v, key %d, proof %.300s: the test reckons %v, %v, want %v, %v", a, b, key, fmt.Sprint(proof), is, no, want, errno)
	}
	told(t, a, b, key, proof, want, errno)
}

// wantProves asks for just this, of a and b as well as of what the test reckons.
func wantProves(t *testing.T, a, b api.Head, key int, want bool, errno api.Errno) {
	t.Helper()
	if is, no := provesByHand(a, b, key); is != want || no != errno {
		t.Fatalf("Proves of %v and %v, key %d: the test reckons %v, %v, want %v, %v", a, b, key, is, no, want, errno)
	}
	got, err := fork.Proves(a, b, key)
	if got != want || !tells(err, errno) {
		t.Fatalf("Proves of %v and %v, key %d: %v, %v, want %v, %v", a, b, key, got, err, want, errno)
	}
}

// wantFind asks for what the test reckons, and tells it.
func wantFind(t *testing.T, l []api.Head, key int) (i, j int, errno api.Errno) {
	t.Helper()
	i, j, errno = findByHand(l, key)
	gotI, gotJ, err := fork.Find(l, key)
	if gotI != i || gotJ != j || !tells(err, errno) {
		t.Fatalf("Find of %d %.1000s, key %d: %d, %d, %v, want %d, %d, %v", len(l), fmt.Sprint(l), key, gotI, gotJ, err, i, j, errno)
	}
	return i, j, errno
}

// wantFound also asks for just this.
func wantFound(t *testing.T, l []api.Head, key, i, j int, errno api.Errno) {
	t.Helper()
	if gotI, gotJ, no := wantFind(t, l, key); gotI != i || gotJ != j || no != errno {
		t.Fatalf("Find of %d %.1000s, key %d: the test reckons %d, %d, %v, want %d, %d, %v", len(l), fmt.Sprint(l), key, gotI, gotJ, no, i, j, errno)
	}
}

func said(size, root, time, sign int) api.Head {
	return api.Head{Size: size, Root: root, Time: time, Sign: sign}
}

// F1: written out by hand; the sums were worked out by another program.
func TestKnown(t *testing.T) {
	for _, c := range []struct {
		a, b  api.Head
		key   int
		proof []int
		is    bool
		errno api.Errno
		lies  bool
	}{
		{said(0, 5381, 0, 200211481), said(0, 5381, 1000000, 1184626105), 1, nil, true, api.OK, false},
		{said(0, 5381, 0, 200211487), said(1, 1384585780, 0, 84162348), 7, nil, true, api.OK, false},
		{said(0, 5381, 5, 1921874304), said(200, 991325339, 4, 17684714), 1000000, nil, true, api.OK, false},
		{said(1, 1384585780, 0, 84162348), said(1, 1384585780, 9, 84316797), 7, nil, true, api.OK, false},
		{said(1, 1384585780, 0, 84162348), said(1, 1384588269, 9, 1858096672), 7, nil, false, api.OK, true},
		{said(1, 1384585780, 0, 84162348), said(2, 1595207554, 0, 815844428), 7, []int{1386833872}, true, api.OK, false},
		{said(1, 1384585780, 0, 84162348), said(2, 1713659048, 0, 2136704622), 7, []int{1386836361}, false, api.OK, false},
		{said(1, 1384585780, 0, 84162348), said(2, 1595208793, 0, 1702501952), 7, []int{1386836361}, true, api.OK, false},
		{said(2, 1595207554, 3, 815895911), said(3, 1636181290, 4, 797720012), 7, []int{1389081964}, true, api.OK, false},
		{said(2, 1595207554, 3, 815895911), said(3, 2070507675, 4, 298792153), 7, []int{1389084453}, false, api.OK, false},
		{said(3, 1636181290, 3, 797702845), said(5, 1802289778, 4, 291543279), 1, []int{1389081964, 1391330056, 1595207554, 1393578148}, true, api.OK, false},
		{said(3, 1636181290, 3, 797702845), said(5, 648035311, 4, 2104145784), 1, []int{1389084453, 1391332545, 1595207554, 1393580637}, false, api.OK, false},
		{said(3, 1636181290, 3, 797702845), said(5, 1626079911, 4, 350559878), 1, []int{1389081964, 1391332545, 1595207554, 1393580637}, true, api.OK, false},
		{said(3, 1636181290, 3, 797702845), said(5, 1235970374, 4, 1805509006), 1, []int{1389084453, 1391332545, 1713659048, 1393580637}, false, api.OK, false},
		{said(5, 1802289778, 1, 291491802), said(4, 1734687025, 2, 1214746562), 7, nil, false, api.ErrShape, false},
		{said(4, 1734687025, 1, 1214729401), said(0, 5381, 2, 200245809), 7, nil, false, api.ErrShape, false},
		{said(4, 1734687025, 0, 1214712240), said(5, 1802289778, 0, 291474641), 7, []int{1393578148}, true, api.OK, false},
		{said(5, 1802291017, 0, 556785582), said(5, 1802289778, 0, 291474641), 7, nil, false, api.OK, true},
		{said(15, 357628400, 0, 740281046), said(16, 355786218, 1, 2116217835), 1000000, []int{822390707, 1116890629, 328792844, 370083592, 1888243575}, true, api.OK, false},
		{said(16, 355786218, 0, 1655268600), said(17, 1701932452, 1, 1272619925), 1000000, []int{1411390551}, true, api.OK, false},
		{said(7, 1898317031, 0, 1518938698), said(17, 1664144378, 1, 1350433111), 1000000, []int{1398076821, 1400324913, 138216849, 1734687764, 891790146, 1411716610}, false, api.OK, false},
		{said(16, 355786218, 8, 370640506), said(33, 1398706869, 9, 943350976), 12, []int{1899129403, 1828748310}, true, api.OK, false},
		{said(17, 1701932452, 8, 50497382), said(33, 1398706869, 9, 943350976), 12, []int{1411716610, 1706216532, 2028274049, 1275400173, 1641953480, 355786218, 1828748310}, false, api.OK, false},
		{said(127, 645998714, 999999, 39533404), said(200, 991325339, 1000000, 2092451693), 1000000, []int{819243129, 744027135, 1992483156, 276240196, 1379691606, 922158449, 149672927, 1750596416, 1043706881}, true, api.OK, false},
		{said(128, 646357812, 999999, 531900558), said(200, 991325339, 1000000, 2092451693), 1000000, []int{1043706881}, true, api.OK, false},
		{said(127, 645998714, 999999, 39533404), said(200, 365968514, 1000000, 1921190802), 1000000, []int{861956858, 786740864, 1992483156, 276240196, 1379691606, 922158449, 149672927, 1750596416, 1595802681}, false, api.OK, false},
		{said(200, 991325339, 1, 597469737), said(200, 991314318, 2, 587767792), 3, nil, false, api.OK, true},
		{said(200, 991325339, 1, 597469737), said(200, 991325339, 2, 597486898), 3, nil, true, api.OK, false},
		{said(199, 991229241, 0, 1543168093), said(200, 991325339, 0, 597452576), 3, []int{1846143349, 1770927355, 930939376, 352810543, 1579612705, 646357812}, true, api.OK, false},
		{said(200, 991325339, 0, 597452576), said(199, 991229241, 0, 1543168093), 3, nil, false, api.ErrShape, false},
	} {
		wantCheck(t, c.a, c.b, c.key, c.proof, c.is, c.errno)
		wantProves(t, c.a, c.b, c.key, c.lies, api.OK)
		wantProves(t, c.b, c.a, c.key, c.lies, api.OK)
		i, j, errno := 0, 0, api.ErrNone
		if c.lies {
			i, j, errno = 0, 1, api.OK
		}
		wantFound(t, []api.Head{c.a, c.b}, c.key, i, j, errno)
		wantFound(t, []api.Head{c.b, c.a}, c.key, i, j, errno)
	}
}

// F1: lists and what is found there, written out by hand; the sums were worked out by another program.
func TestKnownLists(t *testing.T) {
	none := said(0, 5381, 0, 200211487)
	one, again, other := said(1, 1384585780, 0, 84162348), said(1, 1384585780, 9, 84316797), said(1, 1384588269, 9, 1858096672)
	two, second, third := said(2, 1595207554, 0, 815844428), said(2, 1713659048, 0, 2136704622), said(2, 1595208793, 0, 1702501952)
	stranger := said(2, 1595207554, 3, 815895912)
	for _, c := range []struct {
		l     []api.Head
		i, j  int
		errno api.Errno
	}{
		{nil, 0, 0, api.ErrNone},
		{[]api.Head{none}, 0, 0, api.ErrNone},
		{[]api.Head{one}, 0, 0, api.ErrNone},
		{[]api.Head{stranger}, 0, 0, api.ErrSign},
		{[]api.Head{one, one}, 0, 0, api.ErrNone},
		{[]api.Head{one, again}, 0, 0, api.ErrNone},
		{[]api.Head{one, other}, 0, 1, api.OK},
		{[]api.Head{one, two}, 0, 0, api.ErrNone},
		{[]api.Head{one, second}, 0, 0, api.ErrNone},
		{[]api.Head{none, one, two}, 0, 0, api.ErrNone},
		{[]api.Head{one, again, other}, 0, 2, api.OK},
		{[]api.Head{one, other, again}, 0, 1, api.OK},
		{[]api.Head{other, two, one}, 0, 2, api.OK},
		{[]api.Head{two, one, other}, 1, 2, api.OK},
		{[]api.Head{two, second, third}, 0, 1, api.OK},
		{[]api.Head{two, one, other, second}, 1, 2, api.OK},
		{[]api.Head{one, two, second, other}, 1, 2, api.OK},
		{[]api.Head{two, one, second, other}, 0, 2, api.OK},
		{[]api.Head{one, two, other, second}, 0, 2, api.OK},
		{[]api.Head{one, one, other, other}, 0, 2, api.OK},
		{[]api.Head{none, one, again, one, two, one, third}, 4, 6, api.OK},
		{[]api.Head{none, none, one, two, again, two, none}, 0, 0, api.ErrNone},
		{[]api.Head{one, other, stranger}, 0, 0, api.ErrSign},
		{[]api.Head{one, other, two, {Size: -1}, stranger}, 0, 0, api.ErrRange},
	} {
		wantFound(t, c.l, key, c.i, c.j, c.errno)
	}
}

// a log is of leafs, and has the root of the first of them, of none, of one and so on, reckoned once.
type log struct{ leafs, roots []int }

// logOf is a log of 200 entries, of which those that other tells are other ones.
func logOf(other func(i int) bool) (l log) {
	for i := range most {
		data := "e" + strconv.Itoa(i)
		if other(i) {
			data = "x" + strconv.Itoa(i)
		}
		ahead := []byte{0, 0, byte(i >> 8), byte(i), byte(len(data))}
		l.leafs = append(l.leafs, mix.Sum(string(ahead)+data))
	}
	for n := range most + 1 {
		l.roots = append(l.roots, rootByHand(l.leafs[:n]))
	}
	return l
}

// plainLog is the one that the others are held against.
func plainLog() log { return logOf(func(int) bool { return false }) }

func (l log) head(size, time, key int) api.Head { return signByHand(size, l.roots[size], time, key) }

// grown is what chapter 5's Make tells.
func (l log) grown(t *testing.T, old, size int) []int {
	t.Helper()
	proof, err := grow.Make(l.leafs, old, size)
	if err != nil {
		t.Fatal(err)
	}
	return proof
}

// F1: each two sizes of one log, with the proof that Make tells: they go together, and prove nothing.
func TestEachTwoSizes(t *testing.T) {
	l := plainLog()
	for old := range most + 1 {
		for size := range most + 1 {
			k := goodKeys[(old+size)%len(goodKeys)]
			a, b := l.head(old, size*5000, k), l.head(size, old, k)
			wantProves(t, a, b, k, false, api.OK)
			switch {
			case old > size:
				wantCheck(t, a, b, k, nil, false, api.ErrShape)
			case old == 0:
				wantCheck(t, a, b, k, nil, true, api.OK)
			default:
				wantCheck(t, a, b, k, l.grown(t, old, size), true, api.OK)
			}
		}
	}
}

// F1: one size, of each: the same root, at whatever times, and another one; the proof is empty, or is not.
func TestOneSize(t *testing.T) {
	l := plainLog()
	proofs := [][]int{{0}, {noRoot}, {-1}, {prime}, {math.MinInt}, {0, 0}, make([]int, 8), make([]int, 400), make([]int, 5000)}
	for size := range most + 1 {
		for _, k := range goodKeys {
			a, again := l.head(size, 0, k), l.head(size, maxTime-size, k)
			for _, b := range []api.Head{a, again, l.head(size, 1, k)} {
				for _, empty := range [][]int{nil, {}, proofs[2][:0]} {
					wantCheck(t, a, b, k, empty, true, api.OK)
					wantCheck(t, b, a, k, empty, true, api.OK)
				}
				wantProves(t, a, b, k, false, api.OK)
				wantProves(t, b, a, k, false, api.OK)
				wantFound(t, []api.Head{a, b}, k, 0, 0, api.ErrNone)
				for _, proof := range proofs {
					wantCheck(t, a, b, k, proof, false, api.ErrShape)
				}
			}
			for _, root := range []int{0, 1, l.roots[size] - 1, l.roots[size] + 1, prime - 1, l.roots[(size+1)%most]} {
				b := signByHand(size, root, 0, k)
				wantCheck(t, a, b, k, nil, false, api.OK)
				wantCheck(t, b, again, k, []int{}, false, api.OK)
				wantProves(t, a, b, k, true, api.OK)
				wantProves(t, b, again, k, true, api.OK)
				wantFound(t, []api.Head{again, a, b}, k, 0, 2, api.OK)
				for _, proof := range proofs {
					wantCheck(t, a, b, k, proof, false, api.ErrShape)
				}
				wantCheck(t, a, b, k, []int{root}, false, api.ErrShape)
			}
		}
	}
}

// F1: roots of which but one bit is another one are other roots.
func TestRootsAreWhole(t *testing.T) {
	l := plainLog()
	for _, size := range someSizes {
		for bit := range 31 {
			a, b := l.head(size, 0, key), signByHand(size, l.roots[size]^1<<bit, 0, key)
			wantProves(t, a, b, key, true, api.OK)
			wantCheck(t, a, b, key, nil, false, api.OK)
			wantFound(t, []api.Head{a, b}, key, 0, 1, api.OK)
		}
	}
}

// F1: entries that part at the first, in the midst, at the last of the old ones, and behind these: from there on, or but there.
func TestPartedLogs(t *testing.T) {
	l := plainLog()
	logs := map[int][]log{}
	partedAt := func(at int) []log {
		if logs[at] == nil {
			logs[at] = []log{logOf(func(i int) bool { return i >= at }), logOf(func(i int) bool { return i == at })}
		}
		return logs[at]
	}
	yes, no := 0, 0
	for _, old := range someSizes[1:] {
		for _, size := range someSizes {
			if old > size {
				continue
			}
			for _, at := range []int{0, 1, old / 2, old - 2, old - 1, old, (old + size) / 2, size - 1} {
				if at < 0 || at >= size {
					continue
				}
				for _, other := range partedAt(at) {
					a, b := l.head(old, 3, key), other.head(size, 4, key)
					own, others := l.grown(t, old, size), other.grown(t, old, size)
					wantProves(t, a, b, key, old == size, api.OK)
					wantCheck(t, a, b, key, others, at >= old, api.OK)
					wantCheck(t, a, b, key, own, false, api.OK)
					a, b = other.head(old, 3, key), l.head(size, 4, key)
					wantCheck(t, a, b, key, others, false, api.OK)
					wantCheck(t, a, b, key, own, at >= old, api.OK)
					wantCheck(t, a, other.head(size, 4, key), key, others, true, api.OK)
					if at >= old {
						yes++
					} else {
						no++
					}
				}
			}
		}
	}
	if yes < 200 || no < 200 {
		t.Errorf("too few of one kind: %d, %d", yes, no)
	}
}

// F1: each two sizes of logs that part at the first, in the midst, and at the last of the old ones.
func TestPartedAtEachTwoSizes(t *testing.T) {
	l := plainLog()
	var parted []log
	for at := range most {
		parted = append(parted, logOf(func(i int) bool { return i >= at }))
	}
	for old := 1; old <= most; old++ {
		for size := old; size <= most; size++ {
			a := l.head(old, 0, key)
			for _, at := range []int{0, old / 2, old - 1} {
				other := parted[at]
				wantCheck(t, a, other.head(size, 0, key), key, other.grown(t, old, size), false, api.OK)
			}
			if old < size {
				other := parted[old]
				wantCheck(t, a, other.head(size, 0, key), key, other.grown(t, old, size), true, api.OK)
			}
		}
	}
}

// F1: a has none, and b some: yes, whatever the proof is, and whatever the roots are.
func TestNoneAndSome(t *testing.T) {
	l := plainLog()
	long := slices.Repeat(noSums, 1000)
	for size := 1; size <= most; size++ {
		for _, proof := range [][]int{nil, {}, {0}, {noRoot}, {l.roots[size]}, {-1}, {prime}, {math.MinInt, math.MaxInt}, l.grown(t, 1, size), make([]int, 400), make([]int, 401), long} {
			for _, root := range []int{noRoot, 0, 1, prime - 1, l.roots[size]} {
				a := signByHand(0, root, size, key)
				wantCheck(t, a, l.head(size, 0, key), key, proof, true, api.OK)
				wantCheck(t, a, signByHand(size, 3, maxTime, key), key, proof, true, api.OK)
				wantCheck(t, l.head(size, 0, key), a, key, proof, false, api.ErrShape)
			}
		}
		wantProves(t, l.head(0, 0, key), l.head(size, 0, key), key, false, api.OK)
	}
}

// F1: both have none: they are as many.
func TestBothNone(t *testing.T) {
	for _, roots := range [][2]int{{noRoot, noRoot}, {0, 0}, {prime - 1, prime - 1}, {noRoot, 0}, {0, noRoot}, {1, 2}, {prime - 1, 0}} {
		same := roots[0] == roots[1]
		a, b := signByHand(0, roots[0], 0, key), signByHand(0, roots[1], 5, key)
		wantCheck(t, a, b, key, nil, same, api.OK)
		wantCheck(t, a, b, key, []int{}, same, api.OK)
		wantCheck(t, a, b, key, []int{noRoot}, false, api.ErrShape)
		wantCheck(t, a, b, key, []int{-1}, false, api.ErrShape)
		wantProves(t, a, b, key, !same, api.OK)
	}
}

// F1: a has one more, and far more, than b: ErrShape, whatever the proof and the roots are.
func TestMoreThanB(t *testing.T) {
	l := plainLog()
	for size := range most {
		for _, more := range []int{1, 2, 7, 64, most - size} {
			if size+more > most {
				continue
			}
			a := l.head(size+more, 0, key)
			proofs := [][]int{nil, {}, {0}, {-1}, make([]int, 400)}
			if size > 0 {
				proofs = append(proofs, l.grown(t, size, size+more))
			}
			for _, proof := range proofs {
				wantCheck(t, a, l.head(size, 9, key), key, proof, false, api.ErrShape)
				wantCheck(t, a, signByHand(size, a.Root, 9, key), key, proof, false, api.ErrShape)
			}
			wantProves(t, a, l.head(size, 9, key), key, false, api.OK)
			wantProves(t, a, signByHand(size, a.Root, 9, key), key, false, api.OK)
			wantProves(t, signByHand(size, a.Root, 9, key), a, key, false, api.OK)
		}
	}
}

// F1: proofs of which one sum is another one: no, without an error; or is no sum: ErrRange.
func TestDamagedProofs(t *testing.T) {
	l := plainLog()
	for _, old := range someSizes[1:] {
		for _, size := range someSizes {
			if old >= size {
				continue
			}
			a, b, right := l.head(old, 0, key), l.head(size, 0, key), l.grown(t, old, size)
			for i, sum := range right {
				proof := slices.Clone(right)
				for _, n := range []int{0, 1, prime - 1, (sum + 1) % prime, sum ^ 2, a.Root, b.Root} {
					if proof[i] = n; n != sum {
						wantCheck(t, a, b, key, proof, false, api.OK)
					}
				}
				for _, n := range noSums {
					proof[i] = n
					wantCheck(t, a, b, key, proof, false, api.ErrRange)
					wantCheck(t, a, b, key, append(proof, 0), false, api.ErrRange)
					wantCheck(t, a, b, key, append([]int{0}, proof...), false, api.ErrRange)
				}
				if i > 0 {
					proof[i-1], proof[i] = sum, right[i-1]
					wantCheck(t, a, b, key, proof, sum == right[i-1], api.OK)
				}
			}
			for _, root := range []int{0, prime - 1, b.Root, l.roots[old-1]} {
				wantCheck(t, signByHand(old, root, 0, key), b, key, right, false, api.OK)
			}
			for _, root := range []int{0, prime - 1, a.Root, l.roots[size-1]} {
				wantCheck(t, a, signByHand(size, root, 0, key), key, right, false, api.OK)
			}
		}
	}
}

// F1: proofs that are too short or too long, of sums: ErrShape; of what are none: ErrRange ahead of it.
func TestLengthOfProofs(t *testing.T) {
	l := plainLog()
	for _, old := range someSizes[1:] {
		for _, size := range someSizes {
			if old >= size {
				continue
			}
			a, b, right := l.head(old, 0, key), l.head(size, 0, key), l.grown(t, old, size)
			wrong := [][]int{nil, {}, right[1:], right[:len(right)-1], slices.Concat(right, []int{0}), slices.Concat([]int{0}, right), slices.Concat(right, right), make([]int, 400), make([]int, 401)}
			for _, proof := range wrong {
				wantCheck(t, a, b, key, proof, false, api.ErrShape)
				for _, n := range noSums {
					if len(proof)+1 != len(right) {
						wantCheck(t, a, b, key, slices.Concat(proof, []int{n}), false, api.ErrRange)
						wantCheck(t, a, b, key, slices.Concat([]int{n}, proof), false, api.ErrRange)
					}
				}
			}
			for long := range 20 {
				errno := api.ErrShape
				if long == len(right) {
					errno = api.OK
				}
				wantCheck(t, a, b, key, slices.Repeat([]int{3}, long), false, errno)
			}
		}
	}
}

// badHeads are heads that do not verify by the key, made of one that does; those of numbers out of their bounds are signed nonetheless.
func badHeads(h api.Head) (bad []api.Head) {
	for _, n := range []int{-1, most + 1, 256, 1 << 32, math.MinInt, math.MaxInt} {
		bad = append(bad, signByHand(n, h.Root, h.Time, key))
	}
	for _, n := range noSums {
		bad = append(bad, signByHand(h.Size, n, h.Time, key), api.Head{Size: h.Size, Root: h.Root, Time: h.Time, Sign: n})
	}
	for _, n := range []int{-1, maxTime + 1, 1 << 32, math.MinInt, math.MaxInt} {
		bad = append(bad, signByHand(h.Size, h.Root, n, key))
	}
	for _, other := range []api.Head{signByHand(h.Size, h.Root, h.Time, key+1), signByHand(h.Size, h.Root, h.Time, maxKey), signByHand(h.Size, h.Root, h.Time, -key), signByHand(h.Size, h.Root, h.Time+1, key), signByHand(h.Size+1, h.Root, h.Time, key), signByHand(h.Size, h.Root+1, h.Time, key), {}, {Sign: prime - 1}, {Sign: h.Sign - 1}, {Sign: h.Sign + 1}} {
		h.Sign = other.Sign
		bad = append(bad, h)
	}
	return bad
}

// F1: Verify's errors, of a, of b, of both: those of a first, and in Check ahead of ErrShape.
func TestHeadsRefused(t *testing.T) {
	l := plainLog()
	count := map[api.Errno]int{}
	for _, old := range []int{0, 1, 2, 16, 199, 200} {
		for _, size := range []int{0, 1, 2, 17, 200} {
			a, b := l.head(old, 4, key), l.head(size, 5, key)
			proofs := [][]int{nil, {-1}, {0}, make([]int, 400)}
			if 0 < old && old <= size {
				proofs = append(proofs, l.grown(t, old, size))
			}
			badA, badB := badHeads(a), badHeads(b)
			for _, proof := range proofs {
				for i, bad := range badA {
					errno := verifyByHand(bad, key)
					count[errno]++
					wantCheck(t, bad, b, key, proof, false, errno)
					wantCheck(t, bad, badB[(i*7)%len(badB)], key, proof, false, errno)
				}
				for _, bad := range badB {
					wantCheck(t, a, bad, key, proof, false, verifyByHand(bad, key))
				}
			}
			for _, bad := range badA {
				errno := verifyByHand(bad, key)
				wantProves(t, bad, b, key, false, errno)
				for _, worse := range badB {
					wantProves(t, bad, worse, key, false, errno)
					wantCheck(t, bad, worse, key, nil, false, errno)
				}
			}
			for _, bad := range badB {
				wantProves(t, a, bad, key, false, verifyByHand(bad, key))
			}
		}
	}
	if count[api.OK] != 0 || count[api.ErrRange] < 100 || count[api.ErrSign] < 100 {
		t.Errorf("too few of one kind, or one that is none: %v", count)
	}
}

// F1: whose error is told, written out by hand.
func TestWhoseError(t *testing.T) {
	l := plainLog()
	good, more, lie := l.head(3, 0, key), l.head(5, 0, key), signByHand(3, 9, 0, key)
	wild, stranger := signByHand(3, 9, -1, key), l.head(3, 0, key+1)
	for _, c := range []struct {
		a, b          api.Head
		proof         []int
		proves, check api.Errno
	}{
		{good, lie, nil, api.OK, api.OK},
		{good, lie, []int{-1}, api.OK, api.ErrShape},
		{more, good, []int{-1}, api.OK, api.ErrShape},
		{good, more, []int{-1}, api.OK, api.ErrRange},
		{good, more, nil, api.OK, api.ErrShape},
		{wild, stranger, nil, api.ErrRange, api.ErrRange},
		{stranger, wild, nil, api.ErrSign, api.ErrSign},
		{stranger, lie, []int{-1}, api.ErrSign, api.ErrSign},
		{lie, stranger, []int{-1}, api.ErrSign, api.ErrSign},
		{more, stranger, []int{-1}, api.ErrSign, api.ErrSign},
		{more, wild, nil, api.ErrRange, api.ErrRange},
		{stranger, stranger, nil, api.ErrSign, api.ErrSign},
		{wild, wild, nil, api.ErrRange, api.ErrRange},
		{stranger, more, []int{-1}, api.ErrSign, api.ErrSign},
	} {
		is, err := fork.Check(c.a, c.b, key, c.proof)
		wantError(t, fmt.Sprint("Check of ", c), err, c.check)
		lies, bad := fork.Proves(c.a, c.b, key)
		wantError(t, fmt.Sprint("Proves of ", c), bad, c.proves)
		if is || lies != (c.a == good && c.b == lie) {
			t.Errorf("%v: %v, %v", c, is, lies)
		}
	}
}

// F1: keys: those that are none, and heads signed with them; heads of another one.
func TestKeys(t *testing.T) {
	l := plainLog()
	for _, size := range []int{0, 1, 2, 17, 200} {
		for _, k := range badKeys {
			a, b := l.head(size, 0, k), signByHand(size, 9, 0, k)
			for _, proof := range [][]int{nil, {0}} {
				wantCheck(t, a, b, k, proof, false, api.ErrRange)
				wantCheck(t, l.head(200, 0, k), a, k, proof, false, api.ErrRange)
				wantCheck(t, signByHand(-1, 0, 0, k), a, k, proof, false, api.ErrRange)
			}
			wantProves(t, a, b, k, false, api.ErrRange)
			wantFound(t, []api.Head{a, b}, k, 0, 0, api.ErrRange)
			wantFound(t, []api.Head{a}, k, 0, 0, api.ErrRange)
		}
		for _, k := range goodKeys {
			for _, other := range goodKeys {
				errno, lies := api.ErrSign, false
				if k == other {
					errno, lies = api.OK, true
				}
				a, b := l.head(size, 0, k), signByHand(size, 9, 0, other)
				wantProves(t, a, b, k, lies, errno)
				wantProves(t, b, a, k, lies, errno)
				wantCheck(t, a, b, k, nil, false, errno)
				wantCheck(t, b, a, k, nil, false, errno)
				j := 0
				if lies {
					j = 1
				}
				wantFound(t, []api.Head{a, b}, k, 0, j, errno)
				wantFound(t, []api.Head{b, a}, k, 0, j, errno)
			}
		}
	}
}

// rising is a list of heads of one log, each one of its own size.
func rising(l log, many int) (heads []api.Head) {
	for i := range many {
		heads = append(heads, l.head(i, i*3, key))
	}
	return heads
}

// F1: lists of each length that prove nothing, and of which but one two does, wherever it stands.
func TestFindOneTwo(t *testing.T) {
	l := plainLog()
	for many := range maxHeads + 1 {
		heads := rising(l, many)
		wantFound(t, heads, key, 0, 0, api.ErrNone)
		for j := range many {
			for i := range j {
				list := slices.Clone(heads)
				list[j] = signByHand(list[i].Size, 9, j, key)
				wantFound(t, list, key, i, j, api.OK)
				list[j] = signByHand(list[i].Size, list[i].Root, maxTime, key)
				wantFound(t, list, key, 0, 0, api.ErrNone)
			}
		}
	}
}

// F1: of several twos that of the least j, and then of the least i; every two twos of 20 heads.
func TestFindOfSeveral(t *testing.T) {
	heads := rising(plainLog(), maxHeads)
	notLeast := 0
	for j := range maxHeads {
		for i := range j {
			for later := range maxHeads {
				for earlier := range later {
					list := slices.Clone(heads)
					list[j] = signByHand(list[i].Size, 9, 0, key)
					list[later] = signByHand(list[earlier].Size, 8, 0, key)
					if foundI, _, errno := wantFind(t, list, key); errno == api.OK && foundI > min(i, earlier) {
						notLeast++
					}
				}
			}
		}
	}
	if notLeast < 1000 {
		t.Errorf("the i of the least j is not the least of all but %d times", notLeast)
	}
}

// F1: all lists of up to six heads of these six kinds, in which heads stand twice and more.
func TestShortLists(t *testing.T) {
	l := plainLog()
	kinds := []api.Head{l.head(2, 0, key), l.head(2, 1, key), signByHand(2, 9, 0, key), signByHand(2, 8, 0, key), l.head(3, 0, key), signByHand(3, l.roots[2], 0, key)}
	found := map[[2]int]int{}
	var each func(list []api.Head)
	each = func(list []api.Head) {
		i, j, _ := wantFind(t, list, key)
		found[[2]int{i, j}]++
		if len(list) < 6 {
			for _, h := range kinds {
				each(append(slices.Clone(list), h))
			}
		}
	}
	each(nil)
	for _, two := range [][2]int{{0, 0}, {0, 1}, {0, 2}, {1, 2}, {0, 3}, {1, 3}, {2, 3}, {0, 4}, {1, 4}, {2, 4}} {
		if found[two] == 0 {
			t.Errorf("%v was never found", two)
		}
	}
}

// F1: heads that do not verify: the error of the first of them, wherever it stands, and whatever the others prove.
func TestFindRefuses(t *testing.T) {
	l := plainLog()
	bad := badHeads(l.head(2, 0, key))
	for _, many := range []int{1, 2, 3, 4, 10, 19, 20} {
		good := rising(l, many)
		lying := slices.Repeat([]api.Head{l.head(3, 0, key), signByHand(3, 9, 0, key)}, many)[:many]
		for _, heads := range [][]api.Head{good, lying} {
			for at := range many {
				for n, first := range bad {
					list := slices.Clone(heads)
					list[at] = first
					errno := verifyByHand(first, key)
					wantFound(t, list, key, 0, 0, errno)
					for _, behind := range []int{at + 1, many - 1} {
						if behind > at && behind < many {
							list[behind] = bad[(n*5+1)%len(bad)]
							wantFound(t, list, key, 0, 0, errno)
						}
					}
				}
			}
		}
	}
}

// F1: 20 heads, and more: ErrFull goes ahead of all.
func TestFindMost(t *testing.T) {
	l := plainLog()
	twenty := rising(l, maxHeads)
	wantFound(t, twenty, key, 0, 0, api.ErrNone)
	twenty[19] = signByHand(18, 9, 0, key)
	wantFound(t, twenty, key, 18, 19, api.OK)
	twenty[19] = signByHand(0, 9, 0, key)
	wantFound(t, twenty, key, 0, 19, api.OK)
	for _, many := range []int{21, 22, 40, 64, 256, 276, 1000, 100_000} {
		for _, h := range []api.Head{l.head(3, 0, key), {}, {Size: -1}, l.head(3, 0, key+1)} {
			list := slices.Repeat([]api.Head{h}, many)
			for _, k := range append([]int{key}, badKeys...) {
				wantFound(t, list, k, 0, 0, api.ErrFull)
			}
			list[0], list[1] = l.head(3, 0, key), signByHand(3, 9, 0, key)
			wantFound(t, list, key, 0, 0, api.ErrFull)
			wantFound(t, list[:2], key, 0, 1, api.OK)
		}
	}
}

// F1: of no head there is none to verify, so that the key is not asked for.
func TestFindOfNone(t *testing.T) {
	for _, l := range [][]api.Head{nil, {}, make([]api.Head, 30)[:0]} {
		for _, k := range append(slices.Clone(goodKeys), badKeys...) {
			wantFound(t, l, k, 0, 0, api.ErrNone)
		}
	}
}

// DOC's P2, P4: lists that are handed in are neither written into nor read behind their length; the same is answered again.
func TestListsAreNotTouched(t *testing.T) {
	l := plainLog()
	for many := range maxHeads + 1 {
		for _, lie := range []int{-1, 0, many / 2} {
			room := append(rising(l, many), signByHand(1, 9, 0, key), api.Head{Size: -1}, signByHand(2, 9, 0, key), l.head(4, 0, key+1))
			if lie >= 0 && lie < many {
				room[many-1] = signByHand(lie, 9, 0, key)
			}
			before := slices.Clone(room)
			for range 2 {
				wantFind(t, room[:many], key)
				wantFind(t, room, key)
				wantFind(t, room[:many], 0)
			}
			if !slices.Equal(room, before) {
				t.Fatalf("a list of %d was written into", many)
			}
		}
	}
	for _, old := range someSizes {
		for _, size := range someSizes {
			room := []int{5}
			if 0 < old && old <= size {
				room = l.grown(t, old, size)
			}
			long := len(room)
			room = append(room, -1, 4, prime, 3)
			before := slices.Clone(room)
			for _, b := range []api.Head{l.head(size, 0, key), signByHand(size, 3, 0, key), l.head(size, 0, key+1)} {
				for range 2 {
					for n := range len(room) + 1 {
						a := l.head(old, 0, key)
						is, errno := checkByHand(a, b, key, room[:n])
						told(t, a, b, key, room[:n], is, errno)
					}
				}
			}
			if is, errno := checkByHand(l.head(old, 0, key), l.head(size, 0, key), key, room[:long]); 0 < old && old <= size && (!is || errno != api.OK) {
				t.Fatalf("%d to %d: the test reckons %v, %v", old, size, is, errno)
			}
			if !slices.Equal(room, before) {
				t.Fatalf("a proof of %d to %d was written into", old, size)
			}
		}
	}
}

// DOC's P2: what is answered hangs on no call before: heads of three logs, proofs and lists by turns, some of them damaged.
func TestByTurns(t *testing.T) {
	rnd := rand.New(rand.NewSource(1))
	logs := []log{plainLog(), logOf(func(i int) bool { return i >= 20 }), logOf(func(i int) bool { return i == 3 })}
	pick := func() api.Head {
		h := logs[rnd.Intn(3)].head(rnd.Intn([]int{3, 10, 40, 201}[rnd.Intn(4)]), rnd.Intn(5), key)
		if rnd.Intn(30) == 0 {
			bad := badHeads(h)
			return bad[rnd.Intn(len(bad))]
		}
		return h
	}
	type answer struct {
		is    bool
		errno api.Errno
	}
	checks, finds, proves := map[answer]int{}, map[api.Errno]int{}, map[answer]int{}
	for range 40_000 {
		a, b := pick(), pick()
		var proof []int
		if 0 < a.Size && a.Size <= b.Size && b.Size <= most {
			proof = logs[rnd.Intn(3)].grown(t, a.Size, b.Size)
		}
		switch rnd.Intn(8) {
		case 0:
			proof = append(proof, rnd.Intn(prime+2)-1)
		case 1:
			if len(proof) > 0 {
				proof[rnd.Intn(len(proof))] = []int{-1, prime, 0, 1}[rnd.Intn(4)]
			}
		}
		is, errno := checkByHand(a, b, key, proof)
		checks[answer{is, errno}]++
		wantCheck(t, a, b, key, proof, is, errno)
		is, errno = provesByHand(a, b, key)
		proves[answer{is, errno}]++
		wantProves(t, a, b, key, is, errno)
		list := make([]api.Head, rnd.Intn(rnd.Intn(23)+1))
		for i := range list {
			list[i] = pick()
		}
		_, _, errno = wantFind(t, list, key)
		finds[errno]++
	}
	for _, want := range []answer{{true, api.OK}, {false, api.OK}, {false, api.ErrShape}, {false, api.ErrRange}, {false, api.ErrSign}} {
		if checks[want] < 30 {
			t.Errorf("Check: %v came up %d times: too few", want, checks[want])
		}
	}
	for _, want := range []answer{{true, api.OK}, {false, api.OK}, {false, api.ErrRange}, {false, api.ErrSign}} {
		if proves[want] < 30 {
			t.Errorf("Proves: %v came up %d times: too few", want, proves[want])
		}
	}
	for _, want := range []api.Errno{api.OK, api.ErrNone, api.ErrFull, api.ErrRange, api.ErrSign} {
		if finds[want] < 30 {
			t.Errorf("Find: %v came up %d times: too few", want, finds[want])
		}
	}
}
