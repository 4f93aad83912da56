package batch_test

import (
	"fmt"
	"math"
	"math/rand"
	"slices"
	"strconv"
	"testing"

	"witnessbox/api"
	"witnessbox/batch"
	"witnessbox/mix"
	"witnessbox/plain"
	"witnessbox/tree"
)

const (
	mostLeafs  = 200
	mostPlaces = 400
	prime      = 2_147_483_647
)

var (
	noSums   = []int{-1, -2, -prime, math.MinInt32, math.MinInt, prime, prime + 1, math.MaxUint32, 1 << 32, 1<<32 + 5, math.MaxInt}
	noSizes  = []int{0, -1, -2, -200, math.MinInt, 201, 202, 256, 400, 1 << 32, 1<<32 + 5, math.MaxInt}
	allSizes = numbers(1, mostLeafs+1)
)

// numbers from one to below another.
func numbers(from, to int) (l []int) {
	for i := from; i < to; i++ {
		l = append(l, i)
	}
	return l
}

// counted are the Leafs of "0", "1" and so on.
func counted(n int) []int {
	l := make([]int, n)
	for i := range l {
		l[i] = mix.Leaf(strconv.Itoa(i))
	}
	return l
}

// someLeafs are sums from all over what sums may be: among the nodes above Leafs of short texts there are many of one sum.
func someLeafs(n int) []int {
	r := rand.New(rand.NewSource(180))
	l := make([]int, n)
	for i := range l {
		l[i] = r.Intn(prime)
	}
	return l
}

func node(a, b int) int {
	n, err := mix.Node(a, b)
	if err != nil {
		panic(err)
	}
	return n
}

func rootOf(leafs []int) int {
	n, err := tree.Root(leafs)
	if err != nil {
		panic(err)
	}
	return n
}

func splitOf(n int) int {
	k, err := tree.Split(n)
	if err != nil {
		panic(err)
	}
	return k
}

// halves of places, each counted from the first leaf of its half.
func halves(at []int, k int) (first, other []int) {
	for _, i := range at {
		if i < k {
			first = append(first, i)
		} else {
			other = append(other, i-k)
		}
	}
	return first, other
}

// tells is X1 word for word: what a part tells, of the root downwards, the first half ahead of the other.
func tells(leafs, at []int) []int {
	if len(at) == 0 {
		return []int{rootOf(leafs)}
	}
	if len(leafs) == 1 {
		return nil
	}
	k := splitOf(len(leafs))
	first, other := halves(at, k)
	return append(tells(leafs[:k], first), tells(leafs[k:], other)...)
}

// parts is how many parts of a tree of size tell their roots.
func parts(size int, at []int) int {
	if len(at) == 0 {
		return 1
	}
	if size == 1 {
		return 0
	}
	k := splitOf(size)
	first, other := halves(at, k)
	return parts(k, first) + parts(size-k, other)
}

// comes is the root that comes of a proof; each half has its own sums and its own piece of the proof.
func comes(size int, at, sums, proof []int) int {
	if len(at) == 0 {
		return proof[0]
	}
	if size == 1 {
		return sums[0]
	}
	k := splitOf(size)
	first, other := halves(at, k)
	n, cut := len(first), parts(k, first)
	return node(comes(k, first, sums[:n], proof[:cut]), comes(size-k, other, sums[n:], proof[cut:]))
}

func picked(leafs, at []int) (sums []int) {
	for _, i := range at {
		sums = append(sums, leafs[i])
	}
	return sums
}

func allSums(l []int) bool {
	for _, n := range l {
		if n < 0 || n >= prime {
			return false
		}
	}
	return true
}

// placesByHand is what is wrong with places in a tree of size.
func placesByHand(size int, at []int) api.Errno {
	if len(at) > mostPlaces {
		return api.ErrFull
	}
	for _, i := range at {
		if i < 0 || i >= size {
			return api.ErrRange
		}
	}
	for i, n := range at {
		if slices.ContainsFunc(at[:i], func(before int) bool { return before >= n }) {
			return api.ErrClash
		}
	}
	return api.OK
}

func makeByHand(leafs, at []int) ([]int, api.Errno) {
	if len(leafs) > mostLeafs {
		return nil, api.ErrFull
	}
	if !allSums(leafs) {
		return nil, api.ErrRange
	}
	if wrong := placesByHand(len(leafs), at); wrong != api.OK {
		return nil, wrong
	}
	if len(leafs) == 0 {
		return nil, api.ErrShape
	}
	return tells(leafs, at), api.OK
}

func longByHand(size int, at []int) (int, api.Errno) {
	if size < 1 || size > mostLeafs {
		return 0, api.ErrRange
	}
	if wrong := placesByHand(size, at); wrong != api.OK {
		return 0, wrong
	}
	return parts(size, at), api.OK
}

func checkByHand(root, size int, at, sums, proof []int) api.Errno {
	long, wrong := longByHand(size, at)
	if wrong != api.OK {
		return wrong
	}
	if !allSums([]int{root}) || !allSums(sums) || !allSums(proof) {
		return api.ErrRange
	}
	if len(sums) != len(at) || len(proof) != long {
		return api.ErrShape
	}
	if comes(size, at, sums, proof) != root {
		return api.ErrProof
	}
	return api.OK
}

// says tells whether an error is just that one: nil for OK, and never OK itself.
func says(err error, want api.Errno) bool {
	return plain.Told(err) == want && (err == nil) == (want == api.OK)
}

// kept has copies of lists, to ask of later whether they are as they were.
func kept(lists ...[]int) (same func() bool) {
	var copies [][]int
	for _, l := range lists {
		copies = append(copies, slices.Clone(l))
	}
	return func() bool {
		for i, l := range lists {
			if !slices.Equal(l, copies[i]) {
				return false
			}
		}
		return true
	}
}

func wantMake(t *testing.T, leafs, at, want []int, errno api.Errno) {
	t.Helper()
	same := kept(leafs, at)
	got, err := batch.Make(leafs, at)
	if !slices.Equal(got, want) || !says(err, errno) {
		t.Errorf("Make of %d leafs at %v = %v, %v, want %v, %v", len(leafs), brief(at), got, err, want, errno)
	}
	if !same() {
		t.Errorf("Make of %d leafs at %v wrote into what it was handed", len(leafs), brief(at))
	}
}

func wantLong(t *testing.T, size int, at []int, want int, errno api.Errno) {
	t.Helper()
	same := kept(at)
	got, err := batch.Long(size, at)
	if got != want || !says(err, errno) {
		t.Errorf("Long(%d, %v) = %d, %v, want %d, %v", size, brief(at), got, err, want, errno)
	}
	if !same() {
		t.Errorf("Long(%d, %v) wrote into what it was handed", size, brief(at))
	}
}

func wantCheck(t *testing.T, root, size int, at, sums, proof []int, errno api.Errno) {
	t.Helper()
	same := kept(at, sums, proof)
	if err := batch.Check(root, size, at, sums, proof); !says(err, errno) {
		t.Errorf("Check(%d, %d, %v, %v, %v) = %v, want %v", root, size, brief(at), brief(sums), brief(proof), err, errno)
	}
	if !same() {
		t.Errorf("Check(%d, %d, %v, ...) wrote into what it was handed", root, size, brief(at))
	}
}

// wantRefused asks it of all three: places that a tree of these leafs has not.
func wantRefused(t *testing.T, leafs, at []int, errno api.Errno) {
	t.Helper()
	wantMake(t, leafs, at, nil, errno)
	wantLong(t, len(leafs), at, 0, errno)
	for _, root := range []int{5, -1} {
		for _, sums := range [][]int{nil, {5}, {-1}, make([]int, len(at))} {
			wantCheck(t, root, len(leafs), at, sums, nil, errno)
			wantCheck(t, root, len(leafs), at, sums, []int{1, prime, 3}, errno)
		}
	}
}

// wantAll holds Make, Long and Check of places that are right against the reckonings above.
func wantAll(t *testing.T, leafs, at []int) []int {
	t.Helper()
	proof := tells(leafs, at)
	wantMake(t, leafs, at, proof, api.OK)
	wantLong(t, len(leafs), at, len(proof), api.OK)
	wantCheck(t, rootOf(leafs), len(leafs), at, picked(leafs, at), proof, api.OK)
	return proof
}

// brief keeps a long list out of what is told of a fault.
func brief(l []int) string {
	if len(l) > 20 {
		return fmt.Sprint(l[:20]) + " and so on, " + strconv.Itoa(len(l))
	}
	return fmt.Sprint(l)
}

// everySet has all sets of places of a tree of a few leafs.
func everySet(size int) (l [][]int) {
	for bits := range 1 << size {
		var at []int
		for i := range size {
			if bits>>i&1 == 1 {
				at = append(at, i)
			}
		}
		l = append(l, at)
	}
	return l
}

// drawn has places of which so many in a hundred are wanted, by chance.
func drawn(r *rand.Rand, size, hundredth int) (at []int) {
	for i := range size {
		if r.Intn(100) < hundredth {
			at = append(at, i)
		}
	}
	return at
}

// edgeSets are the sets that the chapter's words have edges at, for a tree of any size.
func edgeSets(size int) [][]int {
	sets := [][]int{nil, numbers(0, size), {0}, {size - 1}, numbers(1, size), numbers(0, size-1), {size / 2}}
	if size > 1 {
		k := splitOf(size)
		sets = append(sets, numbers(0, k), numbers(k, size), []int{k - 1}, []int{k}, []int{k - 1, k}, []int{0, size - 1}, numbers(k-1, size), numbers(0, k+1))
	}
	return sets
}

// changed is another sum, of which one byte is another one.
func changed(n int) int {
	if n^1 == prime {
		return n ^ 2
	}
	return n ^ 1
}

// with is the list with another number at a place.
func with(l []int, i, n int) []int {
	l = slices.Clone(l)
	l[i] = n
	return l
}

// X1: proofs that another program worked out.
func TestKnown(t *testing.T) {
	for _, c := range []struct {
		size  int
		at    []int
		root  int
		proof []int
	}{
		{1, []int{}, 92343521, []int{92343521}},
		{1, []int{0}, 92343521, []int{}},
		{2, []int{1}, 1225533454, []int{92343521}},
		{3, []int{0, 2}, 1985519171, []int{92343522}},
		{5, []int{1, 4}, 928637971, []int{92343521, 1814533298}},
		{8, []int{2, 3, 4}, 1170755769, []int{1225533454, 92343526, 845049339}},
		{13, []int{0, 5, 6, 12}, 1503786635, []int{92343522, 1814533298, 92343525, 92343528, 1544259682}},
		{100, []int{0, 63, 64, 99}, 1127140730, []int{92343522, 1814533298, 1893457948, 875410455, 248269175, 1128742434, 622232277, 1099249028, 2131301490,
			1359583853, 1359583856, 1750817375, 1943754623, 2101565746, 898310379, 1219901532, 1359584252}},
		{200, []int{}, 277673247, []int{277673247}},
		{200, []int{0}, 277673247, []int{92343522, 1814533298, 1893457948, 875410455, 248269175, 1425382099, 593487895, 1334345574}},
		{200, []int{199}, 277673247, []int{1148628771, 1393441177, 1013343881, 1575968390, 2011740858}},
		{200, []int{7, 127, 128, 150, 191, 192}, 277673247, []int{68062174, 256049495, 92343527, 875410455, 248269175, 1425382099, 2030446166, 1125602679,
			1417418274, 1348643348, 281800700, 2011739939, 2011739942, 1176068795, 1100498944, 458212015, 1342599578, 1004100409, 2011740327, 53715986,
			1031605950, 2061796102, 1877466752, 92700451, 2011740850, 2011740853, 986968546, 1287615116}},
		{200, []int{127, 128}, 277673247, []int{1011509038, 2030446166, 1125602679, 1417418274, 1348643348, 281800700, 2011739939, 2011739942, 1176068795,
			1100498944, 458212015, 1556972574, 741897940, 1332974815}},
	} {
		leafs := counted(c.size)
		wantMake(t, leafs, c.at, c.proof, api.OK)
		wantLong(t, c.size, c.at, len(c.proof), api.OK)
		wantCheck(t, c.root, c.size, c.at, picked(leafs, c.at), c.proof, api.OK)
	}
}

// X1: the edges by hand.
func TestByHand(t *testing.T) {
	const last = prime - 1
	for _, c := range []struct {
		leafs, at, proof []int
	}{
		{[]int{7}, nil, []int{7}},
		{[]int{7}, []int{0}, nil},
		{[]int{0}, nil, []int{0}},
		{[]int{last}, []int{0}, nil},
		{[]int{0, last}, nil, []int{node(0, last)}},
		{[]int{0, last}, []int{0}, []int{last}},
		{[]int{0, last}, []int{1}, []int{0}},
		{[]int{0, last}, []int{0, 1}, nil},
		{[]int{1, 2, 3}, []int{0, 1}, []int{3}},
		{[]int{1, 2, 3}, []int{2}, []int{node(1, 2)}},
		{[]int{1, 2, 3}, []int{1}, []int{1, 3}},
		{[]int{1, 2, 3, 4}, []int{0, 1}, []int{node(3, 4)}},
		{[]int{1, 2, 3, 4}, []int{2, 3}, []int{node(1, 2)}},
		{[]int{1, 2, 3, 4}, []int{0, 3}, []int{2, 3}},
		{[]int{1, 2, 3, 4, 5, 6, 7}, []int{2, 3, 6}, []int{node(1, 2), node(5, 6)}},
		{[]int{1, 2, 3, 4, 5, 6, 7, 8}, []int{4, 5}, []int{node(node(1, 2), node(3, 4)), node(7, 8)}},
		{[]int{1, 2, 3, 4, 5, 6, 7, 8, 9}, []int{8}, []int{node(node(node(1, 2), node(3, 4)), node(node(5, 6), node(7, 8)))}},
		{[]int{7, 7, 7, 7}, []int{1, 2}, []int{7, 7}},
	} {
		wantMake(t, c.leafs, c.at, c.proof, api.OK)
		wantLong(t, len(c.leafs), c.at, len(c.proof), api.OK)
		wantCheck(t, rootOf(c.leafs), len(c.leafs), c.at, picked(c.leafs, c.at), c.proof, api.OK)
	}
}

// X1: every set of places of the trees of one leaf up to eight.
func TestEverySet(t *testing.T) {
	for size := 1; size <= 8; size++ {
		for _, at := range everySet(size) {
			wantAll(t, someLeafs(size), at)
		}
	}
}

// X1: drawn sets of places of greater trees, of few places, of about half, and of nearly all.
func TestDrawnSets(t *testing.T) {
	r := rand.New(rand.NewSource(181))
	for _, size := range []int{9, 16, 17, 100, 200} {
		leafs := someLeafs(size)
		for _, hundredth := range []int{1, 3, 10, 30, 50, 70, 90, 97, 99} {
			for range 30 {
				wantAll(t, leafs, drawn(r, size, hundredth))
			}
		}
	}
}

// X1: the edges of trees of every size: no place, all, the first, the last, a half alone, and what stands about the split.
func TestEdgesOfEverySize(t *testing.T) {
	all := someLeafs(mostLeafs)
	for _, size := range allSizes {
		leafs := all[:size]
		for _, at := range edgeSets(size) {
			wantAll(t, leafs, at)
		}
		wantMake(t, leafs, nil, []int{rootOf(leafs)}, api.OK)
		wantMake(t, leafs, []int{}, []int{rootOf(leafs)}, api.OK)
		wantMake(t, leafs, numbers(0, size), nil, api.OK)
		wantLong(t, size, nil, 1, api.OK)
		wantLong(t, size, []int{}, 1, api.OK)
		wantLong(t, size, numbers(0, size), 0, api.OK)
		if size > 1 {
			k := splitOf(size)
			wantMake(t, leafs, numbers(0, k), []int{rootOf(leafs[k:])}, api.OK)
			wantMake(t, leafs, numbers(k, size), []int{rootOf(leafs[:k])}, api.OK)
		}
	}
}

// X1: leafs of the least and of the greatest sum, and all of one sum.
func TestEdgeLeafs(t *testing.T) {
	r := rand.New(rand.NewSource(182))
	for _, size := range []int{1, 2, 3, 7, 8, 9, 128, 129, 200} {
		for _, sums := range [][]int{{0}, {prime - 1}, {0, prime - 1, 1, prime - 2, 7}} {
			leafs := make([]int, size)
			for i := range leafs {
				leafs[i] = sums[i%len(sums)]
			}
			for _, at := range append(edgeSets(size), drawn(r, size, 20), drawn(r, size, 60)) {
				wantAll(t, leafs, at)
			}
		}
	}
}

// X1: Make: what is wrong with the leafs is told first, whatever the places are.
func TestMakeWrongLeafs(t *testing.T) {
	sets := [][]int{nil, {0}, {0, 1}, {-1}, {math.MaxInt}, {1, 0}, {0, 0}, make([]int, mostPlaces+1), numbers(0, 401)}
	for _, at := range sets {
		for _, many := range []int{201, 202, 256, 400, 1 << 16} {
			wantMake(t, make([]int, many), at, nil, api.ErrFull)
			wantMake(t, slices.Repeat([]int{-1}, many), at, nil, api.ErrFull)
		}
		for _, size := range []int{1, 2, 3, 8, 129, 200} {
			for _, i := range []int{0, size / 2, size - 1} {
				for _, n := range noSums {
					wantMake(t, with(someLeafs(size), i, n), at, nil, api.ErrRange)
				}
			}
		}
	}
}

// X1: more than 400 places are too many, whatever they are; 400 are not, and are wrong for what they are.
func TestPlacesFull(t *testing.T) {
	for _, size := range []int{1, 2, 5, 128, 200} {
		leafs := someLeafs(size)
		for _, many := range []int{401, 402, 512, 800, 1 << 16} {
			for _, at := range [][]int{make([]int, many), numbers(0, many), numbers(-many, 0), slices.Repeat([]int{math.MaxInt}, many)} {
				wantRefused(t, leafs, at, api.ErrFull)
			}
		}
		for _, many := range []int{201, 256, 399, 400} {
			wantRefused(t, leafs, make([]int, many), api.ErrClash)
			wantRefused(t, leafs, slices.Repeat([]int{size - 1}, many), api.ErrClash)
			wantRefused(t, leafs, numbers(0, many), api.ErrRange)
			wantRefused(t, leafs, numbers(size-many, size), api.ErrRange)
		}
	}
}

// X1: a place that is none is told wherever it stands, and ahead of places that do not rise.
func TestPlacesRange(t *testing.T) {
	for _, size := range []int{1, 2, 3, 4, 8, 9, 128, 129, 199, 200} {
		leafs := someLeafs(size)
		for _, n := range []int{-1, -2, -size, -size - 1, math.MinInt, size, size + 1, size + 200, 1 << 32, 1<<32 + size - 1, math.MaxInt - 1, math.MaxInt} {
			wantRefused(t, leafs, []int{n}, api.ErrRange)
			for _, right := range [][]int{numbers(0, size), {0}, {size - 1}, {size - 1, 0}, {0, 0}, slices.Repeat([]int{size - 1}, 399)} {
				for _, i := range []int{0, len(right) / 2, len(right)} {
					wantRefused(t, leafs, slices.Insert(slices.Clone(right), i, n), api.ErrRange)
				}
			}
			wantRefused(t, leafs, []int{n, n}, api.ErrRange)
		}
	}
}

// X1: the same place twice, and places that fall, wherever it is.
func TestPlacesClash(t *testing.T) {
	for _, size := range []int{1, 2, 3, 4, 8, 9, 128, 129, 199, 200} {
		leafs, right := someLeafs(size), numbers(0, size)
		for i := range size {
			if size > 9 && i > 2 && i < size-3 && i%17 != 0 {
				continue
			}
			wantRefused(t, leafs, []int{i, i}, api.ErrClash)
			wantRefused(t, leafs, slices.Insert(slices.Clone(right), i, i), api.ErrClash)
			if i > 0 {
				wantRefused(t, leafs, []int{i, i - 1}, api.ErrClash)
				wantRefused(t, leafs, []int{i, 0}, api.ErrClash)
				wantRefused(t, leafs, with(with(right, i, i-1), i-1, i), api.ErrClash)
			}
		}
		if size > 2 {
			wantRefused(t, leafs, []int{0, size - 1, 1}, api.ErrClash)
			wantRefused(t, leafs, []int{1, 0, size - 1}, api.ErrClash)
			slices.Reverse(right)
			wantRefused(t, leafs, right, api.ErrClash)
		}
	}
}

// X1: of no leaf nothing is made; what is wrong with its places is told first, and all places are wrong there.
func TestMakeNoLeaf(t *testing.T) {
	for _, leafs := range [][]int{nil, {}} {
		wantMake(t, leafs, nil, nil, api.ErrShape)
		wantMake(t, leafs, []int{}, nil, api.ErrShape)
		for _, at := range [][]int{{0}, {-1}, {1}, {0, 0}, {1, 0}, {math.MaxInt}, make([]int, 400)} {
			wantMake(t, leafs, at, nil, api.ErrRange)
		}
		wantMake(t, leafs, make([]int, 401), nil, api.ErrFull)
	}
}

// X1: a size that is none is told ahead of all else by Long and by Check.
func TestWrongSize(t *testing.T) {
	for _, size := range noSizes {
		for _, at := range [][]int{nil, {0}, {-1}, {size - 1}, {size}, {0, 0}, {1, 0}, make([]int, 400), make([]int, 401), numbers(0, 401)} {
			wantLong(t, size, at, 0, api.ErrRange)
			wantCheck(t, 5, size, at, nil, nil, api.ErrRange)
			wantCheck(t, 5, size, at, nil, []int{5}, api.ErrRange)
			wantCheck(t, 5, size, at, slices.Repeat([]int{5}, len(at)), []int{5}, api.ErrRange)
			wantCheck(t, -1, size, at, []int{-1}, []int{-1}, api.ErrRange)
		}
	}
	for _, size := range []int{1, 200} {
		wantLong(t, size, []int{0, size}, 0, api.ErrRange)
		wantLong(t, size, nil, 1, api.OK)
	}
}

// X1: Check: what is no sum is told wherever it stands, whatever the lengths are, and whatever comes of it.
func TestCheckNoSum(t *testing.T) {
	r := rand.New(rand.NewSource(183))
	for _, size := range []int{1, 2, 3, 8, 9, 129, 200} {
		leafs := someLeafs(size)
		root := rootOf(leafs)
		for _, at := range append(edgeSets(size), drawn(r, size, 40)) {
			sums, proof := picked(leafs, at), tells(leafs, at)
			fewer, more := proof[:max(len(proof)-1, 0)], append(slices.Clone(proof), 5)
			for _, n := range noSums {
				for _, given := range [][]int{proof, fewer, more, nil} {
					for _, beside := range [][]int{sums, nil, append(slices.Clone(sums), 5)} {
						wantCheck(t, n, size, at, beside, given, api.ErrRange)
						wantNoSum(t, root, size, at, beside, given, n)
					}
				}
			}
		}
	}
	many := make([]int, 1<<16)
	many[len(many)-1] = prime
	wantCheck(t, 1, 5, []int{2}, []int{1}, many, api.ErrRange)
	wantCheck(t, 1, 5, []int{2}, many, []int{1, 2, 3}, api.ErrRange)
}

// wantNoSum lays what is no sum first, in the middle and last in either list.
func wantNoSum(t *testing.T, root, size int, at, sums, proof []int, n int) {
	t.Helper()
	for _, i := range []int{0, len(sums) / 2, len(sums) - 1} {
		if len(sums) > 0 {
			wantCheck(t, root, size, at, with(sums, i, n), proof, api.ErrRange)
			wantCheck(t, changed(root), size, at, with(sums, i, n), proof, api.ErrRange)
		}
	}
	for _, i := range []int{0, len(proof) / 2, len(proof) - 1} {
		if len(proof) > 0 {
			wantCheck(t, root, size, at, sums, with(proof, i, n), api.ErrRange)
			wantCheck(t, changed(root), size, at, sums, with(proof, i, n), api.ErrRange)
		}
	}
}

// X1: Check: not as many sums as places, or a proof that is not as long, also where another root would come of it.
func TestCheckShape(t *testing.T) {
	r := rand.New(rand.NewSource(184))
	resized := func(l []int, n int) []int { return append(slices.Clone(l), slices.Repeat([]int{5}, 1<<10)...)[:n] }
	for _, size := range []int{1, 2, 3, 4, 5, 8, 9, 16, 17, 100, 200} {
		leafs := someLeafs(size)
		for _, at := range append(edgeSets(size), drawn(r, size, 10), drawn(r, size, 50)) {
			sums, proof := picked(leafs, at), tells(leafs, at)
			for _, root := range []int{rootOf(leafs), changed(rootOf(leafs))} {
				for _, n := range []int{0, len(sums) - 1, len(sums) + 1, len(sums) + 2, 401} {
					if n >= 0 && n != len(sums) {
						wantCheck(t, root, size, at, resized(sums, n), proof, api.ErrShape)
						wantCheck(t, root, size, at, resized(sums, n), resized(proof, len(proof)+1), api.ErrShape)
					}
				}
				for _, n := range []int{0, len(proof) - 1, len(proof) + 1, len(proof) + 2, 401} {
					if n >= 0 && n != len(proof) {
						wantCheck(t, root, size, at, sums, resized(proof, n), api.ErrShape)
					}
				}
				if len(sums) > 0 {
					wantCheck(t, root, size, at, sums[1:], append([]int{sums[0]}, proof...), api.ErrShape)
				}
				if len(proof) > 0 {
					wantCheck(t, root, size, at, append(slices.Clone(sums), proof[0]), proof[1:], api.ErrShape)
				}
			}
		}
	}
}

// X1: Check: another root, and a sum or one of the proof that is another one.
func TestCheckChanged(t *testing.T) {
	r := rand.New(rand.NewSource(185))
	for _, size := range []int{1, 2, 3, 4, 5, 6, 7, 8, 9, 16, 17, 100, 200} {
		leafs := someLeafs(size)
		root := rootOf(leafs)
		for _, at := range append(edgeSets(size), drawn(r, size, 10), drawn(r, size, 50), drawn(r, size, 80)) {
			sums, proof := picked(leafs, at), tells(leafs, at)
			for _, other := range []int{changed(root), 0, prime - 1, 5381} {
				wantCheck(t, other, size, at, sums, proof, api.ErrProof)
			}
			for i := range sums {
				wantCheck(t, root, size, at, with(sums, i, changed(sums[i])), proof, api.ErrProof)
			}
			for i := range proof {
				wantCheck(t, root, size, at, sums, with(proof, i, changed(proof[i])), api.ErrProof)
			}
			for _, n := range []int{0, prime - 1} {
				if len(sums) > 0 {
					wantCheck(t, root, size, at, with(sums, len(sums)-1, n), proof, api.ErrProof)
				}
				if len(proof) > 0 {
					wantCheck(t, root, size, at, sums, with(proof, len(proof)-1, n), api.ErrProof)
				}
			}
		}
	}
}

// X1: Check: two of the proof, or two of the sums, that changed places.
func TestCheckSwapped(t *testing.T) {
	swapped := func(l []int, i, j int) []int { return with(with(l, i, l[j]), j, l[i]) }
	r := rand.New(rand.NewSource(186))
	for _, size := range []int{2, 3, 4, 5, 6, 7, 8, 9, 17, 100, 200} {
		leafs := someLeafs(size)
		root := rootOf(leafs)
		for _, at := range append(edgeSets(size), drawn(r, size, 10), drawn(r, size, 50)) {
			sums, proof := picked(leafs, at), tells(leafs, at)
			for j := 1; j < len(proof); j++ {
				wantCheck(t, root, size, at, sums, swapped(proof, j-1, j), api.ErrProof)
				wantCheck(t, root, size, at, sums, swapped(proof, 0, j), api.ErrProof)
			}
			for j := 1; j < len(sums); j++ {
				wantCheck(t, root, size, at, swapped(sums, j-1, j), proof, api.ErrProof)
				wantCheck(t, root, size, at, swapped(sums, 0, j), proof, api.ErrProof)
			}
		}
	}
}

// X1: Check: other places, or a tree of another size: by the shape, or by the root that comes of it.
func TestCheckElsewhere(t *testing.T) {
	seen := map[api.Errno]int{}
	for size := 1; size <= 6; size++ {
		leafs := someLeafs(size)
		for _, at := range everySet(size) {
			sums, proof := picked(leafs, at), tells(leafs, at)
			for as := 1; as <= 7; as++ {
				for _, other := range everySet(as) {
					errno := checkByHand(rootOf(leafs), as, other, sums, proof)
					if as == size && !slices.Equal(at, other) && errno == api.OK {
						t.Fatalf("by hand %v of %d is proved as %v", at, size, other)
					}
					seen[errno]++
					wantCheck(t, rootOf(leafs), as, other, sums, proof, errno)
				}
			}
		}
	}
	leafs := someLeafs(mostLeafs)
	for i := range mostLeafs {
		other := (i + 1) % mostLeafs
		errno := api.ErrProof
		if parts(mostLeafs, []int{i}) != parts(mostLeafs, []int{other}) {
			errno = api.ErrShape
		}
		wantCheck(t, rootOf(leafs), mostLeafs, []int{other}, []int{leafs[i]}, tells(leafs, []int{i}), errno)
	}
	for _, errno := range []api.Errno{api.OK, api.ErrShape, api.ErrProof} {
		if seen[errno] == 0 {
			t.Errorf("none of the checks is told %v", errno)
		}
	}
}

// X1: of several things that are wrong at once the first is told.
func TestOrder(t *testing.T) {
	right := someLeafs(5)
	places := [][]int{nil, {0}, {1, 4}, {4, 1}, {2, 2}, {5}, {-1, 0}, {3, 3, 5}, {math.MaxInt, 0}, make([]int, 400), make([]int, 401), numbers(0, 400), numbers(0, 401)}
	told := map[string]int{}
	for _, at := range places {
		for _, leafs := range [][]int{nil, right, right[:1], with(right, 3, -1), someLeafs(200), someLeafs(201), with(someLeafs(201), 0, -1)} {
			want, errno := makeByHand(leafs, at)
			told["Make "+errno.Error()]++
			wantMake(t, leafs, at, want, errno)
		}
		for _, size := range []int{-1, 0, 1, 5, 200, 201} {
			want, errno := longByHand(size, at)
			told["Long "+errno.Error()]++
			wantLong(t, size, at, want, errno)
			for _, root := range []int{rootOf(right), right[0], 5, -1, prime} {
				for _, sums := range [][]int{nil, {right[0]}, {right[1], right[4]}, {-1}, {5, prime}} {
					for _, proof := range [][]int{nil, {rootOf(right)}, tells(right, []int{0}), tells(right, []int{1, 4}), {5}, {-1}, {1, 2, prime}} {
						errno := checkByHand(root, size, at, sums, proof)
						told["Check "+errno.Error()]++
						wantCheck(t, root, size, at, sums, proof, errno)
					}
				}
			}
		}
	}
	for _, what := range []string{"Make OK", "Make ErrFull", "Make ErrRange", "Make ErrClash", "Make ErrShape", "Long OK", "Long ErrRange", "Long ErrFull",
		"Long ErrClash", "Check OK", "Check ErrRange", "Check ErrFull", "Check ErrClash", "Check ErrShape", "Check ErrProof"} {
		if told[what] == 0 {
			t.Errorf("none of the calls is told %s", what)
		}
	}
}

// X1: calls of chance, of which each has some of what it needs.
func TestChance(t *testing.T) {
	r := rand.New(rand.NewSource(187))
	seen := map[api.Errno]int{}
	for range 20_000 {
		size := 1 + r.Intn(40)
		leafs := someLeafs(size)
		at := drawn(r, size, r.Intn(101))
		sums, proof := picked(leafs, at), tells(leafs, at)
		root := rootOf(leafs)
		for range r.Intn(3) {
			switch l := []*[]int{&at, &sums, &proof}[r.Intn(3)]; r.Intn(6) {
			case 0:
				size += r.Intn(3) - 1
			case 1:
				root = r.Intn(prime + 1)
			case 2:
				*l = append(*l, r.Intn(40))
			case 3:
				*l = (*l)[:r.Intn(len(*l)+1)]
			default:
				if len(*l) > 0 {
					*l = with(*l, r.Intn(len(*l)), r.Intn(45)-2)
				}
			}
		}
		want, errno := makeByHand(leafs, at)
		wantMake(t, leafs, at, want, errno)
		long, errno := longByHand(size, at)
		wantLong(t, size, at, long, errno)
		errno = checkByHand(root, size, at, sums, proof)
		seen[errno]++
		wantCheck(t, root, size, at, sums, proof, errno)
	}
	for _, errno := range []api.Errno{api.OK, api.ErrRange, api.ErrClash, api.ErrShape, api.ErrProof} {
		if seen[errno] == 0 {
			t.Errorf("none of the checks is told %v", errno)
		}
	}
}

// DOC's P2, P4: what lies behind the length of a list that is handed in is neither read nor written.
func TestBehindTheLength(t *testing.T) {
	for _, size := range []int{1, 2, 3, 8, 9, 129, 200} {
		leafs := append(someLeafs(size), noSums...)
		for _, set := range edgeSets(size) {
			at := append(slices.Clone(set), 0, -1, 401, math.MaxInt)
			proof := append(tells(leafs[:size], set), noSums...)
			sums := append(picked(leafs, set), noSums...)
			same := kept(leafs, at, sums, proof)
			root, n, long := rootOf(leafs[:size]), len(set), len(proof)-len(noSums)
			wantMake(t, leafs[:size], at[:n], proof[:long], api.OK)
			wantLong(t, size, at[:n], long, api.OK)
			wantCheck(t, root, size, at[:n], sums[:n], proof[:long], api.OK)
			wantCheck(t, changed(root), size, at[:n], sums[:n], proof[:long], api.ErrProof)
			if n > 0 {
				wantCheck(t, root, size, at[:n], sums[:n-1], proof[:long], api.ErrShape)
			}
			if long > 0 {
				wantCheck(t, root, size, at[:n], sums[:n], proof[:long-1], api.ErrShape)
			}
			if !same() {
				t.Fatalf("of %d at %v: behind a length something was written", size, brief(set))
			}
		}
	}
}

// DOC's P2: a proof is the caller's own: it shares nothing with the leafs, with the places, or with another proof.
func TestOwn(t *testing.T) {
	for _, size := range []int{1, 2, 3, 8, 9, 129, 200} {
		for _, set := range edgeSets(size) {
			leafs, at := someLeafs(size), slices.Clone(set)
			want := tells(leafs, at)
			same := kept(leafs, at)
			first, _ := batch.Make(leafs, at)
			second, _ := batch.Make(leafs, at)
			behind := first[:cap(first)]
			for i := range behind {
				behind[i] = -7
			}
			if !slices.Equal(second, want) || !same() {
				t.Fatalf("of %d at %v: what is handed out is shared", size, brief(set))
			}
			clear(leafs)
			clear(at)
			if !slices.Equal(second, want) {
				t.Fatalf("of %d at %v: a proof is changed with what it was made of", size, brief(set))
			}
		}
	}
}

// DOC's P2: an answer hangs on what is handed in alone: calls by turns, among them those that are refused.
func TestByTurns(t *testing.T) {
	first, second := someLeafs(13), []int{1, 2, 3}
	for range 3 {
		wantAll(t, first, []int{0, 5, 12})
		wantRefused(t, first, []int{13}, api.ErrRange)
		wantAll(t, second, []int{1})
		wantRefused(t, second, []int{1, 1}, api.ErrClash)
		wantMake(t, nil, nil, nil, api.ErrShape)
	}
	for i := range second {
		second[i] = 9
		wantAll(t, second, []int{1})
	}
}
