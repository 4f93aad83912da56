package peaks_test

import (
	"math"
	"math/bits"
	"slices"
	"strconv"
	"testing"

	"witnessbox/api"
	"witnessbox/mix"
	"witnessbox/peaks"
	"witnessbox/plain"
	"witnessbox/tree"
)

const emptyRoot = 5381

var badSums = []int{-1, -2, -api.Prime, math.MinInt, math.MinInt32, api.Prime, api.Prime + 1, math.MaxUint32, 1 << 32, math.MaxInt}

var badSizes = []int{-1, -2, -200, math.MinInt, math.MinInt + 1, 201, 202, 255, 256, 1 << 40, 1<<62 + 1, math.MaxInt}

var edgeSizes = []int{0, 1, 2, 3, 4, 5, 6, 7, 8, 63, 64, 65, 127, 128, 129, 191, 192, 198, 199, 200}

// wantError also asks that an Errno is told, never OK.
func wantError(t *testing.T, what string, err error, want api.Errno) {
	t.Helper()
	if err == nil || plain.Told(err) != want {
		t.Errorf("%s: error %v, want %v", what, err, want)
	}
}

// someLeafs are the Leafs of "0", "1" and so on.
func someLeafs(n int) []int {
	out := make([]int, n)
	for i := range out {
		out[i] = mix.Leaf(strconv.Itoa(i))
	}
	return out
}

func node(a, b int) int {
	n, err := mix.Node(a, b)
	if err != nil {
		panic(err)
	}
	return n
}

func treeRoot(t *testing.T, leafs []int) int {
	t.Helper()
	n, err := tree.Root(leafs)
	if err != nil {
		t.Fatalf("the tree of %d leafs: %v", len(leafs), err)
	}
	return n
}

// partsOf works the parts out from the leafs: the greatest power of two that is left at a time, from the first one on.
func partsOf(t *testing.T, leafs []int) []int {
	t.Helper()
	var out []int
	for wide := 256; wide > 0; wide /= 2 {
		if len(leafs) >= wide {
			out = append(out, treeRoot(t, leafs[:wide]))
			leafs = leafs[wide:]
		}
	}
	if len(leafs) != 0 {
		t.Fatalf("%d leafs are left", len(leafs))
	}
	return out
}

func appended(t *testing.T, p *peaks.Peaks, leafs []int) {
	t.Helper()
	for i, sum := range leafs {
		if err := p.Append(sum); err != nil {
			t.Fatalf("Append of the %d-th: %v", i, err)
		}
	}
}

func of(t *testing.T, size int, parts []int) *peaks.Peaks {
	t.Helper()
	p, err := peaks.Of(size, parts)
	if err != nil || p == nil {
		t.Fatalf("Of(%d, %v) = %v, %v", size, parts, p, err)
	}
	return p
}

func wantPeaks(t *testing.T, what string, p *peaks.Peaks, size int, parts []int, root int) {
	t.Helper()
	if p.Size() != size || !slices.Equal(p.Parts(), parts) || p.Root() != root {
		t.Errorf("%s: %d %v %d, want %d %v %d", what, p.Size(), p.Parts(), p.Root(), size, parts, root)
	}
}

// wantLeafs holds Peaks against chapter 2's tree of the leafs.
func wantLeafs(t *testing.T, what string, p *peaks.Peaks, leafs []int) {
	t.Helper()
	wantPeaks(t, what, p, len(leafs), partsOf(t, leafs), treeRoot(t, leafs))
}

// sumsAt are n sums, each at or near to an edge.
func sumsAt(n int) []int {
	edges := []int{0, api.Prime - 1, 1, api.Prime - 2}
	out := make([]int, n)
	for i := range out {
		out[i] = edges[i*i%7%len(edges)]
	}
	return out
}

// R1: no leafs, and the first few, by hand.
func TestFew(t *testing.T) {
	p := peaks.New()
	wantPeaks(t, "none", p, 0, nil, emptyRoot)
	two, four := node(10, 11), node(node(10, 11), node(12, 13))
	for i, c := range []struct {
		parts []int
		root  int
	}{
		{[]int{10}, 10},
		{[]int{two}, two},
		{[]int{two, 12}, node(two, 12)},
		{[]int{four}, four},
		{[]int{four, 14}, node(four, 14)},
		{[]int{four, node(14, 15)}, node(four, node(14, 15))},
		{[]int{four, node(14, 15), 16}, node(four, node(node(14, 15), 16))},
		{[]int{node(four, node(node(14, 15), node(16, 17)))}, node(four, node(node(14, 15), node(16, 17)))},
	} {
		appended(t, p, []int{10 + i})
		wantPeaks(t, "few", p, i+1, c.parts, c.root)
	}
}

// R1: roots that another program worked out.
func TestRootKnown(t *testing.T) {
	roots := map[int]int{0: 5381, 1: 92343521, 2: 1225533454, 3: 1985519171, 4: 68062174, 7: 1157279082, 100: 1127140730,
		127: 1148648791, 128: 1148628771, 129: 369251614, 199: 279029768, 200: 277673247}
	p := peaks.New()
	for n, sum := range append(someLeafs(api.MaxLeafs), 0) {
		if want, ok := roots[n]; ok && p.Root() != want {
			t.Errorf("Root of %d leafs = %d, want %d", n, p.Root(), want)
		}
		if n < api.MaxLeafs {
			appended(t, p, []int{sum})
		}
	}
}

// R1: leafs one by one, from none to 200, against chapter 2's tree; one more is refused.
func TestLeafByLeaf(t *testing.T) {
	for what, leafs := range map[string][]int{
		"leafs of texts": someLeafs(api.MaxLeafs),
		"edges":          sumsAt(api.MaxLeafs),
		"all 0":          make([]int, api.MaxLeafs),
		"all greatest":   slices.Repeat([]int{api.Prime - 1}, api.MaxLeafs),
	} {
		p := peaks.New()
		wantLeafs(t, what, p, nil)
		for n := range leafs {
			appended(t, p, leafs[n:n+1])
			wantLeafs(t, what, p, leafs[:n+1])
		}
		for range 3 {
			wantError(t, what+", one more", p.Append(1), api.ErrFull)
			wantLeafs(t, what+", one more", p, leafs)
		}
	}
}

// R1: how many parts there are, at sizes with few and with many bits that are 1.
func TestHowManyParts(t *testing.T) {
	for size, want := range map[int]int{0: 0, 1: 1, 2: 1, 3: 2, 127: 7, 128: 1, 129: 2, 191: 7, 192: 2, 199: 5, 200: 3} {
		p := peaks.New()
		appended(t, p, someLeafs(size))
		if got := len(p.Parts()); got != want {
			t.Errorf("%d leafs have %d Parts, want %d", size, got, want)
		}
	}
}

// R1: a number that is no sum is refused at every size, also when all are there, and nothing is changed by it.
func TestAppendNoSum(t *testing.T) {
	leafs := someLeafs(api.MaxLeafs)
	p := peaks.New()
	for n := range api.MaxLeafs + 1 {
		for _, bad := range badSums {
			wantError(t, "Append of "+strconv.Itoa(bad)+" at "+strconv.Itoa(n), p.Append(bad), api.ErrRange)
		}
		wantLeafs(t, "after what is no sum", p, leafs[:n])
		if n < api.MaxLeafs {
			appended(t, p, leafs[n:n+1])
		}
	}
}

// R1: sums at their edges as the first leaf and the last one that may be.
func TestAppendEdges(t *testing.T) {
	for _, sum := range []int{0, 1, api.Prime - 2, api.Prime - 1} {
		p := peaks.New()
		appended(t, p, []int{sum})
		wantPeaks(t, "one leaf", p, 1, []int{sum}, sum)
		leafs := append(someLeafs(api.MaxLeafs-1), sum)
		q := peaks.New()
		appended(t, q, leafs)
		wantLeafs(t, "the last leaf", q, leafs)
		wantError(t, "one more", q.Append(sum), api.ErrFull)
	}
}

// R1: Peaks begun again at every size go on the same, to the end.
func TestBegunAgain(t *testing.T) {
	leafs := someLeafs(api.MaxLeafs)
	p := peaks.New()
	for n := range api.MaxLeafs + 1 {
		q := of(t, p.Size(), p.Parts())
		wantLeafs(t, "begun again", q, leafs[:n])
		for i := n; i < min(n+5, api.MaxLeafs); i++ {
			appended(t, q, leafs[i:i+1])
			wantLeafs(t, "gone on", q, leafs[:i+1])
		}
		appended(t, q, leafs[q.Size():])
		wantLeafs(t, "at the end", q, leafs)
		wantError(t, "one more", q.Append(0), api.ErrFull)
		wantError(t, "one more that is no sum", q.Append(-1), api.ErrRange)
		wantLeafs(t, "after one more", q, leafs)
		wantLeafs(t, "the first ones", p, leafs[:n])
		if n < api.MaxLeafs {
			appended(t, p, leafs[n:n+1])
		}
	}
}

// R1: Of takes any sums as Parts, also those at the edges.
func TestOfEdges(t *testing.T) {
	for _, none := range [][]int{nil, {}} {
		wantPeaks(t, "none", of(t, 0, none), 0, nil, emptyRoot)
	}
	for _, sum := range []int{0, 1, api.Prime - 1} {
		wantPeaks(t, "1", of(t, 1, []int{sum}), 1, []int{sum}, sum)
		wantPeaks(t, "128", of(t, 128, []int{sum}), 128, []int{sum}, sum)
		wantPeaks(t, "129", of(t, 129, []int{sum, 5}), 129, []int{sum, 5}, node(sum, 5))
		wantPeaks(t, "200", of(t, 200, []int{7, sum, 9}), 200, []int{7, sum, 9}, node(7, node(sum, 9)))
	}
	p := of(t, 3, []int{api.Prime - 1, 0})
	appended(t, p, []int{6})
	four := node(api.Prime-1, node(0, 6))
	wantPeaks(t, "3 and one more", p, 4, []int{four}, four)
	p = of(t, 199, []int{1, 2, 3, 4, 5})
	appended(t, p, []int{6})
	eight := node(3, node(4, node(5, 6)))
	wantPeaks(t, "199 and one more", p, 200, []int{1, 2, eight}, node(1, node(2, eight)))
}

func wantOfError(t *testing.T, what string, size int, parts []int, want api.Errno) {
	t.Helper()
	p, err := peaks.Of(size, parts)
	wantError(t, what+" "+strconv.Itoa(size)+" with "+strconv.Itoa(len(parts)), err, want)
	if p != nil {
		t.Errorf("%s: Peaks beside an error", what)
	}
}

// R1: a size that is none is told, whatever the Parts are.
func TestOfWrongSize(t *testing.T) {
	for _, size := range badSizes {
		many := bits.OnesCount(uint(size))
		for _, parts := range [][]int{nil, {1}, someLeafs(many), someLeafs(many + 1), slices.Repeat([]int{-1}, many), {api.Prime}} {
			wantOfError(t, "a wrong size", size, parts, api.ErrRange)
		}
	}
}

// R1: at every size one Part fewer, or more, or many more; also where they are no sums, which stands behind it.
func TestOfWrongShape(t *testing.T) {
	for size := range api.MaxLeafs + 1 {
		many := bits.OnesCount(uint(size))
		of(t, size, someLeafs(many))
		for _, n := range []int{0, many - 1, many + 1, many + 2, 200, 100_000} {
			if n < 0 || n == many {
				continue
			}
			wantOfError(t, "another number", size, make([]int, n), api.ErrShape)
			wantOfError(t, "another number, no sums", size, slices.Repeat([]int{-1}, n), api.ErrShape)
		}
	}
}

// R1: a Part that is no sum, at every place.
func TestOfNoSum(t *testing.T) {
	for _, size := range edgeSizes {
		for i := range bits.OnesCount(uint(size)) {
			for _, bad := range badSums {
				parts := someLeafs(bits.OnesCount(uint(size)))
				parts[i] = bad
				wantOfError(t, "no sum", size, parts, api.ErrRange)
			}
		}
	}
}

// P2: what Parts hands out is the caller's, each time anew: to write into it, or to append to it, is not to be seen.
func TestPartsAreNotShared(t *testing.T) {
	leafs := someLeafs(api.MaxLeafs)
	p := peaks.New()
	for n := range leafs {
		a, b := p.Parts(), p.Parts()
		keep := slices.Clone(b)
		for i := range a {
			a[i] = -1
		}
		_ = append(a, -2, -3)
		_ = append(a[:0], -4)
		if !slices.Equal(b, keep) {
			t.Fatalf("%d leafs: two lists share memory", n)
		}
		wantLeafs(t, "after writing into Parts", p, leafs[:n])
		appended(t, p, leafs[n:n+1])
		if !slices.Equal(b, keep) {
			t.Fatalf("%d leafs: Append wrote into what was handed out", n)
		}
		wantLeafs(t, "gone on", p, leafs[:n+1])
	}
}

// P2, P4: what Of was handed is neither kept nor written into, and what lies behind its length is not read.
func TestOfKeepsNothing(t *testing.T) {
	leafs := someLeafs(api.MaxLeafs)
	for _, size := range edgeSizes {
		parts := partsOf(t, leafs[:size])
		room := append(slices.Clone(parts), badSums...)
		before := slices.Clone(room)
		p := of(t, size, room[:len(parts)])
		q := of(t, size, room[:len(parts)])
		appended(t, p, leafs[size:])
		p.Root()
		if !slices.Equal(room, before) {
			t.Errorf("%d: what Of was handed was written into", size)
		}
		wantLeafs(t, "another one of the same list", q, leafs[:size])
		for i := range room {
			room[i] = -1
		}
		wantLeafs(t, "after the list was written into", q, leafs[:size])
		appended(t, q, leafs[size:])
		wantLeafs(t, "gone on", q, leafs)
	}
}

// P2: a refused Of leaves its list too.
func TestOfRefusedWritesNothing(t *testing.T) {
	parts := []int{5, -1, api.Prime}
	for _, size := range []int{-1, 0, 1, 7, 200, 201} {
		if _, err := peaks.Of(size, parts); err == nil {
			t.Errorf("Of(%d, %v) has no fault", size, parts)
		}
	}
	if !slices.Equal(parts, []int{5, -1, api.Prime}) {
		t.Error("the list was written into")
	}
}

// P2: Peaks are apart from each other, and asking changes nothing.
func TestApart(t *testing.T) {
	leafs := someLeafs(api.MaxLeafs)
	p, q := peaks.New(), peaks.New()
	for n := range 100 {
		appended(t, p, leafs[n:n+1])
		appended(t, q, leafs[n+100:n+101])
		for range 2 {
			wantLeafs(t, "one", p, leafs[:n+1])
			wantLeafs(t, "the other one", q, leafs[100:n+101])
		}
	}
	wantPeaks(t, "a new one", peaks.New(), 0, nil, emptyRoot)
}
