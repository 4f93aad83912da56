package tree_test

import (
	"encoding/binary"
	"math"
	"slices"
	"strconv"
	"strings"
	"testing"

	"witnessbox/api"
	"witnessbox/mix"
	"witnessbox/plain"
	"witnessbox/tree"
)

const emptyRoot = 5381

var badSums = []int{-1, -api.Prime, math.MinInt, api.Prime, api.Prime + 1, math.MaxUint32, 1 << 32, math.MaxInt}

var sizes = []int{0, 1, 2, 3, 4, 5, 6, 7, 8, 9, 15, 16, 17, 31, 32, 33, 63, 64, 65, 100, 127, 128, 129, 199, 200}

// wantError also asks that an Errno is told, never OK.
func wantError(t *testing.T, what string, err error, want api.Errno) {
	t.Helper()
	if err == nil || plain.Told(err) != want {
		t.Errorf("%s: error %v, want %v", what, err, want)
	}
}

// someLeafs are the Leafs of "0", "1" and so on.
func someLeafs(n int) []int {
	out := make([]int, n)
	for i := range out {
		out[i] = mix.Leaf(strconv.Itoa(i))
	}
	return out
}

func node(a, b int) int {
	n, err := mix.Node(a, b)
	if err != nil {
		panic(err)
	}
	return n
}

// stackRoot works the root out leaf by leaf, by full parts of as many leafs that become one, without any split.
func stackRoot(leafs []int) int {
	type part struct{ sum, size int }
	var parts []part
	merge := func() {
		x, y := parts[len(parts)-2], parts[len(parts)-1]
		parts = append(parts[:len(parts)-2], part{node(x.sum, y.sum), x.size + y.size})
	}
	for _, sum := range leafs {
		parts = append(parts, part{sum, 1})
		for len(parts) > 1 && parts[len(parts)-2].size == parts[len(parts)-1].size {
			merge()
		}
	}
	for len(parts) > 1 {
		merge()
	}
	if len(parts) == 0 {
		return emptyRoot
	}
	return parts[0].sum
}

// T1: roots that another program worked out.
func TestRootKnown(t *testing.T) {
	roots := []int{5381, 92343521, 1225533454, 1985519171, 68062174, 928637971, 950053316, 1157279082, 1170755769, 1379177880,
		1486428799, 1483418431, 1553816334, 1406502328, 1406530307, 1000714524, 1011621454, 1011509038, 1250554981,
		1127140730, 1148648791, 1148628771, 369251614, 279029768, 277673247}
	for i, n := range sizes {
		if got, err := tree.Root(someLeafs(n)); got != roots[i] || err != nil {
			t.Errorf("Root of %d leafs = %d, %v, want %d", n, got, err, roots[i])
		}
	}
}

// T1: none, one, two and three leafs by hand.
func TestRootOfFew(t *testing.T) {
	for _, c := range []struct {
		leafs []int
		want  int
	}{
		{nil, emptyRoot},
		{[]int{}, emptyRoot},
		{[]int{0}, 0},
		{[]int{api.Prime - 1}, api.Prime - 1},
		{[]int{7, 7}, node(7, 7)},
		{[]int{0, api.Prime - 1}, node(0, api.Prime-1)},
		{[]int{api.Prime - 1, 0}, node(api.Prime-1, 0)},
		{[]int{1, 2, 3}, node(node(1, 2), 3)},
		{[]int{1, 2, 3, 4}, node(node(1, 2), node(3, 4))},
		{[]int{1, 2, 3, 4, 5}, node(node(node(1, 2), node(3, 4)), 5)},
		{[]int{1, 2, 3, 4, 5, 6, 7}, node(node(node(1, 2), node(3, 4)), node(node(5, 6), 7))},
	} {
		if got, err := tree.Root(c.leafs); got != c.want || err != nil {
			t.Errorf("Root(%v) = %d, %v, want %d", c.leafs, got, err, c.want)
		}
	}
}

// T1: trees of every size that may be, against another way to the root.
func TestRootOfEverySize(t *testing.T) {
	for n := range api.MaxLeafs + 1 {
		leafs := someLeafs(n)
		if err := tree.Check(leafs); err != nil {
			t.Errorf("Check of %d leafs: %v", n, err)
		}
		if got, err := tree.Root(leafs); got != stackRoot(leafs) || err != nil {
			t.Errorf("Root of %d leafs = %d, %v, want %d", n, got, err, stackRoot(leafs))
		}
	}
}

// T1: another order, or another leaf, is another root.
func TestRootHangsOnEveryLeaf(t *testing.T) {
	for _, n := range []int{1, 2, 3, 8, 13, 200} {
		whole, _ := tree.Root(someLeafs(n))
		for i := range n {
			leafs := someLeafs(n)
			leafs[i]++
			if got, err := tree.Root(leafs); got == whole || err != nil {
				t.Errorf("%d leafs, another one at %d: %d, %v", n, i, got, err)
			}
		}
	}
}

// T1: Check and, by it, Root and At: how many there are comes ahead of what they are.
func TestWrongLeafs(t *testing.T) {
	all := func(leafs []int, what string, want api.Errno) {
		t.Helper()
		wantError(t, "Check "+what, tree.Check(leafs), want)
		n, err := tree.Root(leafs)
		wantError(t, "Root "+what, err, want)
		m, bad := tree.At(leafs, 0, 1)
		wantError(t, "At "+what, bad, want)
		if n != 0 || m != 0 {
			t.Errorf("%s: results %d and %d beside an error", what, n, m)
		}
	}
	all(someLeafs(api.MaxLeafs+1), "201", api.ErrFull)
	all(make([]int, 100_000), "many", api.ErrFull)
	for _, bad := range badSums {
		for _, n := range []int{1, 2, 3, 200} {
			for _, i := range []int{0, n / 2, n - 1} {
				leafs := someLeafs(n)
				leafs[i] = bad
				all(leafs, strconv.Itoa(bad)+" at "+strconv.Itoa(i), api.ErrRange)
			}
		}
		all(append(someLeafs(api.MaxLeafs), bad), "201 and a bad one", api.ErrFull)
		all(append([]int{bad}, someLeafs(api.MaxLeafs)...), "a bad one and 201", api.ErrFull)
	}
	for _, good := range []int{0, 1, api.Prime - 1} {
		if err := tree.Check(slices.Repeat([]int{good}, api.MaxLeafs)); err != nil {
			t.Errorf("Check of 200 times %d: %v", good, err)
		}
	}
	if tree.Check(nil) != nil || tree.Check([]int{}) != nil {
		t.Error("Check of no leafs has a fault")
	}
}

// T1: Split: the greatest power of two that is below.
func TestSplit(t *testing.T) {
	for n := 2; n <= api.MaxLeafs; n++ {
		want := 1
		for want*2 < n {
			want *= 2
		}
		if got, err := tree.Split(n); got != want || err != nil {
			t.Errorf("Split(%d) = %d, %v, want %d", n, got, err, want)
		}
	}
	for n, want := range map[int]int{2: 1, 3: 2, 4: 2, 5: 4, 128: 64, 129: 128, 200: 128} {
		if got, err := tree.Split(n); got != want || err != nil {
			t.Errorf("Split(%d) = %d, %v, want %d", n, got, err, want)
		}
	}
	for _, n := range []int{1, 0, -1, -2, -200, math.MinInt, 201, 256, 1 << 40, math.MaxInt} {
		got, err := tree.Split(n)
		wantError(t, "Split "+strconv.Itoa(n), err, api.ErrRange)
		if got != 0 {
			t.Errorf("Split(%d) = %d beside an error", n, got)
		}
	}
}

// T1: At every part of some trees; of from equal to to it is the root of none.
func TestAt(t *testing.T) {
	for _, n := range []int{0, 1, 2, 3, 7, 8, 20, 33, 200} {
		leafs := someLeafs(n)
		for from := 0; from <= n; from++ {
			for to := from; to <= n; to++ {
				if got, err := tree.At(leafs, from, to); got != stackRoot(leafs[from:to]) || err != nil {
					t.Fatalf("At %d..%d of %d = %d, %v", from, to, n, got, err)
				}
			}
		}
	}
	if got, err := tree.At(someLeafs(3), 3, 3); got != emptyRoot || err != nil {
		t.Errorf("At the end: %d, %v", got, err)
	}
}

// T1: At of a part that is none; what Check says comes ahead of it.
func TestAtWrong(t *testing.T) {
	for _, n := range []int{0, 1, 5, 200} {
		for _, c := range [][2]int{{0, n + 1}, {n, n + 1}, {n + 1, n + 1}, {-1, 0}, {-1, n}, {-1, -1}, {1, 0}, {n + 1, n}, {0, -1},
			{math.MinInt, math.MaxInt}, {0, math.MaxInt}, {math.MinInt, 0}, {math.MaxInt, math.MinInt}, {math.MaxInt, math.MaxInt}, {math.MinInt, math.MinInt}} {
			what := strconv.Itoa(c[0]) + ".." + strconv.Itoa(c[1]) + " of " + strconv.Itoa(n)
			got, err := tree.At(someLeafs(n), c[0], c[1])
			wantError(t, what, err, api.ErrRange)
			if got != 0 {
				t.Errorf("%s: %d beside an error", what, got)
			}
		}
	}
	_, err := tree.At(someLeafs(201), -1, 500)
	wantError(t, "201 leafs and a wrong part", err, api.ErrFull)
	_, err = tree.At([]int{1, 2, -1}, 0, 2)
	wantError(t, "a leaf that is none, outside of the part", err, api.ErrRange)
}

// P2, P4: what is handed in stays, and what lies behind a list's length is not read.
func TestLeafsStay(t *testing.T) {
	room := append(someLeafs(13), badSums...)
	before := slices.Clone(room)
	leafs := room[:13]
	if err := tree.Check(leafs); err != nil {
		t.Errorf("Check: %v", err)
	}
	for range 2 {
		if got, err := tree.Root(leafs); got != stackRoot(before[:13]) || err != nil {
			t.Errorf("Root: %d, %v", got, err)
		}
	}
	if got, err := tree.At(leafs, 3, 13); got != stackRoot(before[3:13]) || err != nil {
		t.Errorf("At: %d, %v", got, err)
	}
	if _, err := tree.At(leafs, 3, 14); plain.Told(err) != api.ErrRange {
		t.Errorf("At beyond the length: %v", err)
	}
	if !slices.Equal(room, before) {
		t.Error("the leafs were written into")
	}
}

// spread is a text of eight bytes that look like any: texts in a row have sums in a row too, and seldom one twice.
func spread(i int) string {
	n := uint64(i+1) * 0x9E3779B97F4A7C15
	n = (n ^ n>>30) * 0xBF58476D1CE4E5B9
	n = (n ^ n>>27) * 0x94D049BB133111EB
	return string(binary.BigEndian.AppendUint64(nil, n^n>>31))
}

func leafsOf(data []string) []int {
	var out []int
	for _, text := range data {
		out = append(out, mix.Leaf(text))
	}
	return out
}

// search goes through lists of data until two of them have one root.
func search(t *testing.T, build func(i int) []string) (a, b []string) {
	t.Helper()
	seen := map[int]int{}
	for i := range 5_000_000 {
		l := build(i)
		sum := stackRoot(leafsOf(l))
		if j, ok := seen[sum]; ok {
			return build(j), l
		}
		seen[sum] = i
	}
	t.Fatal("no two lists of one root")
	return nil, nil
}

// pairOf has two lists of n data, of one root, that have nothing else in common.
func pairOf(t *testing.T, n int) (a, b []string) {
	t.Helper()
	a, b = search(t, func(i int) []string {
		var l []string
		for j := range n {
			l = append(l, spread(i*n+j))
		}
		return l
	})
	for i := range n {
		if n > 1 && mix.Leaf(a[i]) == mix.Leaf(b[i]) {
			t.Fatal("the search gave leafs of one sum")
		}
	}
	return a, b
}

// topBytes are the bytes of the root's node.
func topBytes(data []string, k int) string {
	text, err := mix.NodeBytes(stackRoot(leafsOf(data[:k])), stackRoot(leafsOf(data[k:])))
	if err != nil {
		panic(err)
	}
	return text
}

func wantClash(t *testing.T, what string, a, b []string, want api.Clash) {
	t.Helper()
	oldA, oldB := slices.Clone(a), slices.Clone(b)
	got, err := tree.Collide(a, b)
	if got != want || err != nil {
		t.Errorf("%s: %q, %v, want %q", what, got, err, want)
	}
	if got.A == got.B || mix.Sum(got.A) != mix.Sum(got.B) {
		t.Errorf("%s: %q are no two texts of one sum", what, got)
	}
	if !slices.Equal(a, oldA) || !slices.Equal(b, oldB) {
		t.Errorf("%s: the data was written into", what)
	}
}

func plainData(n int) []string {
	out := make([]string, n)
	for i := range out {
		out[i] = strconv.Itoa(i)
	}
	return out
}

// with lays a part into n data, from a place on.
func with(n, at int, part []string) []string {
	out := plainData(n)
	copy(out[at:], part)
	return out
}

// T2: leafs of one sum, at every place of trees of several sizes.
func TestCollideInLeafs(t *testing.T) {
	a, b := pairOf(t, 1)
	want := api.Clash{A: "\x00" + a[0], B: "\x00" + b[0]}
	for _, n := range sizes {
		for at := range n {
			what := "leaf " + strconv.Itoa(at) + " of " + strconv.Itoa(n)
			wantClash(t, what, with(n, at, a), with(n, at, b), want)
			wantClash(t, what+", the other way round", with(n, at, b), with(n, at, a), api.Clash{A: want.B, B: want.A})
		}
	}
}

// T2: nodes of one sum, of two and of four leafs, wherever such a node stands, and of three at the end.
func TestCollideInNodes(t *testing.T) {
	for _, c := range []struct{ wide, k, step int }{{2, 1, 2}, {4, 2, 4}, {3, 2, 4}, {7, 4, 8}} {
		a, b := pairOf(t, c.wide)
		want := api.Clash{A: topBytes(a, c.k), B: topBytes(b, c.k)}
		for n := c.wide; n <= 67; n++ {
			for at := 0; at+c.wide <= n; at += c.step {
				if c.wide < c.step && at+c.wide != n {
					continue
				}
				what := strconv.Itoa(c.wide) + " leafs at " + strconv.Itoa(at) + " of " + strconv.Itoa(n)
				wantClash(t, what, with(n, at, a), with(n, at, b), want)
				wantClash(t, what+", the other way round", with(n, at, b), with(n, at, a), api.Clash{A: want.B, B: want.A})
			}
		}
	}
}

// T2: of several that there are, the one that comes from the root on downwards, the first half ahead.
func TestCollideFirst(t *testing.T) {
	leafA, leafB := pairOf(t, 1)
	nodeA, nodeB := pairOf(t, 2)
	inLeaf := api.Clash{A: "\x00" + leafA[0], B: "\x00" + leafB[0]}
	inNode := api.Clash{A: topBytes(nodeA, 1), B: topBytes(nodeB, 1)}
	wantClash(t, "a leaf, and a node in the other half", slices.Concat(leafA, []string{"x"}, nodeA), slices.Concat(leafB, []string{"x"}, nodeB), inLeaf)
	wantClash(t, "a node, and leafs in the other half", slices.Concat(nodeA, leafA, leafA), slices.Concat(nodeB, leafB, leafB), inNode)
	wantClash(t, "two leafs", []string{leafA[0], leafB[0]}, []string{leafB[0], leafA[0]}, inLeaf)
	wantClash(t, "two leafs, the first the same", []string{"x", leafB[0], leafA[0]}, []string{"x", leafA[0], leafB[0]}, api.Clash{A: inLeaf.B, B: inLeaf.A})

	// The leafs have one sum at the first place, but the nodes above them differ, and stand ahead of them.
	a, b := search(t, func(i int) []string { return []string{leafA[0], spread(2 * i), spread(2*i + 1)} })
	b[0] = leafB[0]
	wantClash(t, "a node above a leaf", a, b, api.Clash{A: topBytes(a, 2), B: topBytes(b, 2)})
}

// T2: what is wrong with the lists, by pairs of faults too: the first one named is told.
func TestCollideWrong(t *testing.T) {
	long := strings.Repeat("x", api.MaxText+1)
	full := plainData(api.MaxLeafs)
	more := plainData(api.MaxLeafs + 1)
	most := slices.Repeat([]string{long[1:]}, api.MaxLeafs)
	for _, c := range []struct {
		what string
		a, b []string
		want api.Errno
	}{
		{"201 in a", more, full, api.ErrFull},
		{"201 in b", full, more, api.ErrFull},
		{"201 in both, the same", more, more, api.ErrFull},
		{"201 in a, none in b", more, nil, api.ErrFull},
		{"none in a, 201 in b", nil, more, api.ErrFull},
		{"long in a", []string{"x", long}, []string{"x", "y"}, api.ErrFull},
		{"long in b", []string{"x", "y"}, []string{long, "y"}, api.ErrFull},
		{"long in both, the same", []string{long}, []string{long}, api.ErrFull},
		{"long in a, not as many", []string{long}, nil, api.ErrFull},
		{"long in b, not as many", nil, []string{"x", long}, api.ErrFull},
		{"more in a", []string{"x", "y"}, []string{"x"}, api.ErrShape},
		{"more in b", []string{"x"}, []string{"x", ""}, api.ErrShape},
		{"none and one", nil, []string{""}, api.ErrShape},
		{"199 and 200", full[1:], full, api.ErrShape},
		{"none", nil, nil, api.ErrClash},
		{"none and empty", nil, []string{}, api.ErrClash},
		{"one, the same", []string{""}, []string{""}, api.ErrClash},
		{"200, the same", full, slices.Clone(full), api.ErrClash},
		{"200 of 200 bytes, the same", most, slices.Clone(most), api.ErrClash},
		{"one, others", []string{"x"}, []string{"y"}, api.ErrNone},
		{"another order", []string{"x", "y"}, []string{"y", "x"}, api.ErrNone},
		{"another one at the end", full, append(slices.Clone(full[:199]), "x"), api.ErrNone},
		{"200 of 200 bytes, others", most, append(slices.Clone(most[:199]), long[2:]), api.ErrNone},
	} {
		got, err := tree.Collide(c.a, c.b)
		wantError(t, c.what, err, c.want)
		if got != (api.Clash{}) {
			t.Errorf("%s: %q beside an error", c.what, got)
		}
	}
}

// T2: texts as long as may be are data like others.
func TestCollideLongest(t *testing.T) {
	a, b := pairOf(t, 1)
	rest := strings.Repeat("z", api.MaxText-len(a[0]))
	x, y := a[0]+rest, b[0]+rest
	wantClash(t, "200 bytes", []string{x}, []string{y}, api.Clash{A: "\x00" + x, B: "\x00" + y})
	wantClash(t, "200 of 200 bytes", slices.Repeat([]string{x}, 200), slices.Repeat([]string{y}, 200), api.Clash{A: "\x00" + x, B: "\x00" + y})
	_, err := tree.Collide([]string{x + "z"}, []string{y + "z"})
	wantError(t, "201 bytes", err, api.ErrFull)
}
