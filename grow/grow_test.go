package grow_test

import (
	"fmt"
	"math"
	"slices"
	"strconv"
	"testing"

	"witnessbox/api"
	"witnessbox/grow"
	"witnessbox/mix"
	"witnessbox/plain"
	"witnessbox/tree"
)

var badSums = []int{-1, -2, -api.Prime, math.MinInt, math.MinInt32, api.Prime, api.Prime + 1, math.MaxUint32, 1 << 32, math.MaxInt}

var edgeSizes = []int{1, 2, 3, 4, 5, 7, 8, 64, 65, 127, 128, 129, 192, 199, 200}

// wantError also asks that an Errno is told, never OK.
func wantError(t *testing.T, what string, err error, want api.Errno) {
	t.Helper()
	if err == nil || plain.Told(err) != want {
		t.Errorf("%s: error %v, want %v", what, err, want)
	}
}

// someLeafs are the Leafs of "0", "1" and so on.
func someLeafs(n int) []int {
	out := make([]int, n)
	for i := range out {
		out[i] = mix.Leaf(strconv.Itoa(i))
	}
	return out
}

func node(a, b int) int {
	n, err := mix.Node(a, b)
	if err != nil {
		panic(err)
	}
	return n
}

func rootOf(leafs []int) int {
	n, err := tree.Root(leafs)
	if err != nil {
		panic(err)
	}
	return n
}

func splitOf(n int) int {
	k, err := tree.Split(n)
	if err != nil {
		panic(err)
	}
	return k
}

// wordFor is G1, word for word, from the root down.
func wordFor(leafs []int, old int, whole bool) []int {
	switch size := len(leafs); {
	case old == size && whole:
		return nil
	case old == size:
		return []int{rootOf(leafs)}
	}
	k := splitOf(len(leafs))
	if old <= k {
		return append(wordFor(leafs[:k], old, whole), rootOf(leafs[k:]))
	}
	return append(wordFor(leafs[k:], old-k, false), rootOf(leafs[:k]))
}

// long is how long such a proof is.
func long(old, size int, whole bool) int {
	switch {
	case old == size && whole:
		return 0
	case old == size:
		return 1
	}
	k := splitOf(size)
	if old <= k {
		return long(old, k, whole) + 1
	}
	return long(old-k, size-k, false) + 1
}

// comes is what comes of a proof as the old root and as the new one, from the root down.
func comes(oldRoot, old, size int, whole bool, list []int) (int, int) {
	switch {
	case old == size && whole:
		return oldRoot, oldRoot
	case old == size:
		return list[0], list[0]
	}
	k, last := splitOf(size), len(list)-1
	if old <= k {
		before, after := comes(oldRoot, old, k, whole, list[:last])
		return before, node(after, list[last])
	}
	before, after := comes(oldRoot, old-k, size-k, false, list[:last])
	return node(list[last], before), node(list[last], after)
}

func made(t *testing.T, leafs []int, old, size int) []int {
	t.Helper()
	list, err := grow.Make(leafs, old, size)
	if err != nil {
		t.Fatalf("Make of %d leafs from %d to %d: %v", len(leafs), old, size, err)
	}
	return list
}

func wantMakeError(t *testing.T, leafs []int, old, size int, want api.Errno) {
	t.Helper()
	list, err := grow.Make(leafs, old, size)
	wantError(t, fmt.Sprintf("Make of %d leafs from %d to %d", len(leafs), old, size), err, want)
	if len(list) != 0 {
		t.Errorf("Make: %v beside an error", list)
	}
}

// olds are some of the old sizes up to size, with the edges and those about a split.
func olds(size int) []int {
	var out []int
	for old := 1; old <= size; old++ {
		if old < 4 || old > size-3 || old%13 == 5 || size > 1 && max(old, splitOf(size))-min(old, splitOf(size)) < 2 {
			out = append(out, old)
		}
	}
	return out
}

// changed is another sum: one byte of it is another one, so that the node above it is another one, too.
func changed(n int) int {
	if n^1 == api.Prime {
		return n ^ 2
	}
	return n ^ 1
}

// wantAsItComes holds Check against the old and the new root that come of a proof of the right length.
func wantAsItComes(t *testing.T, what string, oldRoot, old, root, size int, list []int) {
	t.Helper()
	err := grow.Check(oldRoot, old, root, size, list)
	before, after := comes(oldRoot, old, size, true, list)
	if before != oldRoot || after != root {
		wantError(t, what, err, api.ErrProof)
	} else if err != nil {
		t.Errorf("%s: %v", what, err)
	}
}

// G1, G2: proofs that another program worked out.
func TestKnown(t *testing.T) {
	leafs := someLeafs(api.MaxLeafs)
	for _, c := range []struct {
		old, size, oldRoot, root int
		list                     []int
	}{
		{1, 1, 92343521, 92343521, []int{}},
		{1, 2, 92343521, 1225533454, []int{92343522}},
		{2, 2, 1225533454, 1225533454, []int{}},
		{1, 3, 92343521, 1985519171, []int{92343522, 92343523}},
		{2, 3, 1225533454, 1985519171, []int{92343523}},
		{3, 3, 1985519171, 1985519171, []int{}},
		{3, 4, 1985519171, 68062174, []int{92343523, 92343524, 1225533454}},
		{3, 7, 1985519171, 1157279082, []int{92343523, 92343524, 1225533454, 1792881761}},
		{4, 7, 68062174, 1157279082, []int{1792881761}},
		{5, 7, 928637971, 1157279082, []int{92343525, 92343526, 92343527, 68062174}},
		{6, 7, 950053316, 1157279082, []int{256049495, 92343527, 68062174}},
		{6, 8, 950053316, 1170755769, []int{256049495, 845049339, 68062174}},
		{1, 127, 92343521, 1148648791, []int{92343522, 1814533298, 1893457948, 875410455, 248269175, 1425382099, 593558915}},
		{63, 127, 1011621454, 1148648791, []int{1359583853, 1359583854, 2131301490, 1099249028, 622232277, 1128742434, 1406530307, 593558915}},
		{64, 127, 1011509038, 1148648791, []int{593558915}},
		{65, 127, 1250554981, 1148648791, []int{1359583855, 1359583856, 1750817375, 1943754623, 2101565746, 898310379, 1642806619, 1011509038}},
		{126, 127, 1148619033, 1148648791, []int{281800700, 2011739939, 1348643348, 1417418274, 1125602679, 2030446166, 1011509038}},
		{127, 128, 1148648791, 1148628771, []int{2011739939, 2011739940, 281800700, 1348643348, 1417418274, 1125602679, 2030446166, 1011509038}},
		{64, 128, 1011509038, 1148628771, []int{593487895}},
		{1, 129, 92343521, 369251614, []int{92343522, 1814533298, 1893457948, 875410455, 248269175, 1425382099, 593487895, 2011739941}},
		{127, 129, 1148648791, 369251614, []int{2011739939, 2011739940, 281800700, 1348643348, 1417418274, 1125602679, 2030446166, 1011509038, 2011739941}},
		{128, 129, 1148628771, 369251614, []int{2011739941}},
		{1, 199, 92343521, 279029768, []int{92343522, 1814533298, 1893457948, 875410455, 248269175, 1425382099, 593487895, 1339524470}},
		{198, 199, 279232521, 279029768, []int{1575968390, 2011740858, 1013343881, 1393441177, 1148628771}},
		{1, 200, 92343521, 277673247, []int{92343522, 1814533298, 1893457948, 875410455, 248269175, 1425382099, 593487895, 1334345574}},
		{100, 200, 1127140730, 277673247, []int{482489308, 531299544, 1976861189, 1468495789, 2030446166, 1011509038, 1334345574}},
		{127, 200, 1148648791, 277673247, []int{2011739939, 2011739940, 281800700, 1348643348, 1417418274, 1125602679, 2030446166, 1011509038, 1334345574}},
		{128, 200, 1148628771, 277673247, []int{1334345574}},
		{129, 200, 369251614, 277673247, []int{2011739941, 2011739942, 1176068795, 1100498944, 458212015, 1556972574, 741897940, 1332974815, 1148628771}},
		{192, 200, 284562850, 277673247, []int{1393441177, 1332974815, 1148628771}},
		{193, 200, 288873909, 277673247, []int{2011740852, 2011740853, 986968546, 1287615116, 1393441177, 1148628771}},
		{199, 200, 279029768, 277673247, []int{2011740858, 2011740859, 1575968390, 1013343881, 1393441177, 1148628771}},
		{200, 200, 277673247, 277673247, []int{}},
	} {
		for _, given := range [][]int{leafs[:c.size], leafs} {
			if got := made(t, given, c.old, c.size); !slices.Equal(got, c.list) {
				t.Errorf("Make of %d leafs from %d to %d = %v, want %v", len(given), c.old, c.size, got, c.list)
			}
		}
		if err := grow.Check(c.oldRoot, c.old, c.root, c.size, c.list); err != nil {
			t.Errorf("Check from %d to %d: %v", c.old, c.size, err)
		}
	}
}

// G1, G2: every two sizes, of their leafs alone and as the first ones of more.
func TestAll(t *testing.T) {
	leafs := someLeafs(api.MaxLeafs)
	roots := make([]int, api.MaxLeafs+1)
	for size := range roots {
		roots[size] = rootOf(leafs[:size])
	}
	for size := 1; size <= api.MaxLeafs; size++ {
		for old := 1; old <= size; old++ {
			want := wordFor(leafs[:size], old, true)
			got := made(t, leafs[:size], old, size)
			if !slices.Equal(got, want) || len(got) != long(old, size, true) {
				t.Fatalf("Make from %d to %d = %v, want %v", old, size, got, want)
			}
			if err := grow.Check(roots[old], old, roots[size], size, got); err != nil {
				t.Fatalf("Check from %d to %d: %v", old, size, err)
			}
			for _, many := range []int{size + 1, api.MaxLeafs} {
				if many <= api.MaxLeafs && !slices.Equal(made(t, leafs[:many], old, size), want) {
					t.Fatalf("Make of %d leafs from %d to %d is not as of %d leafs", many, old, size, size)
				}
			}
		}
	}
}

// G1: which leafs stand behind the first size is not to be seen, but they are sums.
func TestOthersBehind(t *testing.T) {
	leafs := someLeafs(20)
	for old := 1; old <= 13; old++ {
		want := made(t, leafs, old, 13)
		other := append(slices.Clone(leafs[:13]), 0, api.Prime-1, 5)
		if got := made(t, other, old, 13); !slices.Equal(got, want) {
			t.Errorf("%d: %v, want %v", old, got, want)
		}
		for _, bad := range badSums {
			wantMakeError(t, append(slices.Clone(leafs[:13]), bad), old, 13, api.ErrRange)
		}
	}
}

// G1, G2: leafs at their edges, and all of one sum.
func TestEdgeLeafs(t *testing.T) {
	for _, size := range edgeSizes {
		for _, sums := range [][]int{{0}, {api.Prime - 1}, {0, api.Prime - 1, 1, api.Prime - 2, 7}} {
			leafs := make([]int, size)
			for i := range leafs {
				leafs[i] = sums[i%len(sums)]
			}
			for _, old := range olds(size) {
				list := made(t, leafs, old, size)
				if !slices.Equal(list, wordFor(leafs, old, true)) {
					t.Errorf("Make from %d to %d = %v", old, size, list)
				}
				if err := grow.Check(rootOf(leafs[:old]), old, rootOf(leafs), size, list); err != nil {
					t.Errorf("Check from %d to %d: %v", old, size, err)
				}
			}
		}
	}
}

// G1: sizes that are none, with leafs that have no fault.
func TestMakeWrongSizes(t *testing.T) {
	for _, many := range append([]int{0}, edgeSizes...) {
		leafs := someLeafs(many)
		for _, size := range []int{many - 1, many} {
			for _, old := range []int{size + 1, size + 2, 200, 201, math.MaxInt, 0, -1, -2, -size, math.MinInt} {
				if old < 1 || old > size {
					wantMakeError(t, leafs, old, size, api.ErrRange)
				}
			}
		}
		for _, size := range []int{many + 1, many + 2, 201, 256, math.MaxInt, math.MaxInt - 1, 0, -1, -many, math.MinInt} {
			for _, old := range []int{0, 1, many, size - 1, size, -1, math.MinInt, math.MaxInt} {
				wantMakeError(t, leafs, old, size, api.ErrRange)
			}
		}
	}
}

// G1: what is wrong with leafs is told ahead of wrong sizes, and too many of them ahead of one that is no sum.
func TestMakeWrongLeafs(t *testing.T) {
	for _, many := range []int{201, 202, 300, 100_000} {
		for _, at := range [][2]int{{1, 1}, {1, 200}, {200, 200}, {1, 201}, {201, 201}, {-1, 1}, {0, 0}, {1, many}, {many, many}, {math.MaxInt, math.MinInt}} {
			wantMakeError(t, make([]int, many), at[0], at[1], api.ErrFull)
			wantMakeError(t, slices.Repeat([]int{-1}, many), at[0], at[1], api.ErrFull)
		}
	}
	for _, size := range edgeSizes {
		for _, place := range olds(size) {
			for _, bad := range badSums {
				leafs := someLeafs(size)
				leafs[place-1] = bad
				for _, old := range []int{1, place, size, size + 1, 0, -1} {
					wantMakeError(t, leafs, old, size, api.ErrRange)
				}
				wantMakeError(t, leafs, 1, 1, api.ErrRange)
			}
		}
	}
}

// G2: old equal to size: an empty proof, and but one root.
func TestCheckSame(t *testing.T) {
	for size := 1; size <= api.MaxLeafs; size++ {
		for _, root := range []int{0, 1, 5, api.Prime - 2, api.Prime - 1} {
			other := (root + 1) % api.Prime
			for _, none := range [][]int{nil, {}} {
				if err := grow.Check(root, size, root, size, none); err != nil {
					t.Errorf("Check of %d at %d: %v", size, root, err)
				}
				wantError(t, "another new root", grow.Check(root, size, other, size, none), api.ErrProof)
				wantError(t, "another old root", grow.Check(other, size, root, size, none), api.ErrProof)
			}
			for _, list := range [][]int{{root}, {0}, {root, root}, someLeafs(8)} {
				wantError(t, "a proof that is not empty", grow.Check(root, size, root, size, list), api.ErrShape)
				wantError(t, "a proof that is not empty, two roots", grow.Check(root, size, other, size, list), api.ErrShape)
			}
			wantError(t, "one that is no sum", grow.Check(root, size, root, size, []int{-1}), api.ErrRange)
		}
	}
}

// G2: the sums of a proof and the roots may be at their edges; on which side each stands, and of which root it is, is to be seen.
func TestCheckByHand(t *testing.T) {
	const most = api.Prime - 1
	for _, c := range []struct {
		oldRoot, old, root, size int
		list                     []int
	}{
		{0, 1, node(0, most), 2, []int{most}},
		{most, 1, node(most, 0), 2, []int{0}},
		{most, 1, node(most, most), 2, []int{most}},
		{0, 1, node(0, 0), 2, []int{0}},
		{5, 1, node(node(5, most), 0), 3, []int{most, 0}},
		{5, 2, node(5, most), 3, []int{most}},
		{node(7, 0), 3, node(7, node(0, most)), 4, []int{0, most, 7}},
		{node(7, 8), 6, node(7, node(8, 9)), 7, []int{8, 9, 7}},
		{node(0, 8), 5, node(0, node(node(8, 9), most)), 7, []int{8, 9, most, 0}},
		{node(1, node(2, 3)), 7, node(node(1, node(2, node(3, 4))), 5), 9, []int{3, 4, 2, 1, 5}},
	} {
		if err := grow.Check(c.oldRoot, c.old, c.root, c.size, c.list); err != nil {
			t.Errorf("Check(%v): %v", c, err)
		}
	}
	wantError(t, "another new root, 0", grow.Check(1, 1, 0, 2, []int{2}), api.ErrProof)
	wantError(t, "another new root, the greatest", grow.Check(1, 1, most, 2, []int{2}), api.ErrProof)
	wantError(t, "another old root, 0", grow.Check(0, 3, node(7, node(1, 2)), 4, []int{1, 2, 7}), api.ErrProof)
	wantError(t, "another old root, the greatest", grow.Check(most, 3, node(7, node(1, 2)), 4, []int{1, 2, 7}), api.ErrProof)
}

// G2: another new root, another old root, and a proof of which one sum is changed.
func TestCheckNotSo(t *testing.T) {
	leafs := someLeafs(api.MaxLeafs)
	for size := 1; size <= api.MaxLeafs; size++ {
		root := rootOf(leafs[:size])
		for _, old := range olds(size) {
			oldRoot, list := rootOf(leafs[:old]), made(t, leafs, old, size)
			what := fmt.Sprintf("%d to %d, ", old, size)
			for _, other := range []int{changed(root), 0, api.Prime - 1, leafs[old-1], rootOf(leafs[:size-1])} {
				if other != root {
					wantError(t, what+"another new root", grow.Check(oldRoot, old, other, size, list), api.ErrProof)
				}
			}
			for _, other := range []int{changed(oldRoot), 0, api.Prime - 1, leafs[old%api.MaxLeafs], rootOf(leafs[:old-1])} {
				if other != oldRoot {
					wantError(t, what+"another old root", grow.Check(other, old, root, size, list), api.ErrProof)
				}
			}
			if old < size {
				wantError(t, what+"one root for the other", grow.Check(root, old, oldRoot, size, list), api.ErrProof)
				wantError(t, what+"the old root as both", grow.Check(oldRoot, old, oldRoot, size, list), api.ErrProof)
				wantError(t, what+"the new root as both", grow.Check(root, old, root, size, list), api.ErrProof)
			}
			for at := range list {
				for _, other := range []int{changed(list[at]), 0, api.Prime - 1} {
					wrong := slices.Clone(list)
					wrong[at] = other
					wantError(t, what+"a changed sum", grow.Check(oldRoot, old, root, size, wrong), api.ErrProof)
				}
			}
			if len(list) > 1 {
				slices.Reverse(list)
				wantError(t, what+"the other way round", grow.Check(oldRoot, old, root, size, list), api.ErrProof)
			}
		}
	}
}

// G2: that one of the roots comes of a proof does not help where the other one does not.
func TestCheckHalf(t *testing.T) {
	leafs := someLeafs(api.MaxLeafs)
	for size := 2; size <= api.MaxLeafs; size++ {
		for _, old := range olds(size) {
			list := made(t, leafs, old, size)
			for at := range list {
				wrong := slices.Clone(list)
				wrong[at] = changed(wrong[at])
				what := fmt.Sprintf("%d to %d, changed at %d", old, size, at)
				oldRoot, root := rootOf(leafs[:old]), rootOf(leafs[:size])
				before, after := comes(oldRoot, old, size, true, wrong)
				wantAsItComes(t, what+", the old root of it", before, old, root, size, wrong)
				wantAsItComes(t, what+", the new root of it", oldRoot, old, after, size, wrong)
				if err := grow.Check(before, old, after, size, wrong); err != nil {
					t.Errorf("%s, both of it: %v", what, err)
				}
			}
		}
	}
}

// G1, G2: a log that changed a leaf that it had told of proves nothing, whichever leaf it is; one that changed a later one does.
func TestCheckLied(t *testing.T) {
	leafs := someLeafs(20)
	for size := 1; size <= len(leafs); size++ {
		for place := range size {
			lied := slices.Clone(leafs)
			lied[place] = changed(lied[place])
			for old := 1; old <= size; old++ {
				what := fmt.Sprintf("%d to %d, another leaf at %d", old, size, place)
				err := grow.Check(rootOf(leafs[:old]), old, rootOf(lied[:size]), size, made(t, lied, old, size))
				if place < old {
					wantError(t, what, err, api.ErrProof)
				} else if err != nil {
					t.Errorf("%s: %v", what, err)
				}
			}
		}
	}
}

// G2: other sizes: by the shape, or by the roots that come of it.
func TestCheckElsewhere(t *testing.T) {
	leafs := someLeafs(api.MaxLeafs)
	for _, size := range edgeSizes {
		root := rootOf(leafs[:size])
		for _, old := range olds(size) {
			oldRoot, list := rootOf(leafs[:old]), made(t, leafs, old, size)
			for _, at := range []int{1, 2, 3, max(size-1, 1), size, min(size+1, api.MaxLeafs), 128, 129, 199, 200} {
				for was := 1; was <= at; was++ {
					what := fmt.Sprintf("%d to %d as %d to %d", old, size, was, at)
					if long(was, at, true) != len(list) {
						wantError(t, what, grow.Check(oldRoot, was, root, at, list), api.ErrShape)
					} else {
						wantAsItComes(t, what, oldRoot, was, root, at, list)
					}
				}
			}
		}
	}
}

// G2: a proof that is not as long, also where other roots come of it.
func TestCheckShape(t *testing.T) {
	leafs := someLeafs(api.MaxLeafs)
	for size := 1; size <= api.MaxLeafs; size++ {
		root := rootOf(leafs[:size])
		for _, old := range olds(size) {
			oldRoot, list := rootOf(leafs[:old]), made(t, leafs, old, size)
			for _, n := range []int{0, len(list) - 1, len(list) + 1, len(list) + 2, 200, 10_000} {
				if n < 0 || n == len(list) {
					continue
				}
				wrong := append(slices.Clone(list), make([]int, n)...)[:n]
				what := fmt.Sprintf("%d to %d with %d", old, size, n)
				wantError(t, what, grow.Check(oldRoot, old, root, size, wrong), api.ErrShape)
				wantError(t, what+", another new root", grow.Check(oldRoot, old, changed(root), size, wrong), api.ErrShape)
				wantError(t, what+", another old root", grow.Check(changed(oldRoot), old, root, size, wrong), api.ErrShape)
			}
		}
	}
}

// G2: what is no sum is told ahead of a proof that is not as long, and of one that proves nothing.
func TestCheckNoSum(t *testing.T) {
	leafs := someLeafs(api.MaxLeafs)
	for _, size := range edgeSizes {
		root := rootOf(leafs[:size])
		for _, old := range olds(size) {
			oldRoot, list := rootOf(leafs[:old]), made(t, leafs, old, size)
			fewer, more := list[:max(len(list)-1, 0)], append(slices.Clone(list), 5)
			for _, bad := range badSums {
				what := fmt.Sprintf("%d to %d with %d", old, size, bad)
				for _, given := range [][]int{list, fewer, more, nil} {
					wantError(t, what+" as new root", grow.Check(oldRoot, old, bad, size, given), api.ErrRange)
					wantError(t, what+" as old root", grow.Check(bad, old, root, size, given), api.ErrRange)
					wantError(t, what+" as both", grow.Check(bad, old, bad, size, given), api.ErrRange)
					for at := range given {
						wrong := slices.Clone(given)
						wrong[at] = bad
						wantError(t, what+" in the proof", grow.Check(oldRoot, old, root, size, wrong), api.ErrRange)
						wantError(t, what+" in the proof, another root", grow.Check(oldRoot, old, changed(root), size, wrong), api.ErrRange)
					}
				}
			}
		}
	}
	many := make([]int, 100_000)
	many[len(many)-1] = api.Prime
	wantError(t, "the last one of many", grow.Check(1, 2, 1, 5, many), api.ErrRange)
}

// G2: sizes that are none, with a proof of any length.
func TestCheckWrongSizes(t *testing.T) {
	for _, list := range [][]int{nil, {1}, {1, 2, 3}, someLeafs(8), make([]int, 201), {-1}} {
		for size := 1; size <= api.MaxLeafs; size++ {
			for _, old := range []int{0, -1, -size, math.MinInt, size + 1, size + 2, 201, math.MaxInt} {
				wantError(t, "a wrong old size", grow.Check(5, old, 5, size, list), api.ErrRange)
			}
		}
		for _, size := range []int{0, -1, math.MinInt, 201, 202, 256, 1 << 62, math.MaxInt} {
			for _, old := range []int{0, 1, -1, 199, 200, size - 1, size, math.MaxInt} {
				wantError(t, "a wrong size", grow.Check(5, old, 5, size, list), api.ErrRange)
			}
		}
	}
}

// DOC's P2: what Make hands out is the caller's; what it was handed is not written into, nor what stands behind it.
func TestMakeSharesNothing(t *testing.T) {
	for _, size := range edgeSizes {
		room := append(someLeafs(size), badSums...)
		before := slices.Clone(room)
		for _, old := range olds(size) {
			a, b := made(t, room[:size], old, size), made(t, room[:size], old, size)
			keep := slices.Clone(b)
			for at := range a {
				a[at] = -1
			}
			_ = append(a, -2, -3)
			if !slices.Equal(b, keep) || !slices.Equal(room, before) {
				t.Fatalf("%d to %d: what is handed out is shared", old, size)
			}
			if got := made(t, room[:size], old, size); !slices.Equal(got, keep) {
				t.Fatalf("%d to %d: another answer: %v, want %v", old, size, got, keep)
			}
		}
	}
	room := append(someLeafs(5), -1)
	before := slices.Clone(room)
	list := made(t, room[:5], 3, 5)
	keep := slices.Clone(list)
	for at := range room {
		room[at] = 7
	}
	if !slices.Equal(list, keep) {
		t.Error("a proof is changed with the leafs that it was made of")
	}
	copy(room, before)
	wantMakeError(t, room, 1, 5, api.ErrRange)
	wantMakeError(t, room[:5], 6, 5, api.ErrRange)
	if !slices.Equal(room, before) {
		t.Error("a refused Make wrote into its leafs")
	}
}

// DOC's P2, P4: Check writes into no proof, and reads nothing behind one.
func TestCheckWritesNothing(t *testing.T) {
	leafs := someLeafs(api.MaxLeafs)
	for _, size := range edgeSizes {
		root := rootOf(leafs[:size])
		for _, old := range olds(size) {
			oldRoot, list := rootOf(leafs[:old]), made(t, leafs, old, size)
			room := append(slices.Clone(list), badSums...)
			before := slices.Clone(room)
			for range 2 {
				if err := grow.Check(oldRoot, old, root, size, room[:len(list)]); err != nil {
					t.Errorf("Check from %d to %d: %v", old, size, err)
				}
			}
			wantError(t, "another root", grow.Check(oldRoot, old, changed(root), size, room[:len(list)]), api.ErrProof)
			wantError(t, "one that is no sum", grow.Check(oldRoot, old, root, size, room), api.ErrRange)
			if len(list) > 0 {
				wantError(t, "one shorter", grow.Check(oldRoot, old, root, size, room[:len(list)-1]), api.ErrShape)
			}
			if !slices.Equal(room, before) {
				t.Fatalf("%d to %d: a proof was written into", old, size)
			}
		}
	}
}
