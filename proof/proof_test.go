package proof_test

import (
	"fmt"
	"math"
	"slices"
	"strconv"
	"testing"

	"witnessbox/api"
	"witnessbox/mix"
	"witnessbox/plain"
	"witnessbox/proof"
	"witnessbox/tree"
)

var badSums = []int{-1, -2, -api.Prime, math.MinInt, math.MinInt32, api.Prime, api.Prime + 1, math.MaxUint32, 1 << 32, math.MaxInt}

var edgeSizes = []int{1, 2, 3, 4, 5, 7, 8, 64, 65, 127, 128, 129, 192, 199, 200}

// wantError also asks that an Errno is told, never OK.
func wantError(t *testing.T, what string, err error, want api.Errno) {
	t.Helper()
	if err == nil || plain.Told(err) != want {
		t.Errorf("%s: error %v, want %v", what, err, want)
	}
}

// someLeafs are the Leafs of "0", "1" and so on.
func someLeafs(n int) []int {
	out := make([]int, n)
	for i := range out {
		out[i] = mix.Leaf(strconv.Itoa(i))
	}
	return out
}

func node(a, b int) int {
	n, err := mix.Node(a, b)
	if err != nil {
		panic(err)
	}
	return n
}

func rootOf(leafs []int) int {
	n, err := tree.Root(leafs)
	if err != nil {
		panic(err)
	}
	return n
}

func splitOf(n int) int {
	k, err := tree.Split(n)
	if err != nil {
		panic(err)
	}
	return k
}

// wordFor is P1, word for word, from the root down.
func wordFor(leafs []int, i int) []int {
	if len(leafs) == 1 {
		return nil
	}
	k := splitOf(len(leafs))
	if i < k {
		return append(wordFor(leafs[:k], i), rootOf(leafs[k:]))
	}
	return append(wordFor(leafs[k:], i-k), rootOf(leafs[:k]))
}

// long is how long such a proof is.
func long(size, i int) int {
	if size == 1 {
		return 0
	}
	k := splitOf(size)
	if i < k {
		return long(k, i) + 1
	}
	return long(size-k, i-k) + 1
}

// comes is the root that comes of a proof, from the root down.
func comes(size, i, sum int, list []int) int {
	if size == 1 {
		return sum
	}
	k, last := splitOf(size), len(list)-1
	if i < k {
		return node(comes(k, i, sum, list[:last]), list[last])
	}
	return node(list[last], comes(size-k, i-k, sum, list[:last]))
}

func made(t *testing.T, leafs []int, i, size int) []int {
	t.Helper()
	list, err := proof.Make(leafs, i, size)
	if err != nil {
		t.Fatalf("Make of %d leafs at %d of %d: %v", len(leafs), i, size, err)
	}
	return list
}

func steps(t *testing.T, i, size int) int {
	t.Helper()
	n, err := proof.Steps(i, size)
	if err != nil {
		t.Fatalf("Steps(%d, %d): %v", i, size, err)
	}
	return n
}

func wantMakeError(t *testing.T, leafs []int, i, size int, want api.Errno) {
	t.Helper()
	list, err := proof.Make(leafs, i, size)
	wantError(t, fmt.Sprintf("Make of %d leafs at %d of %d", len(leafs), i, size), err, want)
	if len(list) != 0 {
		t.Errorf("Make: %v beside an error", list)
	}
}

func wantStepsError(t *testing.T, i, size int) {
	t.Helper()
	n, err := proof.Steps(i, size)
	wantError(t, fmt.Sprintf("Steps(%d, %d)", i, size), err, api.ErrRange)
	if n != 0 {
		t.Errorf("Steps(%d, %d) = %d beside an error", i, size, n)
	}
}

// places are some of the places below size, with the edges and those about a split.
func places(size int) []int {
	var out []int
	for i := range size {
		if i < 3 || i >= size-3 || i%13 == 5 || size > 1 && max(i, splitOf(size))-min(i, splitOf(size)) < 2 {
			out = append(out, i)
		}
	}
	return out
}

// P1, P2: proofs that another program worked out.
func TestKnown(t *testing.T) {
	leafs := someLeafs(api.MaxLeafs)
	for _, c := range []struct {
		i, size, root int
		list          []int
	}{
		{0, 1, 92343521, []int{}},
		{0, 2, 1225533454, []int{92343522}},
		{1, 2, 1225533454, []int{92343521}},
		{0, 3, 1985519171, []int{92343522, 92343523}},
		{1, 3, 1985519171, []int{92343521, 92343523}},
		{2, 3, 1985519171, []int{1225533454}},
		{4, 7, 1157279082, []int{92343526, 92343527, 68062174}},
		{6, 7, 1157279082, []int{256049495, 68062174}},
		{0, 127, 1148648791, []int{92343522, 1814533298, 1893457948, 875410455, 248269175, 1425382099, 593558915}},
		{126, 127, 1148648791, []int{281800700, 1348643348, 1417418274, 1125602679, 2030446166, 1011509038}},
		{77, 128, 1148628771, []int{1359583988, 117117708, 1536196416, 860102271, 898310379, 1642507724, 1011509038}},
		{0, 129, 369251614, []int{92343522, 1814533298, 1893457948, 875410455, 248269175, 1425382099, 593487895, 2011739941}},
		{128, 129, 369251614, []int{1148628771}},
		{198, 199, 279029768, []int{1575968390, 1013343881, 1393441177, 1148628771}},
		{0, 200, 277673247, []int{92343522, 1814533298, 1893457948, 875410455, 248269175, 1425382099, 593487895, 1334345574}},
		{100, 200, 277673247, []int{2011739672, 148500835, 482489308, 1976861189, 1468495789, 2030446166, 1011509038, 1334345574}},
		{150, 200, 277673247, []int{2011740327, 1004100409, 1342599578, 53715986, 1485943564, 741897940, 1332974815, 1148628771}},
		{199, 200, 277673247, []int{2011740858, 1575968390, 1013343881, 1393441177, 1148628771}},
	} {
		for _, given := range [][]int{leafs[:c.size], leafs} {
			if got := made(t, given, c.i, c.size); !slices.Equal(got, c.list) {
				t.Errorf("Make of %d leafs at %d of %d = %v, want %v", len(given), c.i, c.size, got, c.list)
			}
		}
		if got := steps(t, c.i, c.size); got != len(c.list) {
			t.Errorf("Steps(%d, %d) = %d, want %d", c.i, c.size, got, len(c.list))
		}
		if err := proof.Check(c.root, c.size, c.i, leafs[c.i], c.list); err != nil {
			t.Errorf("Check of %d of %d: %v", c.i, c.size, err)
		}
	}
}

// P1, P2: every leaf of every tree, of its leafs alone and as the first ones of more.
func TestAll(t *testing.T) {
	leafs := someLeafs(api.MaxLeafs)
	for size := 1; size <= api.MaxLeafs; size++ {
		root := rootOf(leafs[:size])
		for i := range size {
			want := wordFor(leafs[:size], i)
			got := made(t, leafs[:size], i, size)
			if !slices.Equal(got, want) {
				t.Fatalf("Make of %d at %d = %v, want %v", size, i, got, want)
			}
			if n := steps(t, i, size); n != len(got) {
				t.Fatalf("Steps(%d, %d) = %d, want %d", i, size, n, len(got))
			}
			if err := proof.Check(root, size, i, leafs[i], got); err != nil {
				t.Fatalf("Check of %d of %d: %v", i, size, err)
			}
			for _, many := range []int{size + 1, size + 7, api.MaxLeafs} {
				if many <= api.MaxLeafs && !slices.Equal(made(t, leafs[:many], i, size), want) {
					t.Fatalf("Make of %d leafs at %d of %d is not as of %d leafs", many, i, size, size)
				}
			}
		}
	}
}

// P1: which leafs stand behind the first size is not to be seen, but they are sums.
func TestOthersBehind(t *testing.T) {
	leafs := someLeafs(20)
	for i := range 13 {
		want := made(t, leafs, i, 13)
		other := append(slices.Clone(leafs[:13]), 0, api.Prime-1, 5)
		if got := made(t, other, i, 13); !slices.Equal(got, want) {
			t.Errorf("%d: %v, want %v", i, got, want)
		}
		for _, bad := range badSums {
			wantMakeError(t, append(slices.Clone(leafs[:13]), bad), i, 13, api.ErrRange)
		}
	}
}

// P1, P2: leafs at their edges, and all of one sum.
func TestEdgeLeafs(t *testing.T) {
	for _, size := range edgeSizes {
		for _, sums := range [][]int{{0}, {api.Prime - 1}, {0, api.Prime - 1, 1, api.Prime - 2, 7}} {
			leafs := make([]int, size)
			for i := range leafs {
				leafs[i] = sums[i%len(sums)]
			}
			for _, i := range places(size) {
				list := made(t, leafs, i, size)
				if !slices.Equal(list, wordFor(leafs, i)) {
					t.Errorf("Make of %d at %d = %v", size, i, list)
				}
				if err := proof.Check(rootOf(leafs), size, i, leafs[i], list); err != nil {
					t.Errorf("Check of %d of %d: %v", i, size, err)
				}
			}
		}
	}
}

// P1: a place or a size that is none, with leafs that have no fault.
func TestWrongPlace(t *testing.T) {
	for _, many := range append([]int{0}, edgeSizes...) {
		leafs := someLeafs(many)
		for _, size := range []int{many - 1, many} {
			for _, i := range []int{size, size + 1, 200, 201, math.MaxInt, -1, -2, -size, -size - 1, math.MinInt} {
				if i < 0 || i >= size {
					wantMakeError(t, leafs, i, size, api.ErrRange)
				}
			}
		}
		for _, size := range []int{many + 1, many + 2, 201, 256, math.MaxInt, math.MaxInt - 1, 0, -1, -many, math.MinInt} {
			for _, i := range []int{0, 1, many, size - 1, size, -1, math.MinInt, math.MaxInt} {
				wantMakeError(t, leafs, i, size, api.ErrRange)
			}
		}
	}
}

// P1: Steps takes every size to 200, and every place below it, and no other.
func TestStepsWrong(t *testing.T) {
	for size := 1; size <= api.MaxLeafs; size++ {
		steps(t, 0, size)
		steps(t, size-1, size)
		for _, i := range []int{-1, -size, math.MinInt, size, size + 1, 200, 201, math.MaxInt} {
			wantStepsError(t, i, size)
		}
	}
	for _, size := range []int{0, -1, -200, math.MinInt, math.MinInt + 1, 201, 202, 256, 1 << 40, 1 << 62, math.MaxInt - 1, math.MaxInt} {
		for _, i := range []int{0, 1, -1, 199, 200, 201, size - 1, size, size + 1, math.MinInt, math.MaxInt} {
			wantStepsError(t, i, size)
		}
	}
}

// P1: what is wrong with leafs is told ahead of a wrong place, and too many of them ahead of one that is no sum.
func TestMakeWrongLeafs(t *testing.T) {
	for _, many := range []int{201, 202, 300, 100_000} {
		for _, at := range [][2]int{{0, 1}, {0, 200}, {199, 200}, {0, 201}, {200, 201}, {-1, 1}, {0, 0}, {0, many}, {many, many}, {math.MaxInt, math.MinInt}} {
			wantMakeError(t, make([]int, many), at[0], at[1], api.ErrFull)
			wantMakeError(t, slices.Repeat([]int{-1}, many), at[0], at[1], api.ErrFull)
		}
	}
	for _, size := range edgeSizes {
		for _, place := range places(size) {
			for _, bad := range badSums {
				leafs := someLeafs(size)
				leafs[place] = bad
				for _, i := range []int{0, place, size - 1, size, -1} {
					wantMakeError(t, leafs, i, size, api.ErrRange)
				}
				wantMakeError(t, leafs, 0, 1, api.ErrRange)
			}
		}
	}
}

// P2: Check of the tree of one leaf, whose root is that leaf.
func TestCheckOne(t *testing.T) {
	for _, sum := range []int{0, 1, 5, api.Prime - 2, api.Prime - 1} {
		for _, none := range [][]int{nil, {}} {
			if err := proof.Check(sum, 1, 0, sum, none); err != nil {
				t.Errorf("Check of one leaf %d: %v", sum, err)
			}
			wantError(t, "another root", proof.Check((sum+1)%api.Prime, 1, 0, sum, none), api.ErrProof)
			wantError(t, "another leaf", proof.Check(sum, 1, 0, (sum+1)%api.Prime, none), api.ErrProof)
		}
		wantError(t, "one longer", proof.Check(sum, 1, 0, sum, []int{sum}), api.ErrShape)
		wantError(t, "one that is no sum", proof.Check(sum, 1, 0, sum, []int{-1}), api.ErrRange)
	}
}

// P2: the sums of a proof, the leaf's and the root may be at their edges; on which side each stands, is to be seen.
func TestCheckByHand(t *testing.T) {
	const most = api.Prime - 1
	for _, c := range []struct {
		root, size, i, sum int
		list               []int
	}{
		{node(0, most), 2, 0, 0, []int{most}},
		{node(0, most), 2, 1, most, []int{0}},
		{node(most, most), 2, 1, most, []int{most}},
		{node(0, 0), 2, 0, 0, []int{0}},
		{node(node(5, most), 0), 3, 0, 5, []int{most, 0}},
		{node(node(5, most), 0), 3, 1, most, []int{5, 0}},
		{node(most, 0), 3, 2, 0, []int{most}},
		{node(node(1, 2), node(3, 4)), 4, 2, 3, []int{4, node(1, 2)}},
		{node(7, node(8, 9)), 6, 5, 9, []int{8, 7}},
		{node(7, node(node(1, 2), 3)), 7, 4, 1, []int{2, 3, 7}},
	} {
		if err := proof.Check(c.root, c.size, c.i, c.sum, c.list); err != nil {
			t.Errorf("Check(%v): %v", c, err)
		}
	}
	wantError(t, "another root, 0", proof.Check(0, 2, 0, 1, []int{2}), api.ErrProof)
	wantError(t, "another root, the greatest", proof.Check(most, 2, 0, 1, []int{2}), api.ErrProof)
}

// changed is another sum: one byte of it is another one, so that no node above it stays the same.
func changed(n int) int {
	if n^1 == api.Prime {
		return n ^ 2
	}
	return n ^ 1
}

// P2: another leaf, another root, and a proof of which one sum is changed.
func TestCheckNotSo(t *testing.T) {
	leafs := someLeafs(api.MaxLeafs)
	for size := 1; size <= api.MaxLeafs; size++ {
		root := rootOf(leafs[:size])
		for _, i := range places(size) {
			list := made(t, leafs, i, size)
			what := fmt.Sprintf("%d of %d, ", i, size)
			for _, other := range []int{changed(root), 0, api.Prime - 1, leafs[i], rootOf(leafs[:size-1])} {
				if other != root {
					wantError(t, what+"another root", proof.Check(other, size, i, leafs[i], list), api.ErrProof)
				}
			}
			for _, other := range []int{changed(leafs[i]), 0, api.Prime - 1, leafs[(i+1)%api.MaxLeafs]} {
				wantError(t, what+"another leaf", proof.Check(root, size, i, other, list), api.ErrProof)
			}
			for at := range list {
				for _, other := range []int{changed(list[at]), 0, api.Prime - 1} {
					wrong := slices.Clone(list)
					wrong[at] = other
					wantError(t, what+"a changed sum", proof.Check(root, size, i, leafs[i], wrong), api.ErrProof)
				}
			}
			if len(list) > 1 {
				slices.Reverse(list)
				wantError(t, what+"the other way round", proof.Check(root, size, i, leafs[i], list), api.ErrProof)
			}
		}
	}
}

// P2: another place, or another size: by the shape, or by the root that comes of it.
func TestCheckElsewhere(t *testing.T) {
	leafs := someLeafs(api.MaxLeafs)
	for _, size := range edgeSizes {
		root := rootOf(leafs[:size])
		for _, i := range places(size) {
			list := made(t, leafs, i, size)
			for _, at := range []int{1, 2, 3, max(size-1, 1), size, min(size+1, api.MaxLeafs), 128, 129, 199, 200} {
				for j := range at {
					err := proof.Check(root, at, j, leafs[i], list)
					what := fmt.Sprintf("%d of %d as %d of %d", i, size, j, at)
					switch {
					case long(at, j) != len(list):
						wantError(t, what, err, api.ErrShape)
					case comes(at, j, leafs[i], list) != root:
						wantError(t, what, err, api.ErrProof)
					case err != nil:
						t.Errorf("%s: %v", what, err)
					}
				}
			}
		}
	}
}

// P2: a proof that is not as long, also where the root that comes of it is another one.
func TestCheckShape(t *testing.T) {
	leafs := someLeafs(api.MaxLeafs)
	for size := 1; size <= api.MaxLeafs; size++ {
		root := rootOf(leafs[:size])
		for _, i := range places(size) {
			list := made(t, leafs, i, size)
			for _, n := range []int{0, len(list) - 1, len(list) + 1, len(list) + 2, 200, 10_000} {
				if n < 0 || n == len(list) {
					continue
				}
				wrong := append(slices.Clone(list), make([]int, n)...)[:n]
				what := fmt.Sprintf("%d of %d with %d", i, size, n)
				wantError(t, what, proof.Check(root, size, i, leafs[i], wrong), api.ErrShape)
				wantError(t, what+", another root", proof.Check(changed(root), size, i, leafs[i], wrong), api.ErrShape)
				wantError(t, what+", another leaf", proof.Check(root, size, i, changed(leafs[i]), wrong), api.ErrShape)
			}
		}
	}
}

// P2: what is no sum is told ahead of a proof that is not as long, and of one that proves nothing.
func TestCheckNoSum(t *testing.T) {
	leafs := someLeafs(api.MaxLeafs)
	for _, size := range edgeSizes {
		root := rootOf(leafs[:size])
		for _, i := range places(size) {
			list := made(t, leafs, i, size)
			fewer, more := list[:max(len(list)-1, 0)], append(slices.Clone(list), 5)
			for _, bad := range badSums {
				what := fmt.Sprintf("%d of %d with %d", i, size, bad)
				for _, given := range [][]int{list, fewer, more, nil} {
					wantError(t, what+" as root", proof.Check(bad, size, i, leafs[i], given), api.ErrRange)
					wantError(t, what+" as leaf", proof.Check(root, size, i, bad, given), api.ErrRange)
					wantError(t, what+" as both", proof.Check(bad, size, i, bad, given), api.ErrRange)
					for at := range given {
						wrong := slices.Clone(given)
						wrong[at] = bad
						wantError(t, what+" in the proof", proof.Check(root, size, i, leafs[i], wrong), api.ErrRange)
						wantError(t, what+" in the proof, another root", proof.Check(changed(root), size, i, leafs[i], wrong), api.ErrRange)
					}
				}
			}
		}
	}
	many := make([]int, 100_000)
	many[len(many)-1] = api.Prime
	wantError(t, "the last one of many", proof.Check(1, 5, 2, 1, many), api.ErrRange)
}

// P2: a place or a size that is none, with a proof of any length.
func TestCheckWrongPlace(t *testing.T) {
	leafs := someLeafs(api.MaxLeafs)
	for _, list := range [][]int{nil, {1}, {1, 2, 3}, someLeafs(8), make([]int, 201), {-1}} {
		for size := 1; size <= api.MaxLeafs; size++ {
			for _, i := range []int{-1, -size, math.MinInt, size, size + 1, 201, math.MaxInt} {
				wantError(t, "a wrong place", proof.Check(rootOf(leafs[:1]), size, i, leafs[0], list), api.ErrRange)
			}
		}
		for _, size := range []int{0, -1, math.MinInt, 201, 202, 256, 1 << 62, math.MaxInt} {
			for _, i := range []int{0, 1, -1, 199, 200, size - 1, size, math.MaxInt} {
				wantError(t, "a wrong size", proof.Check(leafs[0], size, i, leafs[0], list), api.ErrRange)
			}
		}
	}
}

// DOC's P2: what Make hands out is the caller's; what it was handed is not written into, nor what stands behind it.
func TestMakeSharesNothing(t *testing.T) {
	for _, size := range edgeSizes {
		room := append(someLeafs(size), badSums...)
		before := slices.Clone(room)
		for _, i := range places(size) {
			a, b := made(t, room[:size], i, size), made(t, room[:size], i, size)
			keep := slices.Clone(b)
			for at := range a {
				a[at] = -1
			}
			_ = append(a, -2, -3)
			if !slices.Equal(b, keep) || !slices.Equal(room, before) {
				t.Fatalf("%d of %d: what is handed out is shared", i, size)
			}
			if got := made(t, room[:size], i, size); !slices.Equal(got, keep) {
				t.Fatalf("%d of %d: another answer: %v, want %v", i, size, got, keep)
			}
		}
	}
	room := append(someLeafs(5), -1)
	before := slices.Clone(room)
	list := made(t, room[:5], 1, 5)
	keep := slices.Clone(list)
	for at := range room {
		room[at] = 7
	}
	if !slices.Equal(list, keep) {
		t.Error("a proof is changed with the leafs that it was made of")
	}
	copy(room, before)
	wantMakeError(t, room, 1, 5, api.ErrRange)
	wantMakeError(t, room[:5], 5, 5, api.ErrRange)
	if !slices.Equal(room, before) {
		t.Error("a refused Make wrote into its leafs")
	}
}

// DOC's P2, P4: Check writes into no proof, and reads nothing behind one.
func TestCheckWritesNothing(t *testing.T) {
	leafs := someLeafs(api.MaxLeafs)
	for _, size := range edgeSizes {
		root := rootOf(leafs[:size])
		for _, i := range places(size) {
			list := made(t, leafs, i, size)
			room := append(slices.Clone(list), badSums...)
			before := slices.Clone(room)
			for range 2 {
				if err := proof.Check(root, size, i, leafs[i], room[:len(list)]); err != nil {
					t.Errorf("Check of %d of %d: %v", i, size, err)
				}
			}
			wantError(t, "another root", proof.Check(changed(root), size, i, leafs[i], room[:len(list)]), api.ErrProof)
			wantError(t, "one that is no sum", proof.Check(root, size, i, leafs[i], room), api.ErrRange)
			if len(list) > 0 {
				wantError(t, "one shorter", proof.Check(root, size, i, leafs[i], room[:len(list)-1]), api.ErrShape)
			}
			if !slices.Equal(room, before) {
				t.Fatalf("%d of %d: a proof was written into", i, size)
			}
		}
	}
}
