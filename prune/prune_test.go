package prune_test

import (
	"fmt"
	"math"
	"math/rand"
	"slices"
	"strconv"
	"testing"
	"unsafe"

	"witnessbox/api"
	"witnessbox/mix"
	"witnessbox/plain"
	"witnessbox/proof"
	"witnessbox/prune"
	"witnessbox/tree"
)

const (
	mostLeafs = 200
	prime     = 2_147_483_647
	unknown   = -1
)

var (
	noSums    = []int{-1, -2, -prime, math.MinInt32, math.MinInt, prime, prime + 1, math.MaxUint32, 1 << 32, 1<<32 + 5, math.MaxInt}
	noSizes   = []int{0, -1, -2, -200, math.MinInt32, math.MinInt, 201, 202, 256, 257, 400, 1 << 32, 1<<32 + 5, math.MaxInt}
	someSizes = append(numbers(1, 18), 31, 32, 33, 64, 65, 100, 127, 128, 129, 199, 200)
)

// numbers from one to below another.
func numbers(from, to int) (l []int) {
	for i := from; i < to; i++ {
		l = append(l, i)
	}
	return l
}

// counted are the Leafs of "0", "1" and so on.
func counted(n int) []int {
	l := make([]int, n)
	for i := range l {
		l[i] = mix.Leaf(strconv.Itoa(i))
	}
	return l
}

// twin is another sum of which the same nodes come, or the same one again where this does not find it: of a sum's last two bytes the one ahead weighs 131 times as much.
func twin(sum int) int {
	switch low, high := sum&255, sum>>8&255; {
	case low >= 131 && high < 255:
		return sum + 256 - 131
	case low < 256-131 && high > 0:
		return sum - 256 + 131
	}
	return sum
}

// someLeafs are sums from all over what sums may be, each with a twin.
func someLeafs(n int) []int {
	r := rand.New(rand.NewSource(190))
	var l []int
	for len(l) < n {
		if sum := r.Intn(prime); twin(sum) != sum {
			l = append(l, sum)
		}
	}
	return l
}

func twins(leafs []int) []int {
	out := make([]int, len(leafs))
	for i, sum := range leafs {
		out[i] = twin(sum)
	}
	return out
}

// changed is another sum, and no twin.
func changed(sum int) int { return (sum + 1) % prime }

func node(a, b int) int {
	n, err := mix.Node(a, b)
	if err != nil {
		panic(err)
	}
	return n
}

func half(n int) int {
	k := 1
	for 2*k < n {
		k *= 2
	}
	return k
}

func rootOf(leafs []int) int {
	if len(leafs) == 1 {
		return leafs[0]
	}
	k := half(len(leafs))
	return node(rootOf(leafs[:k]), rootOf(leafs[k:]))
}

// proofOf is chapter 4's proof, word for word.
func proofOf(leafs []int, i int) []int {
	if len(leafs) == 1 {
		return nil
	}
	k := half(len(leafs))
	if i < k {
		return append(proofOf(leafs[:k], i), rootOf(leafs[k:]))
	}
	return append(proofOf(leafs[k:], i-k), rootOf(leafs[:k]))
}

func proofsOf(leafs []int) [][]int {
	out := make([][]int, len(leafs))
	for i := range leafs {
		out[i] = proofOf(leafs, i)
	}
	return out
}

func steps(size, i int) int {
	if size == 1 {
		return 0
	}
	k := half(size)
	if i < k {
		return 1 + steps(k, i)
	}
	return 1 + steps(size-k, i-k)
}

// comes is the root that comes of a proof.
func comes(size, i, sum int, proof []int) int {
	if size == 1 {
		return sum
	}
	k, last := half(size), len(proof)-1
	if i < k {
		return node(comes(k, i, sum, proof[:last]), proof[last])
	}
	return node(proof[last], comes(size-k, i-k, sum, proof[:last]))
}

func isSum(n int) bool { return 0 <= n && n < prime }

// checkByHand is chapter 4's Check, word for word.
func checkByHand(root, size, i, sum int, proof []int) api.Errno {
	if i < 0 || i >= size || size > mostLeafs {
		return api.ErrRange
	}
	for _, n := range append([]int{root, sum}, proof...) {
		if !isSum(n) {
			return api.ErrRange
		}
	}
	if len(proof) != steps(size, i) {
		return api.ErrShape
	}
	if comes(size, i, sum, proof) != root {
		return api.ErrProof
	}
	return api.OK
}

// reckoning is N1, word for word: of each place its sum, or that it is unknown, and its proof.
type reckoning struct {
	size, root int
	sums       []int
	proofs     [][]int
}

func reckon(size, root int) reckoning {
	return reckoning{size: size, root: root, sums: slices.Repeat([]int{unknown}, size), proofs: make([][]int, size)}
}

func (r reckoning) learn(i, sum int, proof []int) api.Errno {
	if wrong := checkByHand(r.root, r.size, i, sum, proof); wrong != api.OK {
		return wrong
	}
	if r.sums[i] != unknown && r.sums[i] != sum {
		return api.ErrClash
	}
	r.sums[i], r.proofs[i] = sum, slices.Clone(proof)
	return api.OK
}

func (r reckoning) find(i int) (int, []int, api.Errno) {
	if i < 0 || i >= r.size {
		return 0, nil, api.ErrRange
	}
	if r.sums[i] == unknown {
		return 0, nil, api.ErrNone
	}
	return r.sums[i], r.proofs[i], api.OK
}

func (r reckoning) many() (n int) {
	for _, sum := range r.sums {
		if sum != unknown {
			n++
		}
	}
	return n
}

func (r reckoning) forget(i int) api.Errno {
	_, _, wrong := r.find(i)
	if wrong == api.OK {
		r.sums[i], r.proofs[i] = unknown, nil
	}
	return wrong
}

// says tells whether an error is just that one: nil for OK, and never OK itself.
func says(err error, want api.Errno) bool {
	return plain.Told(err) == want && (err == nil) == (want == api.OK)
}

// held is a Tree, and the reckoning that each of its steps is held against.
type held struct {
	t    *testing.T
	tree *prune.Tree
	own  reckoning
}

func hold(t *testing.T, size, root int) held {
	t.Helper()
	made, err := prune.New(size, root)
	if made == nil || err != nil {
		t.Fatalf("New(%d, %d) = %v, %v", size, root, made, err)
	}
	return held{t, made, reckon(size, root)}
}

func holdLeafs(t *testing.T, leafs []int) held {
	t.Helper()
	return hold(t, len(leafs), rootOf(leafs))
}

// learn hands in a list behind which others stand, and writes all over it once it is learned.
func (h held) learn(i, sum int, proof []int) api.Errno {
	h.t.Helper()
	want := h.own.learn(i, sum, proof)
	room := append(slices.Clone(proof), noSums...)
	before := slices.Clone(room)
	if err := h.tree.Learn(i, sum, room[:len(proof)]); !says(err, want) {
		h.t.Fatalf("size %d: Learn(%d, %d, %v) = %v, want %v", h.own.size, i, sum, brief(proof), err, want)
	}
	if !slices.Equal(room, before) {
		h.t.Fatalf("size %d: Learn(%d, %d, %v) wrote into what it was handed", h.own.size, i, sum, brief(proof))
	}
	for at := range room {
		room[at] = 7
	}
	return want
}

func (h held) forget(i int) api.Errno {
	h.t.Helper()
	want := h.own.forget(i)
	if err := h.tree.Forget(i); !says(err, want) {
		h.t.Fatalf("size %d: Forget(%d) = %v, want %v", h.own.size, i, err, want)
	}
	return want
}

// ask holds what is told of a place against the reckoning, and writes all over the proof that was handed out.
func (h held) ask(i int) api.Errno {
	h.t.Helper()
	sum, proof, want := h.own.find(i)
	got, err := h.tree.Knows(i)
	if got != sum || !says(err, want) {
		h.t.Fatalf("size %d: Knows(%d) = %d, %v, want %d, %v", h.own.size, i, got, err, sum, want)
	}
	list, err := h.tree.Prove(i)
	if !slices.Equal(list, proof) || !says(err, want) {
		h.t.Fatalf("size %d: Prove(%d) = %v, %v, want %v, %v", h.own.size, i, list, err, proof, want)
	}
	for at := range list {
		list[at] = 7
	}
	return want
}

// askAll asks of all places, and of some that are none.
func (h held) askAll() {
	h.t.Helper()
	if got, want := h.tree.Many(), h.own.many(); got != want {
		h.t.Fatalf("size %d: Many() = %d, want %d", h.own.size, got, want)
	}
	for i := -1; i <= h.own.size; i++ {
		h.ask(i)
	}
}

func want(t *testing.T, what string, got, wanted api.Errno) {
	t.Helper()
	if got != wanted {
		t.Fatalf("%s: %v, want %v", what, got, wanted)
	}
}

// brief keeps a long list out of what is told of a fault.
func brief(l []int) string {
	if len(l) > 20 {
		return fmt.Sprint(l[:20]) + " and so on, " + strconv.Itoa(len(l))
	}
	return fmt.Sprint(l)
}

// edges are the places that trees of this size have edges at.
func edges(size int) []int {
	k := half(size)
	l := []int{0, 1, k - 1, k, k + 1, size / 2, size - 2, size - 1}
	l = slices.DeleteFunc(l, func(i int) bool { return i < 0 || i >= size })
	slices.Sort(l)
	return slices.Compact(l)
}

// noPlaces are places that trees of this size have not.
func noPlaces(size int) []int {
	return []int{-1, -2, -size, math.MinInt32, math.MinInt, size, size + 1, 201, 256 + size, 1 << 32, 1<<32 + size - 1, math.MaxInt}
}

// N1: of each size that may be, and of roots at their edges; nothing is known yet.
func TestNew(t *testing.T) {
	for size := 1; size <= mostLeafs; size++ {
		for _, root := range []int{0, 1, 5, 5381, prime / 2, prime - 2, prime - 1} {
			hold(t, size, root).askAll()
		}
	}
}

// N1: a size or a root that is none, or both.
func TestNewRefused(t *testing.T) {
	refused := func(size, root int) {
		t.Helper()
		if made, err := prune.New(size, root); made != nil || !says(err, api.ErrRange) {
			t.Errorf("New(%d, %d) = %v, %v", size, root, made, err)
		}
	}
	for _, size := range noSizes {
		for _, root := range append([]int{0, 5, prime - 1}, noSums...) {
			refused(size, root)
		}
	}
	for _, root := range noSums {
		for size := 1; size <= mostLeafs; size++ {
			refused(size, root)
		}
	}
}

// N1: sums and proofs that another program worked out, of the Leafs of "0", "1" and so on.
func TestKnownValues(t *testing.T) {
	for _, c := range []struct {
		size, root, i, sum int
		proof              []int
	}{
		{1, 92343521, 0, 92343521, nil},
		{2, 1225533454, 0, 92343521, []int{92343522}},
		{2, 1225533454, 1, 92343522, []int{92343521}},
		{3, 1985519171, 0, 92343521, []int{92343522, 92343523}},
		{3, 1985519171, 1, 92343522, []int{92343521, 92343523}},
		{3, 1985519171, 2, 92343523, []int{1225533454}},
		{5, 928637971, 0, 92343521, []int{92343522, 1814533298, 92343525}},
		{5, 928637971, 3, 92343524, []int{92343523, 1225533454, 92343525}},
		{5, 928637971, 4, 92343525, []int{68062174}},
		{7, 1157279082, 1, 92343522, []int{92343521, 1814533298, 1792881761}},
		{7, 1157279082, 4, 92343525, []int{92343526, 92343527, 68062174}},
		{7, 1157279082, 6, 92343527, []int{256049495, 68062174}},
		{17, 1553816334, 0, 92343521, []int{92343522, 1814533298, 1893457948, 875410455, 1359583202}},
		{17, 1553816334, 15, 1359583201, []int{1359583200, 1864701760, 1544259682, 1170755769, 1359583202}},
		{17, 1553816334, 16, 1359583202, []int{1483418431}},
		{100, 1127140730, 64, 1359583855, []int{1359583856, 1750817375, 1943754623, 2101565746, 898310379, 482489308, 1011509038}},
		{100, 1127140730, 99, 1359584253, []int{1359584252, 1219901532, 2030446166, 1011509038}},
		{200, 277673247, 0, 92343521, []int{92343522, 1814533298, 1893457948, 875410455, 248269175, 1425382099, 593487895, 1334345574}},
		{200, 277673247, 128, 2011739941, []int{2011739942, 1176068795, 1100498944, 458212015, 1556972574, 741897940, 1332974815, 1148628771}},
		{200, 277673247, 199, 2011740859, []int{2011740858, 1575968390, 1013343881, 1393441177, 1148628771}},
	} {
		made, err := prune.New(c.size, c.root)
		if err != nil {
			t.Fatal(err)
		}
		if err := made.Learn(c.i, c.sum, c.proof); err != nil {
			t.Errorf("size %d: Learn of %d: %v", c.size, c.i, err)
		}
		if sum, err := made.Knows(c.i); sum != c.sum || err != nil {
			t.Errorf("size %d: Knows(%d) = %d, %v, want %d", c.size, c.i, sum, err, c.sum)
		}
		if list, err := made.Prove(c.i); !slices.Equal(list, c.proof) || err != nil {
			t.Errorf("size %d: Prove(%d) = %v, %v, want %v", c.size, c.i, list, err, c.proof)
		}
		if made.Many() != 1 {
			t.Errorf("size %d: Many() = %d", c.size, made.Many())
		}
		if err := made.Learn(c.i, c.sum+1, c.proof); !says(err, api.ErrProof) {
			t.Errorf("size %d: Learn of another sum at %d: %v", c.size, c.i, err)
		}
	}
}

// N1: the Leafs of "16" and "17" have one node with those of "20" and "21", so that each of the two places has two sums that are proved.
func TestKnownClash(t *testing.T) {
	const root, a, b, c, d = 895217801, 1359583202, 1359583203, 1359583327, 1359583328
	h := hold(t, 2, root)
	want(t, "first", h.learn(0, a, []int{b}), api.OK)
	want(t, "first, of another sum", h.learn(0, c, []int{d}), api.ErrClash)
	h.askAll()
	want(t, "second", h.learn(1, d, []int{c}), api.OK)
	want(t, "second, of another sum", h.learn(1, b, []int{a}), api.ErrClash)
	h.askAll()
	for i, sum := range []int{a, d} {
		if got, err := h.tree.Knows(i); got != sum || err != nil {
			t.Errorf("Knows(%d) = %d, %v, want %d", i, got, err, sum)
		}
	}
	want(t, "forget", h.forget(0), api.OK)
	want(t, "first, of another sum, anew", h.learn(0, c, []int{d}), api.OK)
	want(t, "first, as it was", h.learn(0, a, []int{b}), api.ErrClash)
	h.askAll()
}

// N1: each leaf alone, by a proof of chapter 4; none beside it is known by that.
func TestLearnOne(t *testing.T) {
	for _, size := range someSizes {
		for _, leafs := range [][]int{someLeafs(size), counted(size)} {
			root, err := tree.Root(leafs)
			if err != nil {
				t.Fatal(err)
			}
			for i, sum := range leafs {
				list, err := proof.Make(leafs, i, size)
				if err != nil {
					t.Fatal(err)
				}
				h := hold(t, size, root)
				want(t, "a leaf", h.learn(i, sum, list), api.OK)
				h.askAll()
				want(t, "forget", h.forget(i), api.OK)
				h.askAll()
			}
		}
	}
}

// orders in which places of a tree may come.
func orders(size int) [][]int {
	up := numbers(0, size)
	down := slices.Clone(up)
	slices.Reverse(down)
	r := rand.New(rand.NewSource(int64(size)))
	return [][]int{up, down, r.Perm(size), r.Perm(size)}
}

// N1: all leafs in any order, forgotten in another one, and learned again; asked after each step.
func TestLearnAll(t *testing.T) {
	for _, size := range []int{1, 2, 3, 4, 5, 6, 7, 8, 9, 10, 11, 12, 13, 14, 15, 16, 17, 100, 200} {
		leafs := someLeafs(size)
		proofs, all := proofsOf(leafs), orders(size)
		for n, order := range all {
			h := holdLeafs(t, leafs)
			learnAll := func() {
				for _, i := range order {
					want(t, "ahead of Learn", h.ask(i), api.ErrNone)
					want(t, "Learn", h.learn(i, leafs[i], proofs[i]), api.OK)
					h.askAll()
				}
			}
			learnAll()
			for _, i := range all[(n+1)%len(all)] {
				want(t, "Forget", h.forget(i), api.OK)
				h.askAll()
				want(t, "Forget again", h.forget(i), api.ErrNone)
			}
			if h.tree.Many() != 0 {
				t.Fatalf("size %d: %d are known", size, h.tree.Many())
			}
			learnAll()
		}
	}
}

// N1: every set of places of a small tree, learned and, one by one, forgotten.
func TestEverySet(t *testing.T) {
	for size := 1; size <= 8; size++ {
		leafs := someLeafs(size)
		proofs := proofsOf(leafs)
		for set := range 1 << size {
			h := holdLeafs(t, leafs)
			for i := range size {
				if set>>i&1 == 1 {
					want(t, "Learn", h.learn(i, leafs[i], proofs[i]), api.OK)
				}
			}
			h.askAll()
			for i := range size {
				known := api.ErrNone
				if set>>i&1 == 1 {
					known = api.OK
				}
				want(t, "Forget", h.forget(i), known)
				h.askAll()
			}
		}
	}
}

// N1: a leaf learned twice, or more often, by the same proof is one.
func TestLearnAgain(t *testing.T) {
	for _, size := range someSizes {
		leafs := someLeafs(size)
		h := holdLeafs(t, leafs)
		for n, i := range edges(size) {
			for range 3 {
				want(t, "Learn", h.learn(i, leafs[i], proofOf(leafs, i)), api.OK)
				h.askAll()
				if h.tree.Many() != n+1 {
					t.Fatalf("size %d: Many() = %d, want %d", size, h.tree.Many(), n+1)
				}
			}
		}
		for _, i := range edges(size) {
			want(t, "Forget", h.forget(i), api.OK)
			want(t, "Forget again", h.forget(i), api.ErrNone)
			h.askAll()
		}
		if h.tree.Many() != 0 {
			t.Fatalf("size %d: Many() = %d", size, h.tree.Many())
		}
	}
}

// otherProofs are proofs of the same leaf, each with a twin in place of one of its sums.
func otherProofs(proof []int) (l [][]int) {
	for at, sum := range proof {
		if other := twin(sum); other != sum {
			list := slices.Clone(proof)
			list[at] = other
			l = append(l, list)
		}
	}
	return l
}

// N1: of one leaf that was learned by several proofs the last one is told, also where it was forgotten between.
func TestProvesByLast(t *testing.T) {
	for _, size := range someSizes[1:] {
		leafs := someLeafs(size)
		h := holdLeafs(t, leafs)
		for _, i := range edges(size) {
			first := proofOf(leafs, i)
			others := otherProofs(first)
			if len(others) == 0 && size > 3 {
				t.Fatalf("size %d: no other proof of %d", size, i)
			}
			for _, list := range append(others, first, first) {
				want(t, "Learn", h.learn(i, leafs[i], list), api.OK)
				h.askAll()
			}
			for _, list := range others {
				want(t, "Forget", h.forget(i), api.OK)
				want(t, "Learn", h.learn(i, leafs[i], list), api.OK)
				h.askAll()
			}
		}
	}
}

// N1: a place that is known with another sum: by the same proof, and by others; what is known stays as it was, its proof too.
func TestClash(t *testing.T) {
	for _, size := range someSizes[1:] {
		leafs := someLeafs(size)
		others := twins(leafs)
		for _, i := range edges(size) {
			h := holdLeafs(t, leafs)
			list := proofOf(leafs, i)
			proofs := append(otherProofs(list), list, proofOf(others, i))
			want(t, "Learn", h.learn(i, leafs[i], list), api.OK)
			for _, other := range proofs {
				want(t, "another sum", h.learn(i, others[i], other), api.ErrClash)
				h.askAll()
			}
			want(t, "Forget", h.forget(i), api.OK)
			want(t, "the other sum", h.learn(i, others[i], list), api.OK)
			h.askAll()
			for _, other := range proofs {
				want(t, "the first sum", h.learn(i, leafs[i], other), api.ErrClash)
				h.askAll()
			}
			want(t, "the other sum again", h.learn(i, others[i], proofs[0]), api.OK)
			h.askAll()
		}
	}
}

// beside is what stands beside a first leaf of a tree of two that has this root, where there is such a sum: its four bytes weigh 131 times as much, each one, as the one behind.
func beside(sum, root int) (int, bool) {
	const weight = 131 * 131 * 131
	left := (root - node(sum, 0) + prime) % prime
	if left/weight >= 128 {
		return 0, false
	}
	return left/weight<<24 | left/(131*131)%131<<16 | left/131%131<<8 | left%131, true
}

// N1: a sum at its edge clashes as any other does, whether it was learned ahead or comes behind.
func TestClashAtEdges(t *testing.T) {
	for _, sum := range []int{0, 1, prime - 2, prime - 1} {
		root, found := node(sum, 5), 0
		for other := 0; found < 20; other++ {
			list, there := beside(other, root)
			if !there || other == sum {
				continue
			}
			found++
			for _, c := range [][]int{{sum, 5, other, list}, {other, list, sum, 5}} {
				h := hold(t, 2, root)
				want(t, "Learn", h.learn(0, c[0], c[1:2]), api.OK)
				want(t, "another sum", h.learn(0, c[2], c[3:]), api.ErrClash)
				h.askAll()
				want(t, "Forget", h.forget(0), api.OK)
				want(t, "the other sum", h.learn(0, c[2], c[3:]), api.OK)
				h.askAll()
			}
		}
	}
}

// N1: it is the leaf's own sum alone that may clash, none that a proof tells of a leaf beside it.
func TestNoClashBeside(t *testing.T) {
	for _, size := range someSizes[1:] {
		leafs := someLeafs(size)
		others := twins(leafs)
		for from, to := range map[int]int{0: 1, 1: 0} {
			h := holdLeafs(t, leafs)
			want(t, "Learn", h.learn(from, leafs[from], proofOf(leafs, from)), api.OK)
			want(t, "beside it", h.ask(to), api.ErrNone)
			want(t, "Forget beside it", h.forget(to), api.ErrNone)
			beside := proofOf(others, to)
			want(t, "Learn beside it, told otherwise", h.learn(to, leafs[to], beside), api.OK)
			h.askAll()
			want(t, "Forget", h.forget(from), api.OK)
			want(t, "beside it still", h.ask(to), api.OK)
			want(t, "Learn", h.learn(from, others[from], proofOf(leafs, from)), api.OK)
			h.askAll()
		}
	}
}

// N1: of size 1 the proof is empty, and the root is the leaf.
func TestSizeOne(t *testing.T) {
	for _, root := range []int{0, 1, 5381, prime - 1} {
		h := hold(t, 1, root)
		want(t, "not learned", h.ask(0), api.ErrNone)
		want(t, "Forget what was not learned", h.forget(0), api.ErrNone)
		want(t, "another sum", h.learn(0, changed(root), nil), api.ErrProof)
		want(t, "with a proof", h.learn(0, root, []int{root}), api.ErrShape)
		h.askAll()
		for _, list := range [][]int{nil, {}} {
			for range 2 {
				if err := h.tree.Learn(0, root, list); err != nil {
					t.Fatal(err)
				}
				want(t, "Learn", h.learn(0, root, list), api.OK)
				h.askAll()
			}
			want(t, "another sum", h.learn(0, changed(root), list), api.ErrProof)
			want(t, "with a proof", h.learn(0, root, []int{5}), api.ErrShape)
			h.askAll()
			want(t, "Forget", h.forget(0), api.OK)
			h.askAll()
		}
	}
}

// N1: sums at their edges, as leafs and as what is beside them.
func TestSumsAtEdges(t *testing.T) {
	for _, a := range []int{0, 1, prime - 2, prime - 1} {
		for _, b := range []int{0, 1, prime - 2, prime - 1} {
			for _, leafs := range [][]int{{a, b}, {a, b, a}, {b, b, a, a, b}} {
				h := holdLeafs(t, leafs)
				for i, sum := range leafs {
					want(t, "Learn", h.learn(i, sum, proofOf(leafs, i)), api.OK)
					h.askAll()
				}
			}
		}
	}
}

// N1: of Check's errors each by itself, in a tree of which nothing is known, or all.
func TestLearnRefused(t *testing.T) {
	for _, size := range someSizes {
		leafs := someLeafs(size)
		none, all := holdLeafs(t, leafs), holdLeafs(t, leafs)
		for i, list := range proofsOf(leafs) {
			want(t, "Learn", all.learn(i, leafs[i], list), api.OK)
		}
		for _, h := range []held{none, all} {
			refused := func(what string, i, sum int, list []int, wanted api.Errno) {
				t.Helper()
				want(t, what, h.learn(i, sum, list), wanted)
				h.askAll()
			}
			for _, i := range edges(size) {
				sum, list := leafs[i], proofOf(leafs, i)
				for _, bad := range noPlaces(size) {
					refused("a place that is none", bad, sum, list, api.ErrRange)
				}
				for _, bad := range noSums {
					refused("no sum", i, bad, list, api.ErrRange)
				}
				refused("another sum", i, changed(sum), list, api.ErrProof)
				refused("one longer", i, sum, append(slices.Clone(list), 5), api.ErrShape)
				for at, beside := range list {
					wrong := slices.Clone(list)
					wrong[at] = changed(beside)
					refused("one sum of the proof changed", i, sum, wrong, api.ErrProof)
					wrong[at] = noSums[(at+i)%len(noSums)]
					refused("one of the proof is no sum", i, sum, wrong, api.ErrRange)
				}
				if size > 1 {
					refused("one shorter", i, sum, list[:len(list)-1], api.ErrShape)
				}
			}
		}
	}
}

// N1: the proof of one place at each other one, where that is as long, and where it is not.
func TestLearnElsewhere(t *testing.T) {
	for size := 2; size <= 17; size++ {
		leafs := someLeafs(size)
		h := holdLeafs(t, leafs)
		for i, list := range proofsOf(leafs) {
			for j := range size {
				if i == j {
					continue
				}
				wanted := api.ErrProof
				if len(list) != steps(size, j) {
					wanted = api.ErrShape
				}
				want(t, "a proof of another place", h.learn(j, leafs[i], list), wanted)
				want(t, "a proof of another place and sum", h.learn(j, leafs[j], list), wanted)
				h.askAll()
			}
		}
	}
}

// N1: of several wrong at once the first is told: each place with each sum and each proof, in trees of which nothing, all, or all with other sums is known.
func TestLearnOrder(t *testing.T) {
	for _, size := range []int{1, 2, 3, 5, 8, 13, 17} {
		leafs := someLeafs(size)
		others := twins(leafs)
		trees := []held{holdLeafs(t, leafs), holdLeafs(t, leafs)}
		for i, list := range proofsOf(leafs) {
			want(t, "Learn", trees[1].learn(i, leafs[i], list), api.OK)
		}
		if size > 1 {
			trees = append(trees, holdLeafs(t, leafs))
			for i, list := range proofsOf(leafs) {
				want(t, "Learn", trees[2].learn(i, others[i], list), api.OK)
			}
		}
		for _, i := range edges(size) {
			list := proofOf(leafs, i)
			proofs := append(otherProofs(list), list, nil, append(slices.Clone(list), 5), append(slices.Clone(list), -1), []int{-1}, proofOf(leafs, size-1-i), slices.Repeat([]int{changed(leafs[i])}, len(list)), slices.Repeat([]int{prime}, len(list)), make([]int, 1000))
			if size > 1 {
				proofs = append(proofs, list[1:], list[:len(list)-1])
			}
			for _, h := range trees {
				for _, at := range append([]int{i, size - 1 - i}, noPlaces(size)...) {
					for _, sum := range []int{leafs[i], others[i], changed(leafs[i]), -1, prime, math.MaxInt} {
						for _, list := range proofs {
							// What is learned is taken back, so that each call finds the tree as the first did.
							before, told, known := h.own.find(at)
							if h.learn(at, sum, list) == api.OK {
								h.ask(at)
								want(t, "Forget", h.forget(at), api.OK)
								if known == api.OK {
									want(t, "Learn", h.learn(at, before, told), api.OK)
								}
							}
							h.askAll()
						}
					}
				}
			}
		}
	}
}

// N1: Knows, Prove and Forget of a place that is none, and of one that is not known.
func TestAskWrong(t *testing.T) {
	for size := 1; size <= mostLeafs; size++ {
		leafs := someLeafs(size)
		h := holdLeafs(t, leafs)
		refused := func() {
			t.Helper()
			for _, i := range noPlaces(size) {
				want(t, "a place that is none", h.ask(i), api.ErrRange)
				want(t, "Forget of a place that is none", h.forget(i), api.ErrRange)
			}
			for _, i := range edges(size) {
				if h.own.sums[i] == unknown {
					want(t, "not known", h.ask(i), api.ErrNone)
					want(t, "Forget of what is not known", h.forget(i), api.ErrNone)
				}
			}
			h.askAll()
		}
		refused()
		for _, i := range edges(size) {
			want(t, "Learn", h.learn(i, leafs[i], proofOf(leafs, i)), api.OK)
			refused()
		}
		for _, i := range edges(size) {
			want(t, "Forget", h.forget(i), api.OK)
			refused()
		}
	}
}

// step draws one call and makes it, and tells its name and what came of it.
func step(r *rand.Rand, h held, leafs []int, proofs [][]int) (string, api.Errno) {
	size := len(leafs)
	i := r.Intn(size)
	if r.Intn(20) == 0 {
		bad := noPlaces(size)
		i = bad[r.Intn(len(bad))]
	}
	switch r.Intn(10) {
	case 0, 1, 2:
		return "forget", h.forget(i)
	case 3:
		return "ask", h.ask(i)
	}
	of := max(0, min(i, size-1))
	sum, list := leafs[of], slices.Clone(proofs[of])
	switch r.Intn(12) {
	case 0, 1:
		sum = twin(sum)
	case 2:
		sum = changed(sum)
	case 3:
		sum = noSums[r.Intn(len(noSums))]
	}
	switch r.Intn(12) {
	case 0:
		list = append(list, r.Intn(prime))
	case 1:
		list = list[:len(list)/2]
	case 2, 3, 4:
		for at := range list {
			if r.Intn(2) == 0 {
				list[at] = twin(list[at])
			}
		}
	case 5:
		if len(list) > 0 {
			list[r.Intn(len(list))] = r.Intn(prime)
		}
	case 6:
		if len(list) > 0 {
			list[r.Intn(len(list))] = noSums[r.Intn(len(noSums))]
		}
	}
	return "learn", h.learn(i, sum, list)
}

// N1: long scripts, drawn, held step by step against the reckoning.
func TestDrawn(t *testing.T) {
	for _, size := range append(numbers(1, 18), 50, 100, 128, 199, 200) {
		r := rand.New(rand.NewSource(int64(1900 + size)))
		leafs := someLeafs(size)
		proofs := proofsOf(leafs)
		h, came := holdLeafs(t, leafs), map[string]int{}
		for range 3000 {
			name, told := step(r, h, leafs, proofs)
			came[name+" "+told.Error()]++
			h.askAll()
		}
		wanted := []string{"learn OK", "learn ErrRange", "learn ErrShape", "learn ErrProof", "learn ErrClash", "ask OK", "ask ErrRange", "ask ErrNone", "forget OK", "forget ErrRange", "forget ErrNone"}
		for _, name := range wanted {
			if came[name] == 0 && !(size == 1 && name == "learn ErrClash") {
				t.Errorf("size %d: the script has no %s", size, name)
			}
		}
	}
}

// N1: what is told holds by chapter 4's Check, and is what its Make tells.
func TestProofsHold(t *testing.T) {
	for _, size := range someSizes {
		leafs := someLeafs(size)
		root := rootOf(leafs)
		h := holdLeafs(t, leafs)
		for i := range size {
			made, err := proof.Make(leafs, i, size)
			if err != nil {
				t.Fatal(err)
			}
			want(t, "Learn", h.learn(i, leafs[i], made), api.OK)
			sum, err := h.tree.Knows(i)
			if err != nil {
				t.Fatal(err)
			}
			list, err := h.tree.Prove(i)
			if !slices.Equal(list, made) || err != nil {
				t.Fatalf("size %d: Prove(%d) = %v, %v, want %v", size, i, list, err, made)
			}
			if err := proof.Check(root, size, i, sum, list); err != nil {
				t.Fatalf("size %d: what Prove(%d) tells: %v", size, i, err)
			}
		}
	}
}

// DOC's P2: a proof that was handed in is not kept, nor is what stands behind it.
func TestLearnKeepsNothing(t *testing.T) {
	for _, size := range someSizes {
		leafs := someLeafs(size)
		made, err := prune.New(size, rootOf(leafs))
		if err != nil {
			t.Fatal(err)
		}
		for _, i := range edges(size) {
			keep := proofOf(leafs, i)
			room := append(slices.Clone(keep), 1, 2, 3)
			if err := made.Learn(i, leafs[i], room[:len(keep)]); err != nil {
				t.Fatal(err)
			}
			for range 2 {
				for at := range room {
					room[at]++
				}
				list, err := made.Prove(i)
				if !slices.Equal(list, keep) || err != nil {
					t.Fatalf("size %d: Prove(%d) = %v, %v, want %v", size, i, list, err, keep)
				}
				_ = append(list, -1, -2, -3)
				if room[len(keep)] < 0 {
					t.Fatalf("size %d: Prove(%d) tells the memory behind what was handed in", size, i)
				}
			}
		}
	}
}

// DOC's P2: an empty list, too, is told in no memory that was handed in.
func TestEmptyKeepsNothing(t *testing.T) {
	made, err := prune.New(1, 5)
	if err != nil {
		t.Fatal(err)
	}
	room := []int{1, 2, 3}
	if err := made.Learn(0, 5, room[:0]); err != nil {
		t.Fatal(err)
	}
	list, err := made.Prove(0)
	if len(list) != 0 || err != nil {
		t.Fatalf("Prove(0) = %v, %v", list, err)
	}
	if unsafe.SliceData(list) == unsafe.SliceData(room) {
		t.Error("Prove(0) tells a list in the memory that was handed in")
	}
}

// DOC's P2: what Prove hands back is the caller's own, each time anew.
func TestProveAnew(t *testing.T) {
	for _, size := range someSizes[1:] {
		leafs := someLeafs(size)
		h := holdLeafs(t, leafs)
		for _, i := range edges(size) {
			keep := proofOf(leafs, i)
			want(t, "Learn", h.learn(i, leafs[i], keep), api.OK)
			var lists [][]int
			for range 3 {
				list, err := h.tree.Prove(i)
				if err != nil {
					t.Fatal(err)
				}
				lists = append(lists, list)
			}
			for n := range lists[0] {
				lists[0][n] = -1
			}
			_ = append(lists[1][:0], slices.Repeat([]int{-2}, len(keep)+3)...)
			if !slices.Equal(lists[2], keep) {
				t.Fatalf("size %d: two proofs of %d share memory", size, i)
			}
			h.askAll()
			want(t, "Forget", h.forget(i), api.OK)
			want(t, "Learn another one", h.learn(i, twin(leafs[i]), keep), api.OK)
			if !slices.Equal(lists[2], keep) {
				t.Fatalf("size %d: a later call wrote into a proof of %d", size, i)
			}
			// A Tree that learns what it told must not keep that either.
			want(t, "Forget", h.forget(i), api.OK)
			if err := h.tree.Learn(i, leafs[i], lists[2]); err != nil {
				t.Fatal(err)
			}
			h.own.learn(i, leafs[i], keep)
			lists[2][0] = -3
			h.askAll()
		}
	}
}

// N1: what one of two trees learns or forgets the other does not, be they of one root or of two.
func TestTwoTrees(t *testing.T) {
	for _, size := range someSizes[1:] {
		leafs := someLeafs(size)
		others := make([]int, size)
		for i := range others {
			others[i] = changed(leafs[i])
		}
		a, b, c := holdLeafs(t, leafs), holdLeafs(t, leafs), holdLeafs(t, others)
		askAll := func() {
			t.Helper()
			a.askAll()
			b.askAll()
			c.askAll()
		}
		for _, i := range edges(size) {
			want(t, "a learns", a.learn(i, leafs[i], proofOf(leafs, i)), api.OK)
			askAll()
			want(t, "c learns", c.learn(i, others[i], proofOf(others, i)), api.OK)
			askAll()
			want(t, "b learns", b.learn(i, twin(leafs[i]), proofOf(leafs, i)), api.OK)
			askAll()
			want(t, "c is not of a's root", c.learn(i, leafs[i], proofOf(leafs, i)), api.ErrProof)
			want(t, "a forgets", a.forget(i), api.OK)
			askAll()
		}
	}
}

// DOC's P1: lists far longer than any proof.
func TestLongLists(t *testing.T) {
	many := make([]int, 100_000)
	for _, size := range []int{1, 2, 200} {
		leafs := someLeafs(size)
		h := holdLeafs(t, leafs)
		want(t, "Learn", h.learn(0, leafs[0], proofOf(leafs, 0)), api.OK)
		many[len(many)-1] = 0
		want(t, "many", h.learn(0, leafs[0], many), api.ErrShape)
		want(t, "many, of a place that is none", h.learn(size, leafs[0], many), api.ErrRange)
		many[len(many)-1] = prime
		want(t, "many, the last one no sum", h.learn(0, leafs[0], many), api.ErrRange)
		h.askAll()
	}
}
