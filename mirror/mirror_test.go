package mirror_test

import (
	"fmt"
	"math"
	"math/rand"
	"slices"
	"strconv"
	"strings"
	"testing"
	"unsafe"

	"witnessbox/api"
	"witnessbox/mirror"
	"witnessbox/mix"
	"witnessbox/plain"
)

const (
	key     = 7
	noRoot  = 5381 // the Sum of no bytes
	page    = 16
	most    = 200
	maxTime = 1_000_000
)

type entries = []api.Entry

var (
	badKeys  = []int{0, -1, -7, -1_000_000, 1_000_001, 1_000_002, 1 << 32, 1<<32 + 7, math.MinInt32, math.MinInt, math.MaxInt}
	goodKeys = []int{1, 2, 7, 9, 10, 1000, 999_999, 1_000_000}
	badSums  = []int{-1, -api.Prime, api.Prime, api.Prime + 1, 1 << 32, math.MinInt, math.MaxInt}
	badTimes = []int{-1, -maxTime, maxTime + 1, 1 << 24, 1<<32 + 5, math.MinInt, math.MaxInt}
	badWhats = []int{-1, -2, 4, 5, 256, 257, 258, 1 << 32, 1<<32 + 1, math.MinInt, math.MaxInt}
	// someSizes are powers of two, those beside them, and others, from 0 to all.
	someSizes = []int{0, 1, 2, 3, 4, 5, 7, 8, 9, 15, 16, 17, 18, 31, 32, 33, 34, 47, 48, 49, 63, 64, 65, 100, 127, 128, 129, 144, 183, 184, 185, 199, 200}
)

// logOf is a log of so many entries; of another name all of its entries are others.
func logOf(name string, n int) (l entries) {
	for i := range n {
		l = append(l, api.Entry{Time: i * 4999 % (maxTime + 1), Data: name + strconv.Itoa(i) + strings.Repeat("\xff", i%9)})
	}
	return l
}

// forked is a log that has the first entries of another one, and then its own.
func forked(l entries, same int) entries {
	return slices.Concat(l[:same], logOf("fork", len(l))[same:])
}

// nodeByHand is chapter 1's Node.
func nodeByHand(a, b int) int {
	bytes := []byte{1}
	for _, n := range []int{a, b} {
		bytes = append(bytes, byte(n>>24), byte(n>>16), byte(n>>8), byte(n))
	}
	return mix.Sum(string(bytes))
}

// splitByHand is chapter 2's Split.
func splitByHand(n int) int {
	k := 1
	for 2*k < n {
		k *= 2
	}
	return k
}

// rootByHand is chapter 2's Root.
func rootByHand(leafs []int) int {
	switch len(leafs) {
	case 0:
		return noRoot
	case 1:
		return leafs[0]
	}
	k := splitByHand(len(leafs))
	return nodeByHand(rootByHand(leafs[:k]), rootByHand(leafs[k:]))
}

// leafsByHand is chapter 7's Leafs.
func leafsByHand(l entries) (leafs []int) {
	for _, e := range l {
		ahead := []byte{0, byte(e.Time >> 16), byte(e.Time >> 8), byte(e.Time), byte(len(e.Data))}
		leafs = append(leafs, mix.Sum(string(ahead)+e.Data))
	}
	return leafs
}

func rootOfLog(l entries) int { return rootByHand(leafsByHand(l)) }

// growByHand is chapter 5's proof of (old, size, whole), word for word.
func growByHand(leafs []int, old int, whole bool) []int {
	switch {
	case old == len(leafs) && whole:
		return nil
	case old == len(leafs):
		return []int{rootByHand(leafs)}
	}
	k := splitByHand(len(leafs))
	if old <= k {
		return append(growByHand(leafs[:k], old, whole), rootByHand(leafs[k:]))
	}
	return append(growByHand(leafs[k:], old-k, false), rootByHand(leafs[:k]))
}

// rootsByHand tells what comes of a proof as the old root, and as the new one.
func rootsByHand(oldRoot, old, size int, whole bool, proof []int) (before, after int) {
	switch {
	case old == size && whole:
		return oldRoot, oldRoot
	case old == size:
		return proof[0], proof[0]
	}
	rest, last := proof[:len(proof)-1], proof[len(proof)-1]
	k := splitByHand(size)
	if old <= k {
		before, after = rootsByHand(oldRoot, old, k, whole, rest)
		return before, nodeByHand(after, last)
	}
	before, after = rootsByHand(oldRoot, old-k, size-k, false, rest)
	return nodeByHand(last, before), nodeByHand(last, after)
}

// signed is a head with the Sign of a key.
func signed(size, root, time, key int) api.Head {
	return api.Head{Size: size, Root: root, Time: time, Sign: mix.Sum(fmt.Sprintf("%d %08x %d %d", size, root, time, key))}
}

func headOf(l entries, time int) api.Head { return signed(len(l), rootOfLog(l), time, key) }

func proofOf(l entries, old int) []int { return growByHand(leafsByHand(l), old, true) }

func aHead(h api.Head) api.Reply { return api.Reply{What: api.AHead, Head: h} }

func some(l ...api.Entry) api.Reply { return api.Reply{What: api.Some, Entries: l} }

func aProof(proof ...int) api.Reply { return api.Reply{What: api.AProof, Proof: proof} }

// honest is what a log answers that is asked for what is wanted.
func honest(l entries, want api.Want, time int) api.Reply {
	switch want.What {
	case api.AHead:
		return aHead(headOf(l, time))
	case api.Some:
		return some(slices.Clone(l[want.From:want.To])...)
	}
	return aProof(proofOf(l[:want.To], want.From)...)
}

// model is M1 and M2, word for word, on lists.
type model struct {
	key         int
	own, wait   entries
	heard, head api.Head
	want        api.Want
}

func (m *model) hear(r api.Reply) (told api.Errno) {
	switch {
	case r.What == api.Nothing:
		return api.OK
	case r.What != m.want.What:
		return api.ErrShape
	case r.What == api.AHead:
		return m.hearHead(r.Head)
	case r.What == api.Some:
		told = m.hearEntries(r.Entries)
	default:
		told = m.hearProof(r.Proof)
	}
	if told != api.OK {
		m.wantHead()
	}
	return told
}

func (m *model) wantHead() {
	m.wait, m.heard, m.want = nil, api.Head{}, api.Want{What: api.AHead}
}

func (m *model) wantMore() {
	there := len(m.own) + len(m.wait)
	to := m.heard.Size
	if to > there+page {
		to = there + page
	}
	m.want = api.Want{What: api.Some, From: there, To: to}
}

func (m *model) hearHead(h api.Head) api.Errno {
	if told := refusedHead(h, m.key); told != api.OK {
		return told
	}
	if h.Size < len(m.own) || h.Size == len(m.own) && h.Root != rootOfLog(m.own) {
		return api.ErrShape
	}
	if h.Size > len(m.own) {
		m.heard = h
		m.wantMore()
	} else if h.Time > m.head.Time {
		m.head = h
	}
	return api.OK
}

func (m *model) hearEntries(l entries) api.Errno {
	if len(l) < 1 || len(l) > m.want.To-m.want.From {
		return api.ErrShape
	}
	for _, e := range l {
		if e.Time < 0 || e.Time > maxTime {
			return api.ErrRange
		}
		if len(e.Data) > 200 {
			return api.ErrFull
		}
	}
	m.wait = slices.Concat(m.wait, l)
	switch {
	case len(m.own)+len(m.wait) < m.heard.Size:
		m.wantMore()
	case len(m.own) > 0:
		m.want = api.Want{What: api.AProof, From: len(m.own), To: m.heard.Size}
	default:
		return m.goOn()
	}
	return api.OK
}

func (m *model) hearProof(proof []int) api.Errno {
	for _, n := range proof {
		if n < 0 || n >= api.Prime {
			return api.ErrRange
		}
	}
	old, size := len(m.own), m.heard.Size
	if len(proof) != len(growByHand(make([]int, size), old, true)) {
		return api.ErrShape
	}
	oldRoot := rootOfLog(m.own)
	before, after := rootsByHand(oldRoot, old, size, true, proof)
	if before != oldRoot || after != m.heard.Root {
		return api.ErrProof
	}
	return m.goOn()
}

func (m *model) goOn() api.Errno {
	all := slices.Concat(m.own, m.wait)
	if rootOfLog(all) != m.heard.Root {
		return api.ErrProof
	}
	m.own, m.head = all, m.heard
	m.wantHead()
	return api.OK
}

func refusedHead(h api.Head, key int) api.Errno {
	noSum := func(n int) bool { return n < 0 || n >= api.Prime }
	switch {
	case h.Size < 0 || h.Size > most || h.Time < 0 || h.Time > maxTime || noSum(h.Root) || noSum(h.Sign):
		return api.ErrRange
	case h != signed(h.Size, h.Root, h.Time, key):
		return api.ErrSign
	}
	return api.OK
}

// both is a Mirror and what the test reckons by itself.
type both struct {
	m *mirror.Mirror
	r *model
}

func freshOf(t *testing.T, key int) both {
	t.Helper()
	m, err := mirror.New(key)
	if err != nil || m == nil {
		t.Fatalf("New(%d): a Mirror: %v, %v", key, m != nil, err)
	}
	b := both{m, &model{key: key, want: api.Want{What: api.AHead}}}
	b.want(t, "new")
	return b
}

func fresh(t *testing.T) both {
	t.Helper()
	return freshOf(t, key)
}

// having is a Mirror that has followed a log up to now.
func having(t *testing.T, l entries) both {
	t.Helper()
	b := fresh(t)
	b.follow(t, l, 100)
	return b
}

// brief keeps what is told of a fault to a line.
func brief(v any) string { return fmt.Sprintf("%.200q", fmt.Sprint(v)) }

// wantError also asks that an Errno is told, never OK.
func wantError(t *testing.T, what string, err error, want api.Errno) {
	t.Helper()
	if want == api.OK && err != nil || want != api.OK && (err == nil || plain.Told(err) != want) {
		t.Fatalf("%s: error %v, want %v", what, err, want)
	}
}

// want asks for all that a Mirror can tell.
func (b both) want(t *testing.T, what string) {
	t.Helper()
	if got := b.m.Want(); got != b.r.want {
		t.Fatalf("%s: wants %v, want %v", what, got, b.r.want)
	}
	if b.m.Size() != len(b.r.own) || b.m.Root() != rootOfLog(b.r.own) || b.m.Head() != b.r.head {
		t.Fatalf("%s: Size %d, Root %d, Head %v, want %d, %d, %v", what, b.m.Size(), b.m.Root(), b.m.Head(), len(b.r.own), rootOfLog(b.r.own), b.r.head)
	}
	if got := b.m.Entries(); !slices.Equal(got, b.r.own) {
		t.Fatalf("%s: Entries %s, want %s", what, brief(got), brief(b.r.own))
	}
}

// hear lets both hear a reply, asks for all that can be told behind it, and tells its error.
func (b both) hear(t *testing.T, r api.Reply) api.Errno {
	t.Helper()
	told := b.r.hear(r)
	what := "behind " + brief(r)
	wantError(t, what, b.m.Hear(r), told)
	b.want(t, what)
	return told
}

// wantTold lets both hear replies, each of which must tell the same error.
func (b both) wantTold(t *testing.T, told api.Errno, replies ...api.Reply) {
	t.Helper()
	for _, r := range replies {
		if got := b.hear(t, r); got != told {
			t.Fatalf("%s: %v, want %v", brief(r), got, told)
		}
	}
}

// wantNow asks for what is written out by hand.
func (b both) wantNow(t *testing.T, what, from, to, size int, h api.Head) {
	t.Helper()
	want := api.Want{What: what, From: from, To: to}
	if b.m.Want() != want || b.m.Size() != size || b.m.Head() != h {
		t.Fatalf("wants %v, Size %d, Head %v, want %v, %d, %v", b.m.Want(), b.m.Size(), b.m.Head(), want, size, h)
	}
}

// answer lets both hear what a log answers to what they want.
func (b both) answer(t *testing.T, l entries, time int) {
	t.Helper()
	b.wantTold(t, api.OK, honest(l, b.m.Want(), time))
}

// follow a log from a head on until a head is wanted again; it tells all that was wanted on the way.
func (b both) follow(t *testing.T, l entries, time int) (wants []api.Want) {
	t.Helper()
	for len(wants) == 0 || b.m.Want().What != api.AHead {
		wants = append(wants, b.m.Want())
		b.answer(t, l, time)
	}
	if h := headOf(l, time); !slices.Equal(b.m.Entries(), l) || b.m.Root() != h.Root || b.m.Head().Root != h.Root && len(l) > 0 {
		t.Fatalf("a log of %d was followed to Size %d, Root %d, Head %v", len(l), b.m.Size(), b.m.Root(), b.m.Head())
	}
	return wants
}

// wantsByHand tells what is wanted on the way from a size to another one.
func wantsByHand(from, to int) []api.Want {
	wants := []api.Want{{What: api.AHead}}
	for at := from; at < to; at += page {
		wants = append(wants, api.Want{What: api.Some, From: at, To: min(at+page, to)})
	}
	if 0 < from && from < to {
		wants = append(wants, api.Want{What: api.AProof, From: from, To: to})
	}
	return wants
}

func (b both) wantFollow(t *testing.T, l entries, time int) {
	t.Helper()
	want := wantsByHand(b.m.Size(), len(l))
	if got := b.follow(t, l, time); !slices.Equal(got, want) {
		t.Fatalf("to %d: wanted %v, want %v", len(l), got, want)
	}
}

// M1: New of keys that are none, and of ones that are.
func TestNew(t *testing.T) {
	for _, key := range badKeys {
		m, err := mirror.New(key)
		if m != nil {
			t.Errorf("New(%d): a Mirror beside an error", key)
		}
		wantError(t, fmt.Sprintf("New(%d)", key), err, api.ErrRange)
	}
	for _, key := range goodKeys {
		b := freshOf(t, key)
		b.wantNow(t, api.AHead, 0, 0, 0, api.Head{})
		if b.m.Root() != mix.Sum("") || len(b.m.Entries()) != 0 {
			t.Fatalf("New(%d): Root %d, Entries %v", key, b.m.Root(), b.m.Entries())
		}
		for _, other := range goodKeys {
			told := api.ErrSign
			if other == key {
				told = api.OK
			}
			b.wantTold(t, told, aHead(signed(0, noRoot, 5, other)))
		}
		b.wantTold(t, api.OK, aHead(signed(2, noRoot, 5, key)))
		b.wantNow(t, api.Some, 0, 2, 0, signed(0, noRoot, 5, key))
	}
}

// M1, M2: step by step, written out by hand; the sums were worked out by another program.
func TestSteps(t *testing.T) {
	hi, empty, odd := api.Entry{Time: 5, Data: "hi"}, api.Entry{}, api.Entry{Time: maxTime, Data: "b\xff"}
	none0, none1, none2 := api.Head{Root: 5381, Sign: 200211487}, api.Head{Root: 5381, Time: 1, Sign: 200228648}, api.Head{Root: 5381, Time: 2, Sign: 200245809}
	one := api.Head{Size: 1, Root: 1395826685, Time: 4, Sign: 504026300}
	two, twoLater := api.Head{Size: 2, Root: 1267198852, Time: 1, Sign: 181936400}, api.Head{Size: 2, Root: 1267198852, Time: 4, Sign: 181987883}
	lie := api.Head{Size: 2, Root: 5381, Time: 9, Sign: 2012561012}
	three := api.Head{Size: 3, Root: 1735167711, Time: 3, Sign: 749598122}
	four, fourLater := api.Head{Size: 4, Root: 1897324227, Time: 0, Sign: 1222329663}, api.Head{Size: 4, Root: 1897324227, Time: 3, Sign: 1222381146}
	b := fresh(t)
	for i, c := range []struct {
		r          api.Reply
		told       api.Errno
		want       api.Want
		size, root int
		head       api.Head
	}{
		{api.Reply{}, api.OK, api.Want{What: 1}, 0, 5381, api.Head{}},
		{aHead(none0), api.OK, api.Want{What: 1}, 0, 5381, api.Head{}},
		{aHead(none2), api.OK, api.Want{What: 1}, 0, 5381, none2},
		{aHead(none1), api.OK, api.Want{What: 1}, 0, 5381, none2},
		{aHead(two), api.OK, api.Want{What: 2, From: 0, To: 2}, 0, 5381, none2},
		{some(hi), api.OK, api.Want{What: 2, From: 1, To: 2}, 0, 5381, none2},
		{api.Reply{}, api.OK, api.Want{What: 2, From: 1, To: 2}, 0, 5381, none2},
		{aHead(two), api.ErrShape, api.Want{What: 2, From: 1, To: 2}, 0, 5381, none2},
		{some(empty), api.OK, api.Want{What: 1}, 2, 1267198852, two},
		{aHead(one), api.ErrShape, api.Want{What: 1}, 2, 1267198852, two},
		{aHead(lie), api.ErrShape, api.Want{What: 1}, 2, 1267198852, two},
		{aHead(twoLater), api.OK, api.Want{What: 1}, 2, 1267198852, twoLater},
		{aHead(four), api.OK, api.Want{What: 2, From: 2, To: 4}, 2, 1267198852, twoLater},
		{some(odd, hi), api.OK, api.Want{What: 3, From: 2, To: 4}, 2, 1267198852, twoLater},
		{aProof(), api.ErrShape, api.Want{What: 1}, 2, 1267198852, twoLater},
		{aHead(three), api.OK, api.Want{What: 2, From: 2, To: 3}, 2, 1267198852, twoLater},
		{some(odd), api.OK, api.Want{What: 3, From: 2, To: 3}, 2, 1267198852, twoLater},
		{aProof(509865456), api.OK, api.Want{What: 1}, 3, 1735167711, three},
		{aHead(fourLater), api.OK, api.Want{What: 2, From: 3, To: 4}, 3, 1735167711, three},
		{some(empty), api.OK, api.Want{What: 3, From: 3, To: 4}, 3, 1735167711, three},
		{aProof(509865456, 1395826685, 1267198852), api.ErrProof, api.Want{What: 1}, 3, 1735167711, three},
		{aHead(four), api.OK, api.Want{What: 2, From: 3, To: 4}, 3, 1735167711, three},
		{some(hi), api.OK, api.Want{What: 3, From: 3, To: 4}, 3, 1735167711, three},
		{aProof(509865456, 1395826685, 1267198852), api.OK, api.Want{What: 1}, 4, 1897324227, four},
	} {
		if told := b.hear(t, c.r); told != c.told {
			t.Fatalf("step %d: %v, want %v", i, told, c.told)
		}
		b.wantNow(t, c.want.What, c.want.From, c.want.To, c.size, c.head)
		if b.m.Root() != c.root || !slices.Equal(b.m.Entries(), entries{hi, empty, odd, hi}[:c.size]) {
			t.Fatalf("step %d: Root %d, Entries %v", i, b.m.Root(), b.m.Entries())
		}
	}
}

// M1: pages of a log, of which the sums were worked out by another program.
func TestPages(t *testing.T) {
	var l entries
	for i := range 20 {
		l = append(l, api.Entry{Time: i})
	}
	b := freshOf(t, 1_000_000)
	sixteen := api.Head{Size: 16, Root: 1382087409, Time: 9, Sign: 1932377938}
	twenty := api.Head{Size: 20, Root: 1719907792, Time: 9, Sign: 1362566638}
	b.wantTold(t, api.OK, aHead(twenty))
	b.wantNow(t, api.Some, 0, 16, 0, api.Head{})
	b.wantTold(t, api.OK, some(l[:16]...))
	b.wantNow(t, api.Some, 16, 20, 0, api.Head{})
	b.wantTold(t, api.OK, some(l[16:]...))
	b.wantNow(t, api.AHead, 0, 0, 20, twenty)

	b = freshOf(t, 1_000_000)
	b.wantTold(t, api.OK, aHead(sixteen), some(l[:16]...))
	b.wantNow(t, api.AHead, 0, 0, 16, sixteen)
	b.wantTold(t, api.OK, aHead(twenty))
	b.wantNow(t, api.Some, 16, 20, 16, sixteen)
	b.wantTold(t, api.OK, some(l[16:19]...))
	b.wantNow(t, api.Some, 19, 20, 16, sixteen)
	b.wantTold(t, api.OK, some(l[19]))
	b.wantNow(t, api.AProof, 16, 20, 16, sixteen)
	b.wantTold(t, api.OK, aProof(proofOf(l, 16)...))
	b.wantNow(t, api.AHead, 0, 0, 20, twenty)
}

// M1: a log of each size, from none on.
func TestFollow(t *testing.T) {
	l := logOf("e", most)
	for n := range most + 1 {
		b := fresh(t)
		b.wantFollow(t, l[:n], 3)
		b.wantNow(t, api.AHead, 0, 0, n, headOf(l[:n], 3))
		b.wantFollow(t, l[:n], 3)
	}
}

// M1: a log that grows once, from some sizes to others.
func TestGrows(t *testing.T) {
	l := logOf("e", most)
	for _, from := range someSizes {
		for _, to := range someSizes {
			if to < from {
				continue
			}
			b := having(t, l[:from])
			b.wantFollow(t, l[:to], 101)
			b.wantNow(t, api.AHead, 0, 0, to, headOf(l[:to], 101))
		}
	}
}

// M1: a log that grows again and again, by so many entries, up to all that there may be. Its Times need not rise.
func TestGrowsAgain(t *testing.T) {
	l := logOf("e", most)
	for _, by := range []int{1, 2, 3, 5, 7, 15, 16, 17, 31, 32, 33, 50, 64, 100, 199, 200} {
		b := fresh(t)
		for n := 0; n < most; {
			n = min(n+by, most)
			b.wantFollow(t, l[:n], n*7%11)
			b.wantNow(t, api.AHead, 0, 0, n, headOf(l[:n], n*7%11))
		}
	}
}

// M1: pages need not be full: what is wanted next begins behind what is there.
func TestShortPages(t *testing.T) {
	l := logOf("e", most)
	for _, from := range []int{0, 1, 2, 16, 17, 60} {
		for _, long := range []int{1, 2, 3, 7, 15, 16} {
			for _, n := range []int{1, 15, 16, 17, 32, 33, 60} {
				to := from + n
				b := having(t, l[:from])
				old := b.m.Head()
				b.answer(t, l[:to], 200)
				for at := from; at < to; {
					b.wantNow(t, api.Some, at, min(at+page, to), from, old)
					end := min(at+long, to)
					b.wantTold(t, api.OK, some(l[at:end]...))
					at = end
				}
				if from > 0 {
					b.wantNow(t, api.AProof, from, to, from, old)
					b.answer(t, l[:to], 200)
				}
				b.wantNow(t, api.AHead, 0, 0, to, headOf(l[:to], 200))
			}
		}
	}
}

// M1: the head is the one that was heard, not what the log has become since: its Size is what pages and proofs go to.
func TestGrowsWhileFollowed(t *testing.T) {
	l := logOf("e", 60)
	b := having(t, l[:3])
	b.answer(t, l[:25], 101)
	b.wantNow(t, api.Some, 3, 19, 3, headOf(l[:3], 100))
	b.answer(t, l[:40], 102)
	b.wantNow(t, api.Some, 19, 25, 3, headOf(l[:3], 100))
	b.answer(t, l[:60], 103)
	b.wantNow(t, api.AProof, 3, 25, 3, headOf(l[:3], 100))
	b.answer(t, l[:60], 104)
	b.wantNow(t, api.AHead, 0, 0, 25, headOf(l[:25], 101))
	b.wantFollow(t, l, 105)
}

// stages are Mirrors in each state that there is: what they want, and the log that they follow.
func stages(t *testing.T, try func(b both, l entries)) {
	t.Helper()
	l := logOf("e", 40)
	for _, size := range []int{0, 1, 5, 16, 17} {
		for steps := range 5 {
			b := having(t, l[:size])
			for range steps {
				b.answer(t, l, 101)
			}
			try(b, l)
		}
	}
}

// M2: Nothing: the same is wanted again, whatever else stands in the reply.
func TestNothing(t *testing.T) {
	stages(t, func(b both, l entries) {
		before := b.m.Want()
		b.wantTold(t, api.OK, api.Reply{})
		b.wantTold(t, api.OK, api.Reply{Head: headOf(l, 102), Entries: l, Proof: []int{1}})
		b.wantTold(t, api.OK, api.Reply{Head: api.Head{Size: -1}, Entries: entries{{Time: -1}}, Proof: []int{-1}})
		r := honest(l, before, 102)
		r.What = api.Nothing
		b.wantTold(t, api.OK, r, r, r)
		if b.m.Want() != before {
			t.Fatalf("wants %v, want %v", b.m.Want(), before)
		}
		b.follow(t, l, 102)
	})
}

// M2: a reply of another What than was asked for, whatever else stands in it: all stays as it was.
func TestAnotherWhat(t *testing.T) {
	stages(t, func(b both, l entries) {
		before := b.m.Want()
		whats := append([]int{api.AHead, api.Some, api.AProof}, badWhats...)
		for _, what := range whats {
			if what == before.What {
				continue
			}
			right := api.Reply{What: what, Head: headOf(l, 102), Entries: l[b.m.Size():][:page], Proof: proofOf(l, max(1, b.m.Size()))}
			asked := honest(l, before, 102)
			asked.What = what
			b.wantTold(t, api.ErrShape, api.Reply{What: what}, right, asked)
			b.wantTold(t, api.ErrShape, api.Reply{What: what, Head: api.Head{Size: -1}, Entries: entries{{Time: -1}}, Proof: []int{-1}})
			if b.m.Want() != before {
				t.Fatalf("wants %v, want %v", b.m.Want(), before)
			}
		}
		b.follow(t, l, 102)
	})
}

// M2: what stands in a reply beside what it is does not count.
func TestWhatElseStandsInAReply(t *testing.T) {
	stages(t, func(b both, l entries) {
		for first := true; first || b.m.Want().What != api.AHead; first = false {
			r := honest(l, b.m.Want(), 102)
			if r.What != api.AHead {
				r.Head = api.Head{Size: -1, Root: -1, Time: -1, Sign: -1}
			}
			if r.What != api.Some {
				r.Entries = entries{{Time: -1}, {Data: strings.Repeat("a", 201)}}
			}
			if r.What != api.AProof {
				r.Proof = []int{-1, api.Prime}
			}
			b.wantTold(t, api.OK, r)
		}
		b.wantNow(t, api.AHead, 0, 0, len(l), b.r.head)
	})
}

// M2: a head of as many entries, of the same Root: the Head is the Better one.
func TestSameSize(t *testing.T) {
	l := logOf("e", most)
	for _, n := range someSizes {
		b := having(t, l[:n])
		last := 100
		for _, time := range []int{100, 99, 0, 101, 101, 100, 102, 1, 5000, 4999, maxTime, maxTime - 1, maxTime, 0} {
			last = max(last, time)
			b.answer(t, l[:n], time)
			b.wantNow(t, api.AHead, 0, 0, n, headOf(l[:n], last))
		}
	}
}

// M2: a Mirror of no entries: the Root of a head of none is the Sum of no bytes, and one of Time 0 is not Better than all 0.
func TestHeadOfNone(t *testing.T) {
	b := fresh(t)
	b.wantTold(t, api.OK, aHead(signed(0, noRoot, 0, key)))
	b.wantNow(t, api.AHead, 0, 0, 0, api.Head{})
	for _, root := range []int{0, 1, noRoot - 1, noRoot + 1, mix.Leaf(""), api.Prime - 1} {
		b.wantTold(t, api.ErrShape, aHead(signed(0, root, 0, key)), aHead(signed(0, root, 9, key)))
		b.wantNow(t, api.AHead, 0, 0, 0, api.Head{})
	}
	b.wantTold(t, api.OK, aHead(signed(0, noRoot, 1, key)))
	b.wantNow(t, api.AHead, 0, 0, 0, signed(0, noRoot, 1, key))
	b.wantTold(t, api.OK, aHead(signed(0, noRoot, 0, key)))
	b.wantNow(t, api.AHead, 0, 0, 0, signed(0, noRoot, 1, key))
	b.wantTold(t, api.ErrShape, aHead(signed(0, 0, 9, key)))
	b.wantFollow(t, logOf("e", 1), 0)
	b.wantTold(t, api.ErrShape, aHead(signed(0, noRoot, 9, key)))
}

// M2: a head of fewer entries, or of as many and another Root, signed as it should be.
func TestHeadOfFewer(t *testing.T) {
	l := logOf("e", most)
	for _, n := range someSizes {
		b := having(t, l[:n])
		h := b.m.Head()
		for _, size := range someSizes {
			if size < n {
				b.wantTold(t, api.ErrShape, aHead(headOf(l[:size], 101)), aHead(headOf(l[:size], 99)), aHead(signed(size, h.Root, 101, key)))
			}
		}
		if n > 0 {
			b.wantTold(t, api.ErrShape, aHead(headOf(l[:n-1], 101)), aHead(headOf(forked(l[:n], n-1), 101)))
		}
		for _, root := range []int{0, h.Root + 1, h.Root - 1, rootOfLog(l[:max(0, n-1)]) ^ 1, api.Prime - 1} {
			b.wantTold(t, api.ErrShape, aHead(signed(n, root, 99, key)), aHead(signed(n, root, 100, key)), aHead(signed(n, root, 101, key)))
		}
		b.wantNow(t, api.AHead, 0, 0, n, h)
		b.follow(t, l, 0)
	}
}

// badHeads are heads that Verify refuses, made of one that it does not, and its error.
func badHeads(h api.Head) map[api.Head]api.Errno {
	bad := map[api.Head]api.Errno{}
	for _, n := range badSums {
		bad[api.Head{Size: h.Size, Root: n, Time: h.Time, Sign: h.Sign}] = api.ErrRange
		bad[api.Head{Size: h.Size, Root: h.Root, Time: h.Time, Sign: n}] = api.ErrRange
	}
	for _, time := range badTimes {
		bad[signed(h.Size, h.Root, time, key)] = api.ErrRange
	}
	for _, size := range []int{-1, -200, 201, 202, 1000, 1 << 32, math.MinInt, math.MaxInt} {
		bad[signed(size, h.Root, h.Time, key)] = api.ErrRange
	}
	for _, other := range []api.Head{{Size: h.Size ^ 1, Root: h.Root, Time: h.Time}, {Size: h.Size, Root: h.Root ^ 1, Time: h.Time}, {Size: h.Size, Root: h.Root, Time: h.Time + 1}, h} {
		other.Sign = h.Sign ^ 1
		bad[other] = api.ErrSign
	}
	bad[signed(h.Size, h.Root, h.Time, key+1)] = api.ErrSign
	bad[api.Head{Size: h.Size, Root: h.Root, Time: h.Time}] = api.ErrSign
	return bad
}

// M2: a head that Verify refuses, of more entries, as many, or fewer: its error, ahead of ErrShape, and all stays as it was.
func TestHeadRefused(t *testing.T) {
	l := logOf("e", 40)
	for _, n := range []int{0, 1, 2, 16, 17, 39} {
		b := having(t, l[:n])
		h := b.m.Head()
		good := []api.Head{headOf(l, 101), headOf(l[:n], 101), headOf(l[:n/2], 101), signed(n, 77, 101, key), {}}
		for _, of := range good {
			for bad, told := range badHeads(of) {
				b.wantTold(t, told, aHead(bad))
			}
		}
		b.wantNow(t, api.AHead, 0, 0, n, h)
		b.follow(t, l, 0)
	}
}

// waits is a Mirror that has some entries of a log, heard its head, and lets so many entries more wait.
func waits(t *testing.T, l entries, size, waiting int) both {
	t.Helper()
	b := having(t, l[:size])
	b.answer(t, l, 101)
	for b.m.Want().What == api.Some && b.m.Want().From < size+waiting {
		want := b.m.Want()
		want.To = min(want.To, size+waiting)
		b.wantTold(t, api.OK, honest(l, want, 0))
	}
	return b
}

// wantForgotten asks that a reply is refused, that all but the Mirror's own is forgotten, and that it goes on with the next head.
func (b both) wantForgotten(t *testing.T, told api.Errno, r api.Reply, l entries) {
	t.Helper()
	size, h := b.m.Size(), b.m.Head()
	b.wantTold(t, told, r)
	b.wantNow(t, api.AHead, 0, 0, size, h)
	b.wantTold(t, api.ErrShape, some(l...), aProof(proofOf(l, max(1, size))...))
	b.wantFollow(t, l[:size], h.Time)
	b.wantNow(t, api.AHead, 0, 0, size, h)
	b.wantFollow(t, l, 1)
	b.wantNow(t, api.AHead, 0, 0, len(l), b.r.head)
}

// where are a size that a Mirror has, how many entries wait, and how many the log has; it wants some.
var where = []struct{ size, waiting, all int }{
	{0, 0, 1}, {0, 0, 2}, {0, 0, 5}, {0, 0, 15}, {0, 0, 16}, {0, 0, 17}, {0, 0, 40}, {0, 3, 5}, {0, 4, 5}, {0, 16, 17}, {0, 16, 33}, {0, 20, 40}, {0, 32, 33}, {0, 39, 40},
	{1, 0, 2}, {1, 0, 16}, {1, 0, 17}, {1, 0, 18}, {1, 16, 18}, {2, 0, 40}, {16, 0, 17}, {16, 0, 33}, {16, 16, 33}, {17, 5, 40}, {17, 22, 40}, {39, 0, 40}, {184, 0, 200}, {183, 16, 200}, {199, 0, 200},
}

// M2: no entries, or more than were asked for, ahead of what is wrong with one of them.
func TestHowManyEntries(t *testing.T) {
	long := logOf("e", 400)
	bad := api.Entry{Time: -1, Data: strings.Repeat("a", 201)}
	for _, w := range where {
		l := long[:w.all]
		asked := min(page, w.all-w.size-w.waiting)
		at := w.size + w.waiting
		for _, r := range []api.Reply{
			some(), {What: api.Some, Entries: entries{}}, {What: api.Some, Entries: long[at:at], Head: headOf(l, 5), Proof: []int{1}},
			some(long[at : at+asked+1]...), some(long[at : at+asked+2]...), some(long[at : at+100]...), some(long...), some(make(entries, 100_000)...),
			some(append(slices.Clone(long[at:at+asked]), bad)...), some(append(entries{bad}, long[at:at+asked]...)...), some(slices.Repeat(entries{bad}, asked+1)...),
		} {
			b := waits(t, l, w.size, w.waiting)
			b.wantForgotten(t, api.ErrShape, r, l)
		}
		for n := 1; n <= asked; n++ {
			b := waits(t, l, w.size, w.waiting)
			b.wantTold(t, api.OK, some(l[at:at+n]...))
		}
	}
}

// M2: an entry that Check refuses, at each place: its error, and all that waits is forgotten.
func TestEntriesRefused(t *testing.T) {
	long := strings.Repeat("a", 201)
	for _, w := range where {
		l := logOf("e", w.all)
		at := w.size + w.waiting
		right := l[at:min(w.all, at+page)]
		for i := range right {
			for _, c := range []struct {
				bad  api.Entry
				told api.Errno
			}{
				{api.Entry{Time: -1}, api.ErrRange}, {api.Entry{Time: maxTime + 1, Data: "a"}, api.ErrRange}, {api.Entry{Time: math.MinInt}, api.ErrRange},
				{api.Entry{Time: -1, Data: long}, api.ErrRange}, {api.Entry{Data: long}, api.ErrFull}, {api.Entry{Time: maxTime, Data: strings.Repeat("a", 1<<16)}, api.ErrFull},
			} {
				if i > 1 && i < len(right)-1 && c.bad.Data != long {
					continue
				}
				wrong := slices.Clone(right)
				wrong[i] = c.bad
				b := waits(t, l, w.size, w.waiting)
				b.wantForgotten(t, c.told, some(wrong...), l)
			}
		}
	}
}

// M2: of several entries that Check refuses the first one's error is told.
func TestFirstEntryRefused(t *testing.T) {
	l := logOf("e", 40)
	early, long := api.Entry{Time: -1}, api.Entry{Data: strings.Repeat("a", 201)}
	for _, size := range []int{0, 1, 16} {
		for i := range page {
			for j := i + 1; j < page; j++ {
				wrong := slices.Clone(l[size : size+page])
				wrong[i], wrong[j] = early, long
				waits(t, l, size, 0).wantTold(t, api.ErrRange, some(wrong...))
				wrong[i], wrong[j] = long, early
				waits(t, l, size, 0).wantTold(t, api.ErrFull, some(wrong...))
			}
		}
	}
}

// M2: the edges of what an entry may be.
func TestEntriesOfAnyKind(t *testing.T) {
	l := entries{{}, {Time: maxTime}, {Data: strings.Repeat("a", 200)}, {Time: maxTime, Data: strings.Repeat("\xff", 200)}, {Data: "\x00"}, {Data: strings.Repeat("\x00", 200)}, {Time: 65536, Data: "\n"}, {Time: 255, Data: "e\u0301\xc3"}, {}, {}}
	for from := range len(l) {
		for to := from; to <= len(l); to++ {
			b := having(t, l[:from])
			b.wantFollow(t, l[:to], maxTime)
		}
	}
	big := slices.Repeat(entries{{Time: maxTime, Data: strings.Repeat("z", 200)}}, most)
	for _, from := range []int{0, 1, 100, 199} {
		having(t, big[:from]).wantFollow(t, big, maxTime)
	}
}

// lies are lists of as many entries as a log has, but others.
func lies(l entries, from int) (out []entries) {
	for _, i := range []int{from, (from + len(l)) / 2, len(l) - 1} {
		other := slices.Clone(l)
		other[i].Time ^= 1
		more := slices.Clone(l)
		more[i].Data += "x"
		out = append(out, other, more)
	}
	if len(l)-from > 1 {
		turned := slices.Clone(l)
		slices.Reverse(turned[from:])
		swapped := slices.Clone(l)
		swapped[from], swapped[from+1] = swapped[from+1], swapped[from]
		out = append(out, turned, swapped)
	}
	return append(out, slices.Concat(l[:from], make(entries, len(l)-from)), forked(l, from))
}

// M2: of a Mirror that has none, entries that do not have the head's Root: no proof is wanted, and the last page is refused.
func TestEntriesOfAnotherRoot(t *testing.T) {
	for _, n := range []int{1, 2, 3, 4, 5, 15, 16, 17, 32, 33, 40, 200} {
		l := logOf("e", n)
		for _, lie := range lies(l, 0) {
			b := fresh(t)
			b.answer(t, l, 101)
			for b.m.Want().To < n {
				b.wantTold(t, api.OK, honest(lie, b.m.Want(), 0))
			}
			b.wantForgotten(t, api.ErrProof, honest(lie, b.m.Want(), 0), l)
		}
		for _, root := range []int{0, noRoot, rootOfLog(l) ^ 1, rootOfLog(l[:n-1]), api.Prime - 1} {
			b := fresh(t)
			b.wantTold(t, api.OK, aHead(signed(n, root, 101, key)))
			for b.m.Want().To < n {
				b.answer(t, l, 0)
			}
			b.wantForgotten(t, api.ErrProof, honest(l, b.m.Want(), 0), l)
		}
	}
}

// grown are sizes that a Mirror has, and that the log grows to.
var grown = []struct{ from, to int }{
	{1, 2}, {1, 3}, {1, 4}, {1, 17}, {1, 40}, {2, 3}, {2, 4}, {3, 4}, {3, 5}, {3, 8}, {4, 5}, {4, 8}, {5, 6}, {6, 7}, {7, 8}, {7, 40},
	{8, 9}, {8, 16}, {15, 16}, {15, 33}, {16, 17}, {16, 32}, {16, 33}, {17, 18}, {17, 34}, {31, 32}, {32, 33}, {100, 150}, {128, 200}, {129, 200}, {199, 200},
}

// M2: a proof that chapter 5's Check refuses: its error, whatever the entries are.
func TestProofRefused(t *testing.T) {
	for _, c := range grown {
		l := logOf("e", c.to)
		right := proofOf(l, c.from)
		type wrong struct {
			proof []int
			told  api.Errno
		}
		tries := []wrong{
			{nil, api.ErrShape}, {append(slices.Clone(right), 0), api.ErrShape}, {append([]int{0}, right...), api.ErrShape}, {right[:len(right)-1], api.ErrShape}, {make([]int, 401), api.ErrShape},
			{append(slices.Clone(right), -1), api.ErrRange}, {[]int{api.Prime}, api.ErrRange}, {make([]int, len(right)), api.ErrProof},
		}
		for i := range right {
			changed := func(n int) []int {
				proof := slices.Clone(right)
				proof[i] = n
				return proof
			}
			tries = append(tries, wrong{changed(right[i] ^ 1), api.ErrProof}, wrong{changed(-1), api.ErrRange}, wrong{changed(api.Prime), api.ErrRange}, wrong{changed(math.MaxInt), api.ErrRange})
		}
		for _, w := range tries {
			b := waits(t, l, c.from, c.to-c.from)
			b.wantNow(t, api.AProof, c.from, c.to, c.from, headOf(l[:c.from], 100))
			b.wantForgotten(t, w.told, api.Reply{What: api.AProof, Proof: w.proof}, l)

			lie := forked(l, c.from)
			b = having(t, l[:c.from])
			b.answer(t, l, 101)
			for b.m.Want().What == api.Some {
				b.wantTold(t, api.OK, honest(lie, b.m.Want(), 0))
			}
			b.wantForgotten(t, w.told, api.Reply{What: api.AProof, Proof: w.proof}, l)
		}
	}
}

// M2: a proof that is right, while the entries that wait do not have the head's Root.
func TestProofOfOtherEntries(t *testing.T) {
	for _, c := range grown {
		l := logOf("e", c.to)
		for _, lie := range lies(l, c.from) {
			b := having(t, l[:c.from])
			b.answer(t, l, 101)
			for b.m.Want().What == api.Some {
				b.wantTold(t, api.OK, honest(lie, b.m.Want(), 0))
			}
			b.wantForgotten(t, api.ErrProof, aProof(proofOf(l, c.from)...), l)
		}
	}
}

// M2: a log that has not but grown: what it says of itself is right, but its first entries are others. What a Mirror has stays.
func TestFork(t *testing.T) {
	for _, c := range grown {
		l := logOf("e", c.to)
		for _, lie := range lies(l[:c.from], 0) {
			other := slices.Concat(lie, l[c.from:])
			b := having(t, l[:c.from])
			for range 2 {
				b.answer(t, other, 101)
				for b.m.Want().What == api.Some {
					b.answer(t, other, 101)
				}
				b.wantTold(t, api.ErrProof, aProof(proofOf(other, c.from)...))
				if !slices.Equal(b.m.Entries(), l[:c.from]) {
					t.Fatalf("of %d entries %s are left", c.from, brief(b.m.Entries()))
				}
			}
			b.wantFollow(t, l, 5)
		}
	}
}

// M2: a head that was heard and then forgotten binds nobody: the next one may have fewer entries, or another Root.
func TestForgottenHeadDoesNotBind(t *testing.T) {
	l := logOf("e", 40)
	for _, size := range []int{0, 1, 16} {
		b := having(t, l[:size])
		h := b.m.Head()
		b.wantTold(t, api.OK, aHead(signed(40, 1, maxTime, key)))
		b.answer(t, l, 0)
		b.wantNow(t, api.Some, size+16, min(40, size+32), size, h)
		b.wantTold(t, api.ErrShape, some())
		b.wantNow(t, api.AHead, 0, 0, size, h)
		b.wantTold(t, api.OK, aHead(headOf(l[:size], h.Time+1)))
		b.wantNow(t, api.AHead, 0, 0, size, headOf(l[:size], h.Time+1))
		b.wantFollow(t, l[:size+1], 0)
		b.wantNow(t, api.AHead, 0, 0, size+1, headOf(l[:size+1], 0))
	}
}

// text makes a string whose bytes can be written over later on.
func text(b []byte) string { return unsafe.String(unsafe.SliceData(b), len(b)) }

// P2, P4: lists that were handed in, and what stands behind them, can be changed afterwards, and are not written into.
func TestArgumentsAreNotKept(t *testing.T) {
	l := logOf("e", 60)
	junk := api.Entry{Time: 9, Data: "junk"}
	for _, size := range []int{0, 1, 16, 17} {
		b := having(t, l[:size])
		memory, list, proof := [][]byte{}, slices.Repeat(entries{junk}, page+3), make([]int, 0, 30)
		for b.answer(t, l, 101); b.m.Want().What != api.AHead; {
			r := honest(l, b.m.Want(), 101)
			held := list[:0]
			for _, e := range r.Entries {
				data := []byte(e.Data)
				memory = append(memory, data)
				held = append(held, api.Entry{Time: e.Time, Data: text(data)})
			}
			proof = append(proof[:0], r.Proof...)
			b.r.hear(r)
			wantError(t, "Hear", b.m.Hear(api.Reply{What: r.What, Entries: held, Proof: proof}), api.OK)
			if !slices.Equal(held, r.Entries) || !slices.Equal(proof, r.Proof) || slices.ContainsFunc(list[len(held):], func(e api.Entry) bool { return e != junk }) {
				t.Fatalf("a list was written into: %s, %v", brief(list), proof)
			}
			for i := range list {
				list[i] = junk
			}
			for i := range proof {
				proof[i] = -1
			}
			for _, bytes := range memory {
				copy(bytes, strings.Repeat("z", len(bytes)))
			}
			b.want(t, "written over")
		}
		b.wantNow(t, api.AHead, 0, 0, 60, headOf(l, 101))
		b.wantFollow(t, l, 102)
	}
}

// P2: lists that were handed out are the caller's.
func TestAnswersAreNotKept(t *testing.T) {
	l := logOf("e", 60)
	spoil := func(list entries) {
		for i := range list[:cap(list)] {
			list[:cap(list)][i] = api.Entry{Time: 9, Data: "junk"}
		}
	}
	b := fresh(t)
	for n := 1; n <= 60; n += 7 {
		for first := true; first || b.m.Want().What != api.AHead; first = false {
			one, two := b.m.Entries(), b.m.Entries()
			spoil(one)
			if !slices.Equal(two, b.r.own) {
				t.Fatalf("two lists share memory: %s", brief(two))
			}
			b.want(t, "written over")
			b.answer(t, l[:n], 100)
			spoil(two)
			b.want(t, "written over")
		}
	}
}

// P2: two Mirrors do not share, though they hear the same lists, or one hears what another one told.
func TestTwoMirrors(t *testing.T) {
	l, other := logOf("e", 60), logOf("o", 60)
	a, b, c := fresh(t), fresh(t), fresh(t)
	for n := 3; n <= 60; n += 19 {
		a.follow(t, l[:n], n)
		b.follow(t, a.m.Entries(), n)
		c.follow(t, other[:n], n)
		for first := true; first || a.m.Want().What != api.AHead; first = false {
			r := honest(l, a.m.Want(), 99)
			if a.m.Want().What == api.AHead {
				r = aHead(headOf(l[:min(60, n+5)], 99))
			}
			a.wantTold(t, api.OK, r)
			b.wantTold(t, api.OK, r)
			b.want(t, "beside a")
			c.want(t, "beside a and b")
		}
		a.wantTold(t, api.OK, aHead(signed(60+n, 5, 99, key)))
		a.wantTold(t, api.ErrShape, some())
		b.want(t, "behind an error of a")
		c.want(t, "behind an error of a")
	}
}

// P2: to ask changes nothing, in whatever order.
func TestAskingChangesNothing(t *testing.T) {
	stages(t, func(b both, l entries) {
		for range 3 {
			for _, ask := range []func(){func() { b.m.Want() }, func() { b.m.Size() }, func() { b.m.Root() }, func() { b.m.Entries() }, func() { b.m.Head() }} {
				ask()
				b.want(t, "asked")
			}
		}
		b.follow(t, l, 102)
	})
}

// kind of a reply: one that hangs on what is wanted.
type kind func(want api.Want) api.Reply

// kinds of replies of a log of 20 entries, right and wrong ones.
func kinds() []kind {
	l := logOf("e", 20)
	lie := forked(l, 0)
	fixed := func(r api.Reply) kind { return func(api.Want) api.Reply { return r } }
	return []kind{
		fixed(api.Reply{}),
		fixed(aHead(headOf(l[:0], 1))),
		fixed(aHead(headOf(l[:1], 2))),
		fixed(aHead(headOf(l[:18], 1))),
		fixed(aHead(headOf(lie[:2], 3))),
		func(want api.Want) api.Reply { return honest(l[:max(2, want.To)], want, 5) },
		func(want api.Want) api.Reply {
			want.To = min(want.To, want.From+1) // one entry alone
			return honest(l[:max(1, want.To)], want, 2)
		},
		func(want api.Want) api.Reply { return honest(lie[:max(1, want.To)], want, 2) },
		func(want api.Want) api.Reply { return api.Reply{What: want.What} },
	}
}

// M1, M2: every way of five replies of these kinds, from none on and from one entry on.
func TestEveryShortWay(t *testing.T) {
	const long = 5
	all, l := kinds(), logOf("e", 20)
	ways := 1
	for range long {
		ways *= len(all)
	}
	for size := range 2 {
		for way := range ways {
			b := having(t, l[:size])
			for range long {
				b.hear(t, all[way%len(all)](b.m.Want()))
				way /= len(all)
			}
		}
	}
}

// anyReply is mostly what was asked for, sometimes of another log, sometimes damaged.
func anyReply(rnd *rand.Rand, l, lie entries, size int, want api.Want) api.Reply {
	if rnd.Intn(60) == 0 {
		l = lie
	}
	if want.What == api.AHead {
		// Mostly more entries than the Mirror has, so that it goes on, seldom fewer.
		l = l[:min(len(l), max(0, size+rnd.Intn(25)-2))]
	}
	r := honest(l, want, rnd.Intn(50))
	if n := len(r.Entries); n > 0 && rnd.Intn(3) == 0 {
		r.Entries = r.Entries[:1+rnd.Intn(n)]
	}
	if rnd.Intn(12) == 0 {
		r = damaged(rnd, r)
	}
	return r
}

func damaged(rnd *rand.Rand, r api.Reply) api.Reply {
	switch rnd.Intn(8) {
	case 0:
		r.What = rnd.Intn(6) - 1
	case 1:
		r.Head.Root ^= 1 << rnd.Intn(31)
		r.Head = signed(r.Head.Size, r.Head.Root, r.Head.Time, key)
	case 2:
		r.Head.Time = rnd.Intn(60) - 10
	case 3:
		r.Head.Sign = rnd.Intn(api.Prime + 5)
		r.Entries, r.Proof = nil, nil
	case 4:
		r.Entries, r.Proof = append(r.Entries, api.Entry{}), append(r.Proof, 0)
	default:
		if n := len(r.Entries); n > 0 {
			e := &r.Entries[rnd.Intn(n)]
			*e = api.Entry{Time: e.Time - rnd.Intn(2)*maxTime, Data: e.Data + strings.Repeat("x", rnd.Intn(3)*100)}
		}
		if n := len(r.Proof); n > 0 {
			r.Proof[rnd.Intn(n)] += rnd.Intn(3) - 1
		}
	}
	return r
}

// M1, M2: many replies at random, to Mirrors that go on and on; each error of each kind comes up.
func TestManyReplies(t *testing.T) {
	rnd := rand.New(rand.NewSource(1))
	told := map[[2]int]int{}
	for range 400 {
		n := []int{5, 20, 40, 100, 200}[rnd.Intn(5)]
		l := logOf("e", n)
		lie := forked(l, rnd.Intn(n))
		b := fresh(t)
		for range 60 {
			want := b.m.Want()
			errno := b.hear(t, anyReply(rnd, l, lie, b.m.Size(), want))
			told[[2]int{want.What, int(errno)}]++
		}
	}
	for _, c := range []struct {
		what  int
		errno []api.Errno
	}{
		{api.AHead, []api.Errno{api.OK, api.ErrRange, api.ErrShape, api.ErrSign}},
		{api.Some, []api.Errno{api.OK, api.ErrRange, api.ErrShape, api.ErrFull, api.ErrProof}},
		{api.AProof, []api.Errno{api.OK, api.ErrShape, api.ErrProof}},
	} {
		for _, errno := range c.errno {
			if told[[2]int{c.what, int(errno)}] < 10 {
				t.Errorf("%v came up %d times where %d was wanted: too few", errno, told[[2]int{c.what, int(errno)}], c.what)
			}
		}
	}
}

// P1: replies of any numbers at all.
func TestAnyNumbers(t *testing.T) {
	rnd := rand.New(rand.NewSource(2))
	edges := []int{0, 1, 2, 3, 4, -1, 16, 17, 40, 199, 200, 201, noRoot, maxTime, maxTime + 1, api.Prime - 1, api.Prime, math.MinInt, math.MaxInt}
	number := func() int { return edges[rnd.Intn(len(edges))] }
	stages(t, func(b both, l entries) {
		for range 200 {
			r := api.Reply{What: rnd.Intn(4), Head: api.Head{Size: number(), Root: number(), Time: number(), Sign: number()}}
			if rnd.Intn(2) == 0 {
				r.Head = signed(r.Head.Size, r.Head.Root, r.Head.Time, key)
			}
			for range rnd.Intn(20) {
				r.Entries = append(r.Entries, api.Entry{Time: number(), Data: strings.Repeat("a", rnd.Intn(203))})
				r.Proof = append(r.Proof, number())
			}
			b.hear(t, r)
		}
		if b.m.Want().What != api.AHead {
			b.wantTold(t, api.ErrShape, api.Reply{What: b.m.Want().What})
		}
		if slices.Equal(b.m.Entries(), l[:b.m.Size()]) {
			b.follow(t, l, 102)
		}
	})
}
