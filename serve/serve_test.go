package serve_test

import (
	"fmt"
	"math"
	"math/rand"
	"regexp"
	"slices"
	"strconv"
	"strings"
	"testing"
	"unsafe"

	"witnessbox/api"
	"witnessbox/entry"
	"witnessbox/grow"
	"witnessbox/head"
	"witnessbox/mix"
	"witnessbox/plain"
	"witnessbox/proof"
	"witnessbox/serve"
	"witnessbox/tile"
)

const (
	key     = 7
	now     = 4
	most    = 200
	maxTime = 1_000_000
	noRoot  = 5381 // the Sum of no bytes
)

type entries = []api.Entry

var (
	badKeys   = []int{0, -1, -7, -1_000_000, 1_000_001, 1_000_002, 1 << 32, 1<<32 + 7, math.MinInt32, math.MinInt, math.MaxInt}
	goodKeys  = []int{1, 2, 7, 9, 10, 1000, 999_999, 1_000_000}
	badTimes  = []int{-1, -maxTime, maxTime + 1, 1 << 24, 1<<32 + 5, math.MinInt, math.MaxInt}
	goodTimes = []int{0, 1, 9, 10, 201, 65536, 999_999, maxTime}
	someSizes = []int{0, 1, 2, 3, 4, 5, 15, 16, 17, 32, 33, 63, 64, 65, 100, 199, 200}
	// pairSizes are those of which every two numbers are asked.
	pairSizes = []int{0, 1, 2, 3, 4, 5, 15, 16, 17, 32, 33, 64, 100, 200}
	sixWords  = []string{"head", "entry", "leaf", "proof", "grow", "tile"}
	// sixAsks are asked of a log that has entries without an error.
	sixAsks = []string{"head", "entry 0", "leaf 0", "proof 0 1", "grow 1 1", "tile 0 0"}
	tooLong = strings.Repeat("a", 201)
)

// logOf is a log of so many entries, of which some have no Data, and some have blanks.
func logOf(n int) (l entries) {
	for i := range n {
		data := []string{"e" + strconv.Itoa(i), "", " ", "two words", " ahead", "behind ", "-", "\x00\xff", strings.Repeat("z", i)}[i%9]
		l = append(l, api.Entry{Time: i * 4999 % (maxTime + 1), Data: data})
	}
	return l
}

// nodeByHand is chapter 1's Node.
func nodeByHand(a, b int) int {
	bytes := []byte{1}
	for _, n := range []int{a, b} {
		bytes = append(bytes, byte(n>>24), byte(n>>16), byte(n>>8), byte(n))
	}
	return mix.Sum(string(bytes))
}

// splitByHand is chapter 2's Split.
func splitByHand(n int) int {
	k := 1
	for 2*k < n {
		k *= 2
	}
	return k
}

// rootByHand is chapter 2's Root.
func rootByHand(leafs []int) int {
	switch len(leafs) {
	case 0:
		return noRoot
	case 1:
		return leafs[0]
	}
	k := splitByHand(len(leafs))
	return nodeByHand(rootByHand(leafs[:k]), rootByHand(leafs[k:]))
}

// leafsByHand is chapter 7's Leafs.
func leafsByHand(l entries) (leafs []int) {
	for _, e := range l {
		ahead := []byte{0, byte(e.Time >> 16), byte(e.Time >> 8), byte(e.Time), byte(len(e.Data))}
		leafs = append(leafs, mix.Sum(string(ahead)+e.Data))
	}
	return leafs
}

// proofByHand is chapter 4's proof of the i-th of leafs, word for word.
func proofByHand(leafs []int, i int) []int {
	if len(leafs) == 1 {
		return nil
	}
	k := splitByHand(len(leafs))
	if i < k {
		return append(proofByHand(leafs[:k], i), rootByHand(leafs[k:]))
	}
	return append(proofByHand(leafs[k:], i-k), rootByHand(leafs[:k]))
}

// growByHand is chapter 5's proof of (old, size, whole), word for word.
func growByHand(leafs []int, old int, whole bool) []int {
	switch {
	case old == len(leafs) && whole:
		return nil
	case old == len(leafs):
		return []int{rootByHand(leafs)}
	}
	k := splitByHand(len(leafs))
	if old <= k {
		return append(growByHand(leafs[:k], old, whole), rootByHand(leafs[k:]))
	}
	return append(growByHand(leafs[k:], old-k, false), rootByHand(leafs[:k]))
}

// tileByHand is what stands at a Level from four times an Index on, as much as there is.
func tileByHand(leafs []int, level, index int) []int {
	for ; level > 0 && len(leafs) > 0; level-- {
		var above []int
		for ; len(leafs) >= 4; leafs = leafs[4:] {
			above = append(above, nodeByHand(nodeByHand(leafs[0], leafs[1]), nodeByHand(leafs[2], leafs[3])))
		}
		leafs = above
	}
	from := min(4*index, len(leafs))
	return leafs[from:min(from+4, len(leafs))]
}

func printed(sums []int) string {
	if len(sums) == 0 {
		return "-"
	}
	return strings.Trim(fmt.Sprintf("%08x", sums), "[]")
}

// asked is a log, who signs it and when, and the leafs that the test reckons once.
type asked struct {
	l        entries
	key, now int
	leafs    []int
}

func askedOf(l entries) asked { return asked{l, key, now, leafsByHand(l)} }

// refused is what is wrong with the log, word for word: chapter 7's Leafs, then chapter 8's Sign.
func (a asked) refused() api.Errno {
	if len(a.l) > most {
		return api.ErrFull
	}
	for _, e := range a.l {
		if e.Time < 0 || e.Time > maxTime {
			return api.ErrRange
		}
		if len(e.Data) > 200 {
			return api.ErrFull
		}
	}
	if a.key < 1 || a.key > 1_000_000 || a.now < 0 || a.now > maxTime {
		return api.ErrRange
	}
	return api.OK
}

// head is that of a log that is not refused.
func (a asked) head() api.Head {
	root := rootByHand(a.leafs)
	sign := mix.Sum(fmt.Sprintf("%d %08x %d %d", len(a.l), root, a.now, a.key))
	return api.Head{Size: len(a.l), Root: root, Time: a.now, Sign: sign}
}

var formOfAsk = regexp.MustCompile(`\A(?:(head)|(entry|leaf) (0|[1-9][0-9]{0,3})|(proof|grow|tile) (0|[1-9][0-9]{0,3}) (0|[1-9][0-9]{0,3}))\z`)

// answer is V1 by an expression, word for word.
func (a asked) answer(ask string) (string, api.Errno) {
	form := formOfAsk.FindStringSubmatch(ask)
	if form == nil {
		return "", api.ErrSyntax
	}
	if errno := a.refused(); errno != api.OK {
		return "", errno
	}
	number := func(word string) int {
		n, _ := strconv.Atoi(word)
		return n
	}
	switch {
	case form[1] != "":
		h := a.head()
		return fmt.Sprintf("%d %08x %d %08x", h.Size, h.Root, h.Time, h.Sign), api.OK
	case form[2] != "":
		return a.one(form[2], number(form[3]))
	}
	return a.sums(form[4], number(form[5]), number(form[6]))
}

func (a asked) one(word string, n int) (string, api.Errno) {
	if n >= len(a.l) {
		return "", api.ErrNone
	}
	if word == "leaf" {
		return fmt.Sprintf("%08x", a.leafs[n]), api.OK
	}
	return fmt.Sprintf("%d %s", a.l[n].Time, a.l[n].Data), api.OK
}

func (a asked) sums(word string, m, n int) (string, api.Errno) {
	switch {
	case word == "proof" && (m >= n || n > len(a.l)), word == "grow" && (m < 1 || m > n || n > len(a.l)):
		return "", api.ErrRange
	case word == "proof":
		return printed(proofByHand(a.leafs[:n], m)), api.OK
	case word == "grow":
		return printed(growByHand(a.leafs[:n], m, true)), api.OK
	}
	sums := tileByHand(a.leafs, m, n)
	if len(sums) == 0 {
		return "", api.ErrNone
	}
	return printed(sums), api.OK
}

// wantError also asks that an Errno is told, never OK.
func wantError(t *testing.T, what string, err error, want api.Errno) {
	t.Helper()
	if want == api.OK && err != nil || want != api.OK && (err == nil || plain.Told(err) != want) {
		t.Fatalf("%s: error %v, want %v", what, err, want)
	}
}

// told asks for just this answer and error.
func (a asked) told(t *testing.T, ask, want string, errno api.Errno) {
	t.Helper()
	got, err := serve.Answer(a.l, a.key, a.now, ask)
	what := fmt.Sprintf("%d entries, key %d, now %d, %.100q", len(a.l), a.key, a.now, ask)
	wantError(t, what, err, errno)
	if got != want {
		t.Fatalf("%s: %.300q, want %.300q", what, got, want)
	}
}

// want asks for what the test reckons, and tells its error.
func (a asked) want(t *testing.T, ask string) api.Errno {
	t.Helper()
	want, errno := a.answer(ask)
	a.told(t, ask, want, errno)
	return errno
}

// wantTold also asks that the error is this one.
func (a asked) wantTold(t *testing.T, errno api.Errno, asks ...string) {
	t.Helper()
	for _, ask := range asks {
		if got := a.want(t, ask); got != errno {
			t.Fatalf("%d entries, %.100q: the test reckons %v, want %v", len(a.l), ask, got, errno)
		}
	}
}

func (a asked) wantHead(t *testing.T) {
	t.Helper()
	var want api.Head
	errno := a.refused()
	if errno == api.OK {
		want = a.head()
	}
	got, err := serve.Head(a.l, a.key, a.now)
	what := fmt.Sprintf("Head of %d entries, key %d, now %d", len(a.l), a.key, a.now)
	wantError(t, what, err, errno)
	if got != want {
		t.Fatalf("%s: %v, want %v", what, got, want)
	}
}

// V1: written out by hand; the sums were worked out by another program.
func TestKnown(t *testing.T) {
	five := entries{{Time: 5, Data: "hi"}, {}, {Time: maxTime, Data: "b\xff"}, {Time: 7, Data: " a  b "}, {Time: 9, Data: "-"}}
	var times entries
	for i := range most {
		times = append(times, api.Entry{Time: i})
	}
	for _, c := range []struct {
		l         entries
		key, now  int
		ask, want string
	}{
		{nil, 7, 0, "head", "0 00001505 0 0beefc1f"},
		{nil, 1000000, 1000000, "head", "0 00001505 1000000 5a3be09c"},
		{five[:1], 7, 4, "head", "1 53329ffd 4 1e0ad4bc"},
		{five[:1], 7, 4, "entry 0", "5 hi"},
		{five[:1], 7, 4, "leaf 0", "53329ffd"},
		{five[:1], 7, 4, "proof 0 1", "-"},
		{five[:1], 7, 4, "grow 1 1", "-"},
		{five[:1], 7, 4, "tile 0 0", "53329ffd"},
		{five[:2], 7, 4, "head", "2 4b87eb84 4 0ad8ea2b"},
		{five[:2], 7, 4, "proof 0 2", "5577a955"},
		{five[:2], 7, 4, "proof 1 2", "53329ffd"},
		{five[:2], 7, 4, "grow 1 2", "5577a955"},
		{five[:2], 7, 4, "grow 2 2", "-"},
		{five[:2], 7, 4, "tile 0 0", "53329ffd 5577a955"},
		{five[:3], 1, 0, "head", "3 676c8edf 0 2cad2c89"},
		{five[:3], 1, 0, "proof 2 3", "4b87eb84"},
		{five[:3], 1, 0, "proof 0 3", "5577a955 1e63edf0"},
		{five[:3], 1, 0, "grow 2 3", "1e63edf0"},
		{five[:3], 1, 0, "grow 1 3", "5577a955 1e63edf0"},
		{five[:3], 1, 0, "tile 0 0", "53329ffd 5577a955 1e63edf0"},
		{five[:4], 1, 1000000, "head", "4 70d60fa9 1000000 268a8037"},
		{five[:4], 1, 1000000, "tile 0 0", "53329ffd 5577a955 1e63edf0 43f5b762"},
		{five[:4], 1, 1000000, "tile 1 0", "70d60fa9"},
		{five, 7, 4, "head", "5 54b5b031 4 3fb0b8a6"},
		{five, 7, 4, "entry 0", "5 hi"},
		{five, 7, 4, "entry 1", "0 "},
		{five, 7, 4, "entry 2", "1000000 b\xff"},
		{five, 7, 4, "entry 3", "7  a  b "},
		{five, 7, 4, "entry 4", "9 -"},
		{five, 7, 4, "leaf 1", "5577a955"},
		{five, 7, 4, "leaf 2", "1e63edf0"},
		{five, 7, 4, "leaf 3", "43f5b762"},
		{five, 7, 4, "leaf 4", "3c3e02d8"},
		{five, 7, 4, "proof 0 5", "5577a955 6483be45 3c3e02d8"},
		{five, 7, 4, "proof 3 5", "1e63edf0 4b87eb84 3c3e02d8"},
		{five, 7, 4, "proof 4 5", "70d60fa9"},
		{five, 7, 4, "proof 1 3", "53329ffd 1e63edf0"},
		{five, 7, 4, "grow 1 5", "5577a955 6483be45 3c3e02d8"},
		{five, 7, 4, "grow 3 5", "1e63edf0 43f5b762 4b87eb84 3c3e02d8"},
		{five, 7, 4, "grow 4 5", "3c3e02d8"},
		{five, 7, 4, "grow 3 4", "1e63edf0 43f5b762 4b87eb84"},
		{five, 7, 4, "grow 5 5", "-"},
		{five, 7, 4, "tile 0 0", "53329ffd 5577a955 1e63edf0 43f5b762"},
		{five, 7, 4, "tile 0 1", "3c3e02d8"},
		{five, 7, 4, "tile 1 0", "70d60fa9"},
		{times[:20], 9, 3, "head", "20 6683b5d0 3 677914f6"},
		{times[:20], 9, 3, "leaf 19", "5577b30e"},
		{times[:20], 9, 3, "proof 17 20", "5577b185 4839bf8e 5260faf1"},
		{times[:20], 9, 3, "proof 10 16", "5577aef6 5008e643 47e67a43 3172fde5"},
		{times[:20], 9, 3, "grow 16 20", "7a4dcd47"},
		{times[:20], 9, 3, "grow 7 17", "5577ac67 5577acea 065bc25a 69f95bf6 5cd4edc8 5577b185"},
		{times[:20], 9, 3, "tile 0 4", "5577b185 5577b208 5577b28b 5577b30e"},
		{times[:20], 9, 3, "tile 1 0", "69f95bf6 09db08d4 3c63173d 47e67a43"},
		{times[:20], 9, 3, "tile 1 1", "7a4dcd47"},
		{times[:20], 9, 3, "tile 2 0", "5260faf1"},
		{times, 1000000, 999999, "head", "200 7a770d72 999999 238cf2ee"},
		{times, 1000000, 999999, "entry 199", "199 "},
		{times, 1000000, 999999, "leaf 199", "55780f2a"},
		{times, 1000000, 999999, "proof 199 200", "55780ea7 62d5518e 2a4e567b 67d3ce3f 35895f50"},
		{times, 1000000, 999999, "proof 100 127", "5577dd04 413bab9c 0b75e4ad 73844fff 69c2d6c0 494581f0 62a5afd2"},
		{times, 1000000, 999999, "grow 127 200", "5577e9cf 5577ea52 1673f121 184799e4 7b96a287 3f05bda3 494581f0 62a5afd2 67f2da56"},
		{times, 1000000, 999999, "grow 128 200", "67f2da56"},
		{times, 1000000, 999999, "tile 0 49", "55780da1 55780e24 55780ea7 55780f2a"},
		{times, 1000000, 999999, "tile 1 12", "2a4e567b 17f03f95"},
		{times, 1000000, 999999, "tile 2 2", "05453ec1 73d12afd 4dc63971 57dc5541"},
		{times, 1000000, 999999, "tile 2 0", "5260faf1 1585c399 29e83b4b 3730f814"},
		{times, 1000000, 999999, "tile 3 0", "62a5afd2 22088491 67d3ce3f"},
	} {
		asked{l: c.l, key: c.key, now: c.now}.told(t, c.ask, c.want, api.OK)
		h, err := serve.Head(c.l, c.key, c.now)
		if c.ask == "head" && (err != nil || fmt.Sprintf("%d %08x %d %08x", h.Size, h.Root, h.Time, h.Sign) != c.want) {
			t.Fatalf("Head of %d entries: %v, %v, want %s", len(c.l), h, err, c.want)
		}
	}
}

// V1: the head of a log of each size.
func TestHeadOfEachSize(t *testing.T) {
	all := logOf(most)
	for n := range most + 1 {
		a := askedOf(all[:n])
		a.wantHead(t)
		a.wantTold(t, api.OK, "head")
		h, err := serve.Head(a.l, key, now)
		if err != nil || head.Verify(h, key) != nil {
			t.Fatalf("Head of %d: %v, %v: it does not verify", n, h, err)
		}
		text, _ := serve.Answer(a.l, key, now, "head")
		if back, err := head.Parse(text); err != nil || back != h {
			t.Fatalf("head of %d: %q is %v, %v, want %v", n, text, back, err, h)
		}
	}
}

// V1: keys and times at their edges.
func TestHeadOfKeysAndTimes(t *testing.T) {
	all := logOf(most)
	for _, n := range someSizes {
		a := askedOf(all[:n])
		for _, a.key = range goodKeys {
			for _, a.now = range goodTimes {
				a.wantHead(t)
				a.wantTold(t, api.OK, "head")
			}
		}
	}
}

// V1: a log of no entries has a head, and nothing else.
func TestNoEntries(t *testing.T) {
	for _, l := range []entries{nil, {}, logOf(3)[:0]} {
		a := askedOf(l)
		if h, err := serve.Head(l, key, now); err != nil || h.Size != 0 || h.Root != mix.Sum("") || h.Time != now {
			t.Fatalf("Head of none: %v, %v", h, err)
		}
		a.wantHead(t)
		a.wantTold(t, api.OK, "head")
		a.wantTold(t, api.ErrNone, "entry 0", "entry 1", "entry 9999", "leaf 0", "leaf 1", "leaf 9999", "tile 0 0", "tile 0 1", "tile 1 0", "tile 3 0", "tile 4 0", "tile 9999 9999")
		a.wantTold(t, api.ErrRange, "proof 0 0", "proof 0 1", "proof 1 0", "proof 1 1", "grow 0 0", "grow 0 1", "grow 1 0", "grow 1 1", "grow 9999 9999")
	}
}

// V1: each entry and its leaf, of a log of each size, and those that there are not.
func TestEntriesAndLeafs(t *testing.T) {
	all := logOf(most)
	for n := range most + 1 {
		a := askedOf(all[:n])
		leafs, err := entry.Leafs(a.l)
		if err != nil {
			t.Fatal(err)
		}
		for i := range n {
			at := strconv.Itoa(i)
			sum, _ := mix.Print(leafs[i])
			if want, errno := a.answer("leaf " + at); errno != api.OK || sum != want {
				t.Fatalf("leaf %d of %d: chapter 7 has %s, the test %s", i, n, sum, want)
			}
			a.told(t, "leaf "+at, sum, api.OK)
			a.told(t, "entry "+at, strconv.Itoa(all[i].Time)+" "+all[i].Data, api.OK)
		}
		for _, i := range []int{n, n + 1, n + 7, 2*n + 1, 255, 256, 999, 1000, 1024, 9998, 9999} {
			at := strconv.Itoa(i)
			a.wantTold(t, api.ErrNone, "entry "+at, "leaf "+at)
		}
	}
}

// V1: Data stands behind a blank as it is, whatever it has.
func TestDataAsItIs(t *testing.T) {
	for _, data := range []string{"", " ", "  ", "a", " a", "a ", " a ", "a b", "a  b", "-", "\n", "a\nb", "\x00", "\xff\xfe", "é", "5", "5 hi", "entry 0", "\"", "%d", "\\n", "\t", strings.Repeat(" ", 200), strings.Repeat("\xff", 200)} {
		for _, time := range goodTimes {
			l := append(logOf(2), api.Entry{Time: time, Data: data})
			askedOf(l).told(t, "entry 2", strconv.Itoa(time)+" "+data, api.OK)
			askedOf(l[2:]).told(t, "entry 0", strconv.Itoa(time)+" "+data, api.OK)
			askedOf(l).want(t, "leaf 2")
		}
	}
	for n := range 201 {
		data := strings.Repeat("d", n)
		askedOf(entries{{Time: n, Data: data}}).told(t, "entry 0", strconv.Itoa(n)+" "+data, api.OK)
	}
}

// parsed reads sums back, and tells whether they are just such a text.
func parsed(text string) (sums []int, ok bool) {
	if text == "-" {
		return nil, true
	}
	for _, word := range strings.Split(text, " ") {
		n, err := mix.Parse(word)
		if err != nil {
			return nil, false
		}
		sums = append(sums, n)
	}
	return sums, true
}

// sumsOf asks for sums that are told without an error.
func (a asked) sumsOf(t *testing.T, word string, m, n int) []int {
	t.Helper()
	ask := fmt.Sprint(word, " ", m, " ", n)
	want, errno := a.answer(ask)
	if errno != api.OK {
		t.Fatalf("%d entries, %s: the test reckons %v", len(a.l), ask, errno)
	}
	a.told(t, ask, want, api.OK)
	sums, ok := parsed(want)
	if !ok {
		t.Fatalf("%s: %q are no sums", ask, want)
	}
	return sums
}

// V1: each leaf of each size that there is, of logs of some sizes: as Make has it, and as Check takes it.
func TestProofs(t *testing.T) {
	all := logOf(most)
	for _, many := range pairSizes {
		a := askedOf(all[:many])
		for size := 1; size <= many; size++ {
			root := rootByHand(a.leafs[:size])
			for i := range size {
				got := a.sumsOf(t, "proof", i, size)
				if want, err := proof.Make(a.leafs, i, size); err != nil || !slices.Equal(got, want) {
					t.Fatalf("proof %d %d of %d: %v, want %v, %v", i, size, many, got, want, err)
				}
				if err := proof.Check(root, size, i, a.leafs[i], got); err != nil {
					t.Fatalf("proof %d %d of %d: %v", i, size, many, err)
				}
			}
		}
	}
}

// V1: each size and each one that it grew to, of logs of some sizes: as Make has it, and as Check takes it.
func TestGrows(t *testing.T) {
	all := logOf(most)
	for _, many := range pairSizes {
		a := askedOf(all[:many])
		for size := 1; size <= many; size++ {
			root := rootByHand(a.leafs[:size])
			for old := 1; old <= size; old++ {
				got := a.sumsOf(t, "grow", old, size)
				if want, err := grow.Make(a.leafs, old, size); err != nil || !slices.Equal(got, want) {
					t.Fatalf("grow %d %d of %d: %v, want %v, %v", old, size, many, got, want, err)
				}
				if err := grow.Check(rootByHand(a.leafs[:old]), old, root, size, got); err != nil {
					t.Fatalf("grow %d %d of %d: %v", old, size, many, err)
				}
			}
		}
	}
}

// V1: `-` where there are no sums: of one leaf, and of a size to itself; nowhere else.
func TestNoSums(t *testing.T) {
	a := askedOf(logOf(33))
	for size := 1; size <= 33; size++ {
		for m := 0; m <= size; m++ {
			if m < size {
				got, err := serve.Answer(a.l, key, now, fmt.Sprint("proof ", m, " ", size))
				if err != nil || (got == "-") != (size == 1) {
					t.Fatalf("proof %d %d: %q, %v", m, size, got, err)
				}
			}
			if m > 0 {
				got, err := serve.Answer(a.l, key, now, fmt.Sprint("grow ", m, " ", size))
				if err != nil || (got == "-") != (m == size) {
					t.Fatalf("grow %d %d: %q, %v", m, size, got, err)
				}
			}
		}
	}
}

// V1: sizes and places that Make refuses: 0, more than there are, an I of the size and beyond, an M above N.
func TestMakeRefuses(t *testing.T) {
	all := logOf(most)
	beyond := []int{256, 257, 999, 1000, 1024, 4096, 9998, 9999}
	for _, many := range someSizes {
		a := askedOf(all[:many])
		numbers := slices.Concat([]int{0, 1, 2, many / 2, max(0, many-1), many, many + 1, many + 2, 200, 201}, beyond)
		for _, m := range numbers {
			for _, n := range numbers {
				pair := fmt.Sprint(m, " ", n)
				if m >= n || n > many {
					a.wantTold(t, api.ErrRange, "proof "+pair)
				}
				if m == 0 || m > n || n > many {
					a.wantTold(t, api.ErrRange, "grow "+pair)
				}
			}
		}
	}
}

// V1: each tile of a log of each size, as Wide as there are sums; all of them tell the root.
func TestTiles(t *testing.T) {
	all := logOf(most)
	for many := range most + 1 {
		a := askedOf(all[:many])
		tiles, err := tile.All(many)
		if err != nil {
			t.Fatal(err)
		}
		there := map[[2]int]bool{}
		for _, of := range tiles {
			got := a.sumsOf(t, "tile", of.Level, of.Index)
			if want, err := tile.Sums(a.leafs, of); err != nil || len(got) != of.Wide || !slices.Equal(got, want) {
				t.Fatalf("tile %v of %d: %v, want %v, %v", of, many, got, want, err)
			}
			there[[2]int{of.Level, of.Index}] = true
		}
		for level := range 6 {
			for index := range 52 {
				if !there[[2]int{level, index}] {
					a.wantTold(t, api.ErrNone, fmt.Sprint("tile ", level, " ", index))
				}
			}
		}
		root, err := tile.Root(many, func(of api.Tile) ([]int, error) { return a.sumsOf(t, "tile", of.Level, of.Index), nil })
		if err != nil || root != a.head().Root {
			t.Fatalf("the tiles of %d tell the root %d, %v", many, root, err)
		}
	}
}

// V1: how wide the first and the last tile of each Level are, written out by hand; the one behind the last is none.
func TestHowWide(t *testing.T) {
	all := logOf(most)
	for _, c := range []struct {
		size, level, last, wide int
	}{
		{1, 0, 0, 1}, {2, 0, 0, 2}, {3, 0, 0, 3}, {4, 0, 0, 4}, {4, 1, 0, 1}, {5, 0, 1, 1}, {5, 1, 0, 1}, {7, 0, 1, 3}, {8, 0, 1, 4}, {8, 1, 0, 2}, {12, 1, 0, 3},
		{15, 0, 3, 3}, {15, 1, 0, 3}, {16, 0, 3, 4}, {16, 1, 0, 4}, {16, 2, 0, 1}, {17, 0, 4, 1}, {17, 1, 0, 4}, {20, 1, 1, 1}, {32, 1, 1, 4}, {32, 2, 0, 2}, {33, 0, 8, 1}, {33, 2, 0, 2},
		{48, 2, 0, 3}, {63, 2, 0, 3}, {64, 2, 0, 4}, {64, 3, 0, 1}, {128, 3, 0, 2}, {192, 3, 0, 3}, {199, 0, 49, 3}, {199, 1, 12, 1}, {200, 0, 49, 4}, {200, 1, 12, 2}, {200, 2, 2, 4}, {200, 3, 0, 3},
	} {
		a := askedOf(all[:c.size])
		if got := a.sumsOf(t, "tile", c.level, c.last); len(got) != c.wide {
			t.Errorf("%v: %d wide", c, len(got))
		}
		if got := a.sumsOf(t, "tile", c.level, 0); c.last > 0 && len(got) != 4 {
			t.Errorf("%v: the first is %d wide", c, len(got))
		}
		a.wantTold(t, api.ErrNone, fmt.Sprint("tile ", c.level, " ", c.last+1), fmt.Sprint("tile ", c.level, " ", c.last+2), fmt.Sprint("tile ", c.level, " 9999"))
	}
}

// V1: Levels and tiles that there are not, up to the greatest numbers: there is none such.
func TestNoSuchTile(t *testing.T) {
	all := logOf(most)
	for _, many := range someSizes {
		a := askedOf(all[:many])
		for _, level := range []int{4, 5, 6, 7, 8, 15, 16, 31, 32, 33, 63, 64, 65, 100, 128, 1000, 1024, 9999} {
			for _, index := range []int{0, 1, 2, 50, 1000, 9999} {
				a.wantTold(t, api.ErrNone, fmt.Sprint("tile ", level, " ", index))
			}
		}
		for level, index := range []int{50, 13, 4, 1} {
			for _, more := range []int{0, 1, 64, 255, 256, 1000, 9999 - index} {
				a.wantTold(t, api.ErrNone, fmt.Sprint("tile ", level, " ", index+more))
			}
		}
	}
}

// notNumbers are words that are no numbers.
var notNumbers = []string{"", "00", "01", "007", "0000", "00001", "0001", "+1", "-1", "+0", "-0", "a", "1a", "a1", "1a1", "x", "0x1", "1.", ".1", "1.0", "1e1", "1_0", "_1", "1_", "10000", "12345", "99999", "999999999", "18446744073709551616", "18446744073709551617", "9223372036854775808", "1\n", "\n1", "1\t", "\t1", "1\x00", "١", "１", "½", "-", "--1", "'1'", "1,", "0b1", "0o1", "Inf", strings.Repeat("1", 5000), strings.Repeat("0", 5000)}

// someLogs are good ones, and bad ones of each kind.
func someLogs() []asked {
	return []asked{askedOf(nil), askedOf(logOf(1)), askedOf(logOf(20)), askedOf(logOf(201)), {l: logOf(3)}, {l: logOf(3), key: key, now: -1}, askedOf(entries{{Time: -1}}), askedOf(entries{{Data: tooLong}})}
}

// V1: texts that are none such, whatever the log is: ErrSyntax goes ahead of all.
func TestSyntax(t *testing.T) {
	var texts []string
	for _, word := range sixWords {
		texts = append(texts, strings.ToUpper(word), strings.ToUpper(word[:1])+word[1:], word[1:], word[:len(word)-1], word+"s", word+word, "s"+word, word+"\n", "\x00"+word, word+"\x00", word+"0", word+"0 0", word+" "+word)
		for many := range 5 {
			right := word + strings.Repeat(" 0", many)
			if formOfAsk.MatchString(right) {
				texts = append(texts, " "+right, right+" ", right+"\n", "\n"+right, right+"\t", right+"\r\n", right+" 0", right+"  ", "  "+right, right+".", right+",", right+"?", right+"a")
				texts = append(texts, right[:len(right)-1])
			} else {
				texts = append(texts, right)
			}
			for _, sign := range []string{"  ", "   ", "\t", "\n", "\r", "\v", "\f", ",", ", ", " ,", "\u00a0", "\u2003", "\x00", "-", " -", "+", ".", "/", "x", " \t", "\t "} {
				texts = append(texts, word+strings.Repeat(sign+"1", max(1, many)), word+" 1"+strings.Repeat(sign+"1", max(1, many)))
			}
		}
		for _, no := range notNumbers {
			texts = append(texts, word+" "+no, word+" "+no+" 1", word+" 1 "+no, word+" "+no+" "+no, word+" 1 1 "+no, no)
		}
	}
	texts = append(texts, "", " ", "  ", "\n", "\x00", "0", "1", "0 0", "5 hi", "ask head", "tail", "sum 1", "node 0 1", "root", "root 1", "size", "want", "state", "step", "leafs 0", "entries 0", "tiles 0 0", "heads", "grown 1 1", "he ad", "e ntry 0", "entry0", "add 1 a", "key a", "bad", "-", strings.Repeat(" ", 100_000), "head"+strings.Repeat(" 0", 100_000), strings.Repeat("head ", 100_000), "entry "+strings.Repeat("9", 100_000))
	for _, a := range someLogs() {
		for _, text := range texts {
			a.wantTold(t, api.ErrSyntax, text)
		}
	}
}

// V1: numbers of up to four digits are numbers: what is wrong with them is told by the others.
func TestFourDigits(t *testing.T) {
	a := askedOf(logOf(12))
	for n := range 10_000 {
		errno := api.ErrNone
		if n < 12 {
			errno = api.OK
		}
		a.wantTold(t, errno, fmt.Sprint("entry ", n))
		if n%97 == 0 {
			a.wantTold(t, errno, fmt.Sprint("leaf ", n))
		}
	}
	for n := 10_000; n < 10_300; n++ {
		a.wantTold(t, api.ErrSyntax, fmt.Sprint("entry ", n), fmt.Sprint("leaf ", n), fmt.Sprint("tile 0 ", n), fmt.Sprint("tile ", n, " 0"), fmt.Sprint("proof 0 ", n), fmt.Sprint("grow ", n, " 1"))
	}
	a.wantTold(t, api.ErrRange, "proof 9999 9999", "proof 0 9999", "proof 1000 1001", "grow 9999 9999", "grow 1 9999", "grow 1000 12")
	a.wantTold(t, api.ErrNone, "tile 9999 9999", "tile 0 9999", "tile 9999 0", "tile 1000 0")
}

// V1: texts of up to five pieces of these kinds, all that there are.
func TestShortTexts(t *testing.T) {
	pieces := []string{"head", "entry", "leaf", "proof", "grow", "tile", " ", "0", "1", "2", "+", "a"}
	a := askedOf(logOf(2))
	told := map[api.Errno]int{}
	var each func(text string, long int)
	each = func(text string, long int) {
		told[a.want(t, text)]++
		if long < 5 {
			for _, p := range pieces {
				each(text+p, long+1)
			}
		}
	}
	each("", 0)
	for _, errno := range []api.Errno{api.OK, api.ErrSyntax, api.ErrNone, api.ErrRange} {
		if told[errno] < 4 {
			t.Errorf("%v came up %d times: too few", errno, told[errno])
		}
	}
}

// V1: texts of which one byte is another one, is left out, or stands there twice, or that have one more.
func TestDamagedTexts(t *testing.T) {
	a := askedOf(logOf(20))
	for _, ask := range append(slices.Clone(sixAsks), "entry 19", "leaf 10", "proof 10 19", "grow 10 19", "tile 0 4", "entry 1999", "tile 1000 1000", "proof 1 1000") {
		for i := range len(ask) {
			a.want(t, ask[:i]+ask[i+1:])
			a.want(t, ask[:i]+ask[i:i+1]+ask[i:])
			a.want(t, ask[:i])
			a.want(t, ask[i:])
			for c := range 256 {
				one := string([]byte{byte(c)})
				a.want(t, ask[:i]+one+ask[i+1:])
				a.want(t, ask[:i]+one+ask[i:])
				a.want(t, ask+one)
			}
		}
	}
}

// badLogs are logs that Head refuses, and its error.
func badLogs() (logs []asked) {
	add := func(l entries, key, now int) { logs = append(logs, asked{l: l, key: key, now: now}) }
	for _, n := range []int{201, 202, 255, 256, 257, 400, 1000} {
		l := make(entries, n)
		add(l, key, now)
		add(l, 0, -1)
		add(append(entries{{Time: -1, Data: tooLong}}, l...), key, now)
	}
	for _, n := range []int{1, 2, 3, 16, 17, 200} {
		for _, at := range []int{0, n / 2, n - 1} {
			for _, bad := range []api.Entry{{Time: -1}, {Time: maxTime + 1}, {Time: math.MinInt}, {Time: math.MaxInt}, {Data: tooLong}, {Time: -1, Data: tooLong}, {Time: maxTime, Data: strings.Repeat("b", 1<<16)}} {
				l := logOf(n)
				l[at] = bad
				add(l, key, now)
				add(l, 0, now)
				add(l, key, -1)
			}
		}
	}
	for _, n := range []int{0, 1, 2, 17, 200} {
		for _, bad := range badKeys {
			add(logOf(n), bad, now)
			add(logOf(n), bad, -1)
		}
		for _, bad := range badTimes {
			add(logOf(n), key, bad)
			add(logOf(n), 0, bad)
		}
	}
	return logs
}

// V1: Head's errors, which go ahead of all but ErrSyntax for each of the six words; nothing is handed out beside them.
func TestHeadRefused(t *testing.T) {
	told := map[api.Errno]int{}
	for _, a := range badLogs() {
		errno := a.refused()
		if errno == api.OK {
			t.Fatalf("%d entries, key %d, now %d: they are none that are refused", len(a.l), a.key, a.now)
		}
		told[errno]++
		a.wantHead(t)
		a.wantTold(t, errno, sixAsks...)
		a.wantTold(t, errno, "entry 9999", "leaf 9999", "proof 0 0", "proof 5 5", "proof 0 9999", "grow 0 0", "grow 0 1", "grow 2 1", "grow 1 9999", "tile 4 0", "tile 0 9999", "tile 9999 9999")
		a.wantTold(t, api.ErrSyntax, "", "heads", "head ", "head 0", "entry", "entry 01", "leaf 10000", "proof 0", "grow 1  1", "tile 0 0 0")
	}
	if told[api.ErrFull] < 40 || told[api.ErrRange] < 40 {
		t.Errorf("too few of one kind: %v", told)
	}
}

// V1: which of Leafs' and Sign's errors is told first, written out by hand.
func TestOrderOfHeadsErrors(t *testing.T) {
	early, long, good := api.Entry{Time: -1}, api.Entry{Data: tooLong}, api.Entry{Time: 1, Data: "a"}
	for i, c := range []struct {
		l        entries
		key, now int
		want     api.Errno
	}{
		{slices.Repeat(entries{good}, 200), 1, 0, api.OK},
		{slices.Repeat(entries{good}, 201), 1, 0, api.ErrFull},
		{slices.Repeat(entries{early}, 201), 0, -1, api.ErrFull},
		{entries{early, long}, 1, 0, api.ErrRange},
		{entries{long, early}, 1, 0, api.ErrFull},
		{entries{good, long, early, good}, 1, 0, api.ErrFull},
		{entries{{Time: -1, Data: tooLong}}, 1, 0, api.ErrRange},
		{entries{good, long}, 0, 0, api.ErrFull},
		{entries{good, long}, 1, -1, api.ErrFull},
		{entries{good}, 0, 0, api.ErrRange},
		{entries{good}, 1, -1, api.ErrRange},
		{entries{good}, 1_000_000, 1_000_000, api.OK},
		{entries{good}, 1_000_001, 1_000_000, api.ErrRange},
		{entries{good}, 1_000_000, 1_000_001, api.ErrRange},
		{nil, 0, 0, api.ErrRange},
		{nil, 1, maxTime + 1, api.ErrRange},
	} {
		h, err := serve.Head(c.l, c.key, c.now)
		wantError(t, fmt.Sprint("Head, case ", i), err, c.want)
		if (h == api.Head{}) != (c.want != api.OK) {
			t.Errorf("case %d: %v beside %v", i, h, err)
		}
		for _, ask := range sixAsks {
			text, err := serve.Answer(c.l, c.key, c.now, ask)
			wantError(t, fmt.Sprint(ask, ", case ", i), err, c.want)
			if (text == "") != (c.want != api.OK) {
				t.Errorf("case %d: %s: %q beside %v", i, ask, text, err)
			}
		}
	}
}

// V1: 200 entries, all as great as may be, and one more.
func TestMostEntries(t *testing.T) {
	big := slices.Repeat(entries{{Time: maxTime, Data: strings.Repeat("z", 200)}}, most+1)
	a := askedOf(big[:most])
	a.wantHead(t)
	a.wantTold(t, api.OK, sixAsks...)
	a.wantTold(t, api.OK, "entry 199", "leaf 199", "proof 199 200", "proof 0 200", "grow 1 200", "grow 199 200", "grow 200 200", "tile 0 49", "tile 3 0")
	a.wantTold(t, api.ErrNone, "entry 200", "leaf 200", "tile 0 50", "tile 4 0")
	a.wantTold(t, api.ErrRange, "proof 200 200", "proof 0 201", "grow 200 201", "grow 201 201")
	over := askedOf(big)
	over.wantHead(t)
	over.wantTold(t, api.ErrFull, sixAsks...)
	over.wantTold(t, api.ErrFull, "entry 200", "leaf 200", "entry 201", "proof 200 201", "grow 200 201", "tile 0 50")
}

// text makes a string whose bytes can be written over later on.
func text(b []byte) string { return unsafe.String(unsafe.SliceData(b), len(b)) }

// inside tells whether a text begins in the memory of another one.
func inside(part, whole string) bool {
	if part == "" || whole == "" {
		return false
	}
	from, at := uintptr(unsafe.Pointer(unsafe.StringData(whole))), uintptr(unsafe.Pointer(unsafe.StringData(part)))
	return from <= at && at < from+uintptr(len(whole))
}

// DOC's P2: what was told stays when lists, texts and what stands behind them are changed afterwards.
func TestArgumentsAreNotKept(t *testing.T) {
	for _, many := range []int{1, 5, 16, 17, 33} {
		for _, ask := range append(slices.Clone(sixAsks), "entry "+strconv.Itoa(many-1), fmt.Sprint("proof 0 ", many), fmt.Sprint("grow 1 ", many)) {
			l, memory := logOf(many), [][]byte{[]byte(ask)}
			want, errno := askedOf(logOf(many)).answer(ask)
			for i := range l {
				memory = append(memory, []byte(l[i].Data))
				l[i].Data = text(memory[i+1])
			}
			got, err := serve.Answer(l, key, now, text(memory[0]))
			h, bad := serve.Head(l, key, now)
			wantError(t, ask, err, errno)
			wantError(t, "Head", bad, api.OK)
			for _, b := range memory {
				if inside(got, text(b)) || inside(text(b), got) {
					t.Fatalf("%s of %d: %q shares memory with what was handed in", ask, many, got)
				}
				copy(b, strings.Repeat("y", len(b)))
			}
			clear(l)
			if got != want || h != askedOf(logOf(many)).head() {
				t.Fatalf("%s of %d: %q, %v: it changed with what was handed in", ask, many, got, h)
			}
		}
	}
}

// DOC's P2, P4: lists that are handed in are neither written into nor read behind their length; the same is answered again.
func TestListsAreNotTouched(t *testing.T) {
	for _, many := range someSizes {
		room := append(logOf(many), api.Entry{Time: -1}, api.Entry{Data: tooLong}, api.Entry{Time: 5, Data: "behind"})
		before := slices.Clone(room)
		a := askedOf(room[:many])
		for range 2 {
			a.wantHead(t)
			for _, ask := range sixAsks {
				a.want(t, ask)
			}
			a.wantTold(t, api.ErrNone, fmt.Sprint("entry ", many), fmt.Sprint("leaf ", many), "tile 9 0")
			a.wantTold(t, api.ErrRange, fmt.Sprint("proof 0 ", many+1), fmt.Sprint("grow 1 ", many+1))
			a.wantTold(t, api.ErrSyntax, "", "head ")
			if !slices.Equal(room, before) {
				t.Fatalf("a list of %d was written into", many)
			}
		}
		for _, bad := range []asked{askedOf(room), {l: room[:many], key: 0}, {l: room[:many], key: key, now: -1}} {
			for _, ask := range append(slices.Clone(sixAsks), "none") {
				bad.want(t, ask)
			}
		}
		if !slices.Equal(room, before) {
			t.Fatalf("a list of %d was written into beside an error", many)
		}
	}
}

// DOC's P2: what is answered hangs on no call before: logs by turns.
func TestByTurns(t *testing.T) {
	rnd := rand.New(rand.NewSource(1))
	all := logOf(most)
	told := map[string]map[api.Errno]int{}
	for range 20_000 {
		from := rnd.Intn(most)
		a := askedOf(all[from : from+rnd.Intn(min(most-from, 40)+1)])
		a.key, a.now = rnd.Intn(1000)-2, rnd.Intn(1000)-2
		word, many := sixWords[rnd.Intn(6)], rnd.Intn(3)
		ask := word
		for range many {
			ask += " " + strconv.Itoa(rnd.Intn([]int{2, 4, 10, 40, 100, 20_000}[rnd.Intn(6)]))
		}
		if told[word] == nil {
			told[word] = map[api.Errno]int{}
		}
		told[word][a.want(t, ask)]++
		a.wantHead(t)
	}
	for word, errno := range map[string]api.Errno{"head": api.OK, "entry": api.ErrNone, "leaf": api.ErrNone, "proof": api.ErrRange, "grow": api.ErrRange, "tile": api.ErrNone} {
		if told[word][api.OK] < 30 || told[word][errno] < 30 || told[word][api.ErrSyntax] < 30 {
			t.Errorf("%s: too few of one kind: %v", word, told[word])
		}
	}
}

// V1's numbers: in decimal of at most four digits, without a needless 0.
func TestNumber(t *testing.T) {
	for n := range 12_000 {
		want, wantOK := n, n < 10_000
		if !wantOK {
			want = 0
		}
		if got, ok := serve.Number(strconv.Itoa(n)); got != want || ok != wantOK {
			t.Errorf("%d: %d, %v", n, got, ok)
		}
	}
	for _, word := range []string{"", " ", "00", "01", "007", "0000", "0123", "+1", "-1", "-0", "+0", "-", "+", "1 ", " 1", "1a", "a", "1.0", "1e2", "0x1", "1_0", "1\n", "1\x00", "١", "１", "10000", "00001", "99999999999999999999", "18446744073709551617"} {
		if got, ok := serve.Number(word); got != 0 || ok {
			t.Errorf("%q: %d, %v", word, got, ok)
		}
	}
}
