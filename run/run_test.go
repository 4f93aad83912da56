package run_test

import (
	"fmt"
	"math/rand"
	"regexp"
	"slices"
	"strconv"
	"strings"
	"sync"
	"testing"
	"unsafe"

	"witnessbox/api"
	"witnessbox/entry"
	"witnessbox/grow"
	"witnessbox/head"
	"witnessbox/keys"
	"witnessbox/mirror"
	"witnessbox/mix"
	"witnessbox/plain"
	"witnessbox/run"
	"witnessbox/serve"
)

const (
	maxRun  = 3000
	most    = 200
	page    = 16
	tooLong = "too long\n"
	// With the Time 5 the leaf of the first is 0, that of the second the greatest sum that there is.
	noughtData = "adkjpejz"
	topData    = "adkjpejy"
)

// fourWords want nothing behind them.
var fourWords = []string{"want", "step", "bad", "state"}

// lineForm has the lines of Z1's table.
var lineForm = regexp.MustCompile(`(?s)^(?:want|step|bad|state|ask .*|key .*|add (0|[1-9][0-9]{0,3}) (.*))$`)

// named is P3's name of an error, or that there is none.
func named(err error) string {
	names := []string{"ok", "ErrRange", "ErrSyntax", "ErrShape", "ErrFull", "ErrNone", "ErrState", "ErrClash", "ErrProof", "ErrSign"}
	return names[plain.Told(err)]
}

// must has no error.
func must[T any](answer T, err error) T {
	if err != nil {
		panic(err)
	}
	return answer
}

// orNamed is an answer, or the name of its error.
func orNamed(answer string, err error) string {
	if err != nil {
		return named(err)
	}
	return answer
}

// reckoning is Z1, word for word, out of the other packages.
type reckoning struct {
	log   []api.Entry
	m     *mirror.Mirror
	kinds map[string]int // how often there was which kind of line, and of answer
}

func reckon() *reckoning {
	return &reckoning{m: must(mirror.New(7)), kinds: map[string]int{}}
}

// replies is what the Mirror wants of the log.
func (r *reckoning) replies() api.Reply {
	switch w := r.m.Want(); w.What {
	case api.AHead:
		return api.Reply{What: api.AHead, Head: must(serve.Head(r.log, 7, 0))}
	case api.Some:
		return api.Reply{What: api.Some, Entries: r.log[w.From:w.To]}
	default:
		return api.Reply{What: api.AProof, Proof: must(grow.Make(must(entry.Leafs(r.log)), w.From, w.To))}
	}
}

// lies is what the Mirror wants, but told wrong as Z1 says.
func (r *reckoning) lies() api.Reply {
	reply := r.replies()
	switch reply.What {
	case api.AHead:
		if reply.Head.Root--; reply.Head.Root < 0 {
			reply.Head.Root = 1
		}
	case api.Some:
		var l []api.Entry
		for _, e := range reply.Entries {
			l = append(l, api.Entry{Data: e.Data})
		}
		reply.Entries = l
	default:
		reply.Proof = append([]int{0}, reply.Proof[1:]...)
	}
	return reply
}

func (r *reckoning) add(time, data string) string {
	n, _ := strconv.Atoi(time)
	e := api.Entry{Time: n, Data: data}
	if err := entry.Check(e); err != nil {
		return named(err)
	}
	if len(r.log) >= most {
		return "ErrFull"
	}
	r.log = append(r.log, e)
	return "ok"
}

// line is the answer to one.
func (r *reckoning) line(line string) string {
	form := lineForm.FindStringSubmatch(line)
	if form == nil {
		return "bad"
	}
	switch line[:3] {
	case "wan":
		w := r.m.Want()
		return fmt.Sprintf("%d %d %d", w.What, w.From, w.To)
	case "ste":
		return named(r.m.Hear(r.replies()))
	case "bad":
		return named(r.m.Hear(r.lies()))
	case "sta":
		return fmt.Sprintf("%d %08x", r.m.Size(), r.m.Root())
	case "ask":
		return orNamed(serve.Answer(r.log, 7, 0, line[4:]))
	case "key":
		return orNamed(keys.Bits(line[4:]))
	}
	return r.add(form[1], form[2])
}

// kindOf a line, of what the Mirror wanted ahead of it, and of the answer.
func kindOf(line string, wanted int, answer string) string {
	word, _, _ := strings.Cut(line, " ")
	switch {
	case line == "step" || line == "bad":
		return fmt.Sprint(word, " ", wanted, " ", answer)
	case answer == "bad":
		return "none bad"
	case answer == "ok" || strings.HasPrefix(answer, "Err"):
		return word + " " + answer
	}
	return word + " told"
}

// text is the answer to one.
func (r *reckoning) text(text string) string {
	if len(text) > maxRun {
		return tooLong
	}
	pieces := strings.Split(text, "\n")
	if last := len(pieces) - 1; pieces[last] == "" {
		pieces = pieces[:last]
	}
	answers := ""
	for _, line := range pieces {
		wanted := r.m.Want().What
		answer := r.line(line)
		r.kinds[kindOf(line, wanted, answer)]++
		answers += answer + "\n"
	}
	return answers
}

// short is a text that can be looked at.
func short(text string) string {
	if len(text) > 200 {
		return fmt.Sprintf("%q and so on, %d bytes", text[:200], len(text))
	}
	return strconv.Quote(text)
}

// wantText holds what Run answers to a text against what it is to answer, line by line.
func wantText(t *testing.T, text, want string) {
	t.Helper()
	got := run.Run(text)
	if got == want {
		return
	}
	lines, gots, wants := strings.Split(text, "\n"), strings.Split(got, "\n"), strings.Split(want, "\n")
	for i := range min(len(gots), len(wants)) {
		if gots[i] != wants[i] {
			t.Fatalf("%s: answer %d, to %s: got %s, want %s", short(text), i, short(lines[min(i, len(lines)-1)]), short(gots[i]), short(wants[i]))
		}
	}
	t.Fatalf("%s: got %d answers, want %d", short(text), len(gots)-1, len(wants)-1)
}

// wantReckoned holds what Run answers against the reckoning.
func wantReckoned(t *testing.T, lines ...string) {
	t.Helper()
	text := ended(lines...)
	wantText(t, text, reckon().text(text))
}

// ended are lines, each with its end.
func ended(lines ...string) string {
	out := ""
	for _, l := range lines {
		out += l + "\n"
	}
	return out
}

// talk is lines, and what is answered to each.
type talk struct {
	lines, answers []string
}

func (k *talk) say(line, answer string) {
	k.lines, k.answers = append(k.lines, line), append(k.answers, answer)
}

func (k *talk) sayAll(pairs ...[2]string) {
	for _, p := range pairs {
		k.say(p[0], p[1])
	}
}

// hold the talk against Run.
func (k *talk) hold(t *testing.T) {
	t.Helper()
	text, want := ended(k.lines...), ended(k.answers...)
	if len(text) > maxRun {
		t.Fatalf("a text of %d bytes is too long for this test", len(text))
	}
	wantText(t, text, want)
}

// stateOf entries that a Mirror has, as `state` tells it.
func stateOf(l []api.Entry) string {
	return strconv.Itoa(len(l)) + " " + fmt.Sprintf("%08x", rootOf(must(entry.Leafs(l))))
}

// rootOf is chapter 2's, word for word.
func rootOf(leafs []int) int {
	switch len(leafs) {
	case 0:
		return mix.Sum("")
	case 1:
		return leafs[0]
	}
	k := 1
	for 2*k < len(leafs) {
		k *= 2
	}
	return must(mix.Node(rootOf(leafs[:k]), rootOf(leafs[k:])))
}

// known are lines, and what another program, written out of the chapters alone, answered to each.
var known = []struct {
	name  string
	pairs [][2]string
}{
	{"of each kind, of a log without entries", [][2]string{
		{"want", "1 0 0"},
		{"state", "0 00001505"},
		{"step", "ok"},
		{"want", "1 0 0"},
		{"state", "0 00001505"},
		{"bad", "ErrSign"},
		{"want", "1 0 0"},
		{"state", "0 00001505"},
		{"ask head", "0 00001505 0 0beefc1f"},
		{"ask entry 0", "ErrNone"},
		{"ask leaf 0", "ErrNone"},
		{"ask proof 0 0", "ErrRange"},
		{"ask proof 0 1", "ErrRange"},
		{"ask grow 0 0", "ErrRange"},
		{"ask grow 1 1", "ErrRange"},
		{"ask tile 0 0", "ErrNone"},
		{"key a", "11110001"},
		{"key b", "11110010"},
	}},
	{"one entry, by a head and a page", [][2]string{
		{"add 5 hi", "ok"},
		{"state", "0 00001505"},
		{"want", "1 0 0"},
		{"step", "ok"},
		{"want", "2 0 1"},
		{"state", "0 00001505"},
		{"step", "ok"},
		{"want", "1 0 0"},
		{"state", "1 53329ffd"},
		{"step", "ok"},
		{"want", "1 0 0"},
		{"state", "1 53329ffd"},
	}},
	{"two entries, then three more while the first two are waited for", [][2]string{
		{"add 10 first", "ok"},
		{"add 20 second one", "ok"},
		{"step", "ok"},
		{"want", "2 0 2"},
		{"add 30 ", "ok"},
		{"add 40  x ", "ok"},
		{"step", "ok"},
		{"want", "1 0 0"},
		{"state", "2 43ca0869"},
		{"add 9999 last", "ok"},
		{"step", "ok"},
		{"want", "2 2 5"},
		{"step", "ok"},
		{"want", "3 2 5"},
		{"state", "2 43ca0869"},
		{"step", "ok"},
		{"want", "1 0 0"},
		{"state", "5 7535f53e"},
		{"step", "ok"},
		{"want", "1 0 0"},
	}},
	{"one entry more at a time", [][2]string{
		{"add 1 a", "ok"},
		{"step", "ok"},
		{"step", "ok"},
		{"state", "1 3c3beac4"},
		{"add 2 b", "ok"},
		{"step", "ok"},
		{"want", "2 1 2"},
		{"step", "ok"},
		{"want", "3 1 2"},
		{"step", "ok"},
		{"state", "2 2f0a870a"},
		{"add 3 c", "ok"},
		{"step", "ok"},
		{"step", "ok"},
		{"want", "3 2 3"},
		{"step", "ok"},
		{"state", "3 03517ebd"},
		{"add 4 d", "ok"},
		{"step", "ok"},
		{"step", "ok"},
		{"want", "3 3 4"},
		{"step", "ok"},
		{"state", "4 08f3676d"},
		{"add 5 e", "ok"},
		{"step", "ok"},
		{"step", "ok"},
		{"want", "3 4 5"},
		{"step", "ok"},
		{"state", "5 21f651d5"},
	}},
	{"bad at a head", [][2]string{
		{"bad", "ErrSign"},
		{"want", "1 0 0"},
		{"add 5 hi", "ok"},
		{"bad", "ErrSign"},
		{"want", "1 0 0"},
		{"state", "0 00001505"},
		{"step", "ok"},
		{"want", "2 0 1"},
	}},
	{"bad at entries, of none ahead", [][2]string{
		{"add 5 hi", "ok"},
		{"add 6 ho", "ok"},
		{"step", "ok"},
		{"bad", "ErrProof"},
		{"want", "1 0 0"},
		{"state", "0 00001505"},
		{"bad", "ErrSign"},
		{"step", "ok"},
		{"step", "ok"},
		{"want", "1 0 0"},
		{"state", "2 4b3a4928"},
	}},
	{"bad at entries, of some ahead", [][2]string{
		{"add 5 hi", "ok"},
		{"step", "ok"},
		{"step", "ok"},
		{"add 6 ho", "ok"},
		{"step", "ok"},
		{"want", "2 1 2"},
		{"bad", "ok"},
		{"want", "3 1 2"},
		{"state", "1 53329ffd"},
		{"step", "ErrProof"},
		{"want", "1 0 0"},
		{"state", "1 53329ffd"},
		{"step", "ok"},
		{"step", "ok"},
		{"step", "ok"},
		{"state", "2 4b3a4928"},
	}},
	{"bad at a proof", [][2]string{
		{"add 5 hi", "ok"},
		{"step", "ok"},
		{"step", "ok"},
		{"add 6 ho", "ok"},
		{"step", "ok"},
		{"step", "ok"},
		{"want", "3 1 2"},
		{"bad", "ErrProof"},
		{"want", "1 0 0"},
		{"state", "1 53329ffd"},
		{"step", "ok"},
		{"step", "ok"},
		{"step", "ok"},
		{"state", "2 4b3a4928"},
	}},
	{"bad at entries of which all Times are 0", [][2]string{
		{"add 0 a", "ok"},
		{"add 0 b", "ok"},
		{"step", "ok"},
		{"bad", "ok"},
		{"state", "2 3d6f55b6"},
		{"add 0 c", "ok"},
		{"step", "ok"},
		{"bad", "ok"},
		{"want", "3 2 3"},
		{"step", "ok"},
		{"state", "3 00fe8ffc"},
	}},
	{"bad at entries of which one Time is not 0", [][2]string{
		{"add 0 a", "ok"},
		{"add 1 b", "ok"},
		{"add 0 c", "ok"},
		{"step", "ok"},
		{"bad", "ErrProof"},
		{"want", "1 0 0"},
		{"state", "0 00001505"},
	}},
	{"bad at a head whose Root is 0", [][2]string{
		{"add 5 adkjpejz", "ok"},
		{"ask head", "1 00000000 0 6b44b283"},
		{"ask leaf 0", "00000000"},
		{"bad", "ErrSign"},
		{"want", "1 0 0"},
		{"step", "ok"},
		{"want", "2 0 1"},
		{"step", "ok"},
		{"state", "1 00000000"},
	}},
	{"bad at a head whose Root is the greatest sum", [][2]string{
		{"add 5 adkjpejy", "ok"},
		{"ask head", "1 7ffffffe 0 5eabdd0e"},
		{"bad", "ErrSign"},
		{"want", "1 0 0"},
		{"step", "ok"},
		{"step", "ok"},
		{"state", "1 7ffffffe"},
	}},
	{"bad at a proof whose first sum is 0", [][2]string{
		{"add 1 a", "ok"},
		{"step", "ok"},
		{"step", "ok"},
		{"add 5 adkjpejz", "ok"},
		{"add 2 b", "ok"},
		{"ask grow 1 3", "00000000 3c3c2dce"},
		{"step", "ok"},
		{"step", "ok"},
		{"want", "3 1 3"},
		{"bad", "ok"},
		{"want", "1 0 0"},
		{"state", "3 771c059a"},
	}},
	{"bad at a proof whose second sum is 0", [][2]string{
		{"add 1 a", "ok"},
		{"step", "ok"},
		{"step", "ok"},
		{"add 2 b", "ok"},
		{"add 5 adkjpejz", "ok"},
		{"ask grow 1 3", "3c3c2dce 00000000"},
		{"step", "ok"},
		{"step", "ok"},
		{"want", "3 1 3"},
		{"bad", "ErrProof"},
		{"want", "1 0 0"},
		{"state", "1 3c3beac4"},
	}},
	{"texts with blanks", [][2]string{
		{"add 1  a", "ok"},
		{"add 1 a ", "ok"},
		{"add 1  ", "ok"},
		{"add 1 ", "ok"},
		{"add 0 a b  c", "ok"},
		{"ask entry 0", "1  a"},
		{"ask entry 1", "1 a "},
		{"ask entry 2", "1  "},
		{"ask entry 3", "1 "},
		{"ask entry 4", "0 a b  c"},
		{"ask head", "5 6e20cc43 0 61620d14"},
	}},
	{"numbers of an entry", [][2]string{
		{"add 0 x", "ok"},
		{"add 7 x", "ok"},
		{"add 42 x", "ok"},
		{"add 999 x", "ok"},
		{"add 1000 x", "ok"},
		{"add 9999 x", "ok"},
		{"add 10000 x", "bad"},
		{"add 00 x", "bad"},
		{"add 01 x", "bad"},
		{"add 0000 x", "bad"},
		{"add  x", "bad"},
		{"add +1 x", "bad"},
		{"add -1 x", "bad"},
		{"add 1a x", "bad"},
		{"add a x", "bad"},
		{"add 1. x", "bad"},
		{"add 1", "bad"},
		{"add", "bad"},
		{"ask head", "6 4998340e 0 1d631761"},
		{"ask entry 5", "9999 x"},
		{"ask entry 6", "ErrNone"},
	}},
	{"what is asked", [][2]string{
		{"add 3 a", "ok"},
		{"add 1 b", "ok"},
		{"add 4 c", "ok"},
		{"add 1 d", "ok"},
		{"add 5 e", "ok"},
		{"ask head", "5 6827554a 0 2054066d"},
		{"ask entry 0", "3 a"},
		{"ask entry 4", "5 e"},
		{"ask entry 5", "ErrNone"},
		{"ask leaf 2", "3c3cb3e1"},
		{"ask leaf 5", "ErrNone"},
		{"ask proof 0 5", "3c3beac5 575eb75b 3c3cf6ec"},
		{"ask proof 4 5", "2a308425"},
		{"ask proof 0 1", "-"},
		{"ask proof 5 5", "ErrRange"},
		{"ask proof 0 6", "ErrRange"},
		{"ask grow 2 5", "575eb75b 3c3cf6ec"},
		{"ask grow 3 5", "3c3cb3e1 3c3beac7 42a81e10 3c3cf6ec"},
		{"ask grow 5 5", "-"},
		{"ask grow 0 5", "ErrRange"},
		{"ask grow 4 6", "ErrRange"},
		{"ask tile 0 0", "3c3c70d6 3c3beac5 3c3cb3e1 3c3beac7"},
		{"ask tile 0 1", "3c3cf6ec"},
		{"ask tile 1 0", "2a308425"},
		{"ask tile 0 2", "ErrNone"},
		{"ask tile 2 0", "ErrNone"},
		{"ask tile 4 0", "ErrNone"},
	}},
	{"what is none to ask", [][2]string{
		{"add 3 a", "ok"},
		{"ask", "bad"},
		{"ask ", "ErrSyntax"},
		{"ask  ", "ErrSyntax"},
		{"ask  head", "ErrSyntax"},
		{"ask head ", "ErrSyntax"},
		{"ask heads", "ErrSyntax"},
		{"ask Head", "ErrSyntax"},
		{"ask entry", "ErrSyntax"},
		{"ask entry ", "ErrSyntax"},
		{"ask entry  0", "ErrSyntax"},
		{"ask entry 00", "ErrSyntax"},
		{"ask entry 0 ", "ErrSyntax"},
		{"ask entry 12345", "ErrSyntax"},
		{"ask proof 0", "ErrSyntax"},
		{"ask head 0", "ErrSyntax"},
		{"ask want", "ErrSyntax"},
	}},
	{"keys", [][2]string{
		{"key", "bad"},
		{"key ", "ErrSyntax"},
		{"key a", "11110001"},
		{"key b", "11110010"},
		{"key  a", "01110010"},
		{"key a ", "01110100"},
		{"key a b", "11000100"},
		{"key hello", "11110010"},
		{"key witnessbox", "11001100"},
		{"key  ", "10110000"},
	}},
	{"near words", [][2]string{
		{"", "bad"},
		{"wan", "bad"},
		{"wants", "bad"},
		{"Want", "bad"},
		{" want", "bad"},
		{"want ", "bad"},
		{"want 1", "bad"},
		{"step ", "bad"},
		{"step 1", "bad"},
		{"steps", "bad"},
		{" step", "bad"},
		{"bad ", "bad"},
		{"bad 1", "bad"},
		{"Bad", "bad"},
		{"state ", "bad"},
		{"state 0", "bad"},
		{"stat", "bad"},
		{"add 1 ", "ok"},
		{"adds 1 x", "bad"},
		{"Add 1 x", "bad"},
		{" add 1 x", "bad"},
		{"add  1 x", "bad"},
		{"asks head", "bad"},
		{" ask head", "bad"},
		{"ASK head", "bad"},
		{"keys a", "bad"},
		{" key a", "bad"},
		{"ok", "bad"},
		{"too long", "bad"},
		{"head", "bad"},
	}},
}

// Z1: known values, with the end of the last line and without it.
func TestKnown(t *testing.T) {
	for _, c := range known {
		t.Run(c.name, func(t *testing.T) {
			var k talk
			k.sayAll(c.pairs...)
			k.hold(t)
			wantText(t, strings.Join(k.lines, "\n"), ended(k.answers...))
			wantReckoned(t, k.lines...)
		})
	}
}

// Z1: texts of MaxRun bytes, of less and of more.
func TestTooLong(t *testing.T) {
	for _, unit := range []string{"\n", "want\n", "step\n", "x", " ", "\x00", "\xff", "é", "add 1 x\n", "key a\n", "ask head\n", "too long\n", "bad\nbad\r\n"} {
		long := strings.Repeat(unit, maxRun)
		for _, n := range []int{0, 1, 2, maxRun - 2, maxRun - 1, maxRun} {
			wantText(t, long[:n], reckon().text(long[:n]))
			if run.Run(long[:n]) == tooLong {
				t.Errorf("%d bytes of %q: too long", n, unit)
			}
		}
		long += strings.Repeat(long, 30)
		for _, n := range []int{maxRun + 1, maxRun + 2, maxRun + 256, 2 * maxRun, 4096, 1 << 16, 65536 + maxRun} {
			wantText(t, long[:min(n, len(long))], tooLong)
		}
	}
	// The last byte counts as any other one, also where it ends the last line.
	whole := strings.Repeat("want\n", 599) + "stat\n"
	wantText(t, whole, strings.Repeat("1 0 0\n", 599)+"bad\n")
	wantText(t, whole+"\n", tooLong)
	wantText(t, whole[:maxRun-1]+"e\n", tooLong)
	wantText(t, whole[:maxRun-1]+"e", strings.Repeat("1 0 0\n", 599)+"0 00001505\n")
	wantText(t, strings.Repeat("\n", maxRun), strings.Repeat("bad\n", maxRun))
	wantText(t, strings.Repeat("x", maxRun), "bad\n")
	wantText(t, strings.Repeat("x", 1<<22), tooLong)
}

// Z1: a text is cut at byte 10 alone, and a last piece that is empty is none.
func TestCut(t *testing.T) {
	for text, want := range map[string]string{
		"":                                     "",
		"\n":                                   "bad\n",
		"\n\n":                                 "bad\nbad\n",
		"want":                                 "1 0 0\n",
		"want\n":                               "1 0 0\n",
		"want\n\n":                             "1 0 0\nbad\n",
		"\nwant":                               "bad\n1 0 0\n",
		"\n\nwant\n":                           "bad\nbad\n1 0 0\n",
		"want\nwant":                           "1 0 0\n1 0 0\n",
		"want\n\nwant\n":                       "1 0 0\nbad\n1 0 0\n",
		"want\n\n\nwant\n\n":                   "1 0 0\nbad\nbad\n1 0 0\nbad\n",
		"want\nx":                              "1 0 0\nbad\n",
		"want\n ":                              "1 0 0\nbad\n",
		"want\r\n":                             "bad\n",
		"want\r":                               "bad\n",
		"\r\n":                                 "bad\n",
		"want\rwant\n":                         "bad\n",
		"want\n\rwant\n":                       "1 0 0\nbad\n",
		"step\r\nwant\n":                       "bad\n1 0 0\n",
		"add 1 x\r\nask entry 0":               "ok\n1 x\r\n",
		"add 1 \r\nask entry 0":                "ok\n1 \r\n",
		"add 1\r\nask entry 0":                 "bad\nErrNone\n",
		"ask head\r\n":                         "ErrSyntax\n",
		"ask\r\n":                              "bad\n",
		"key\r\n":                              "bad\n",
		"key a\r\n":                            "01100001\n",
		"key \r\n":                             "10011101\n",
		"want\vwant\n":                         "bad\n",
		"want\fwant\n":                         "bad\n",
		"want\x00":                             "bad\n",
		"want\x00\n":                           "bad\n",
		"want\u0085want\n":                     "bad\n",
		"want\u2028want\n":                     "bad\n",
		"want\\nwant\n":                        "bad\n",
		"\x00\n":                               "bad\n",
		"\x1awant\n":                           "bad\n",
		"\ufeffwant\n":                         "bad\n",
		"add 1 a\x00b\nask entry 0\nadd 2 c\n": "ok\n1 a\x00b\nok\n",
	} {
		wantText(t, text, want)
		wantText(t, text, reckon().text(text))
	}
	for b := range 256 {
		if b == '\n' {
			continue
		}
		text := "want" + string([]byte{byte(b)}) + "want\nkey " + string([]byte{byte(b)}) + "\n"
		wantText(t, text, "bad\n"+must(keys.Bits(string([]byte{byte(b)})))+"\n")
	}
}

// Z1: N of an entry is decimal, of at most four digits, without a needless 0.
func TestNumbers(t *testing.T) {
	for n := range 12_000 {
		digits := strconv.Itoa(n)
		k := talk{}
		if n < 10_000 {
			k.sayAll([2]string{"add " + digits + " x", "ok"}, [2]string{"ask entry 0", digits + " x"})
		} else {
			k.sayAll([2]string{"add " + digits + " x", "bad"}, [2]string{"ask entry 0", "ErrNone"})
		}
		k.hold(t)
	}
	for _, digits := range []string{"", "00", "000", "0000", "00000", "01", "001", "0001", "00001", "09", "010", "0100", "01000", "012345",
		"+0", "+1", "-0", "-1", "-", "+", "--1", "1-", "1+", "a", "1a", "a1", "1a1", "0x1", "0b1", "0o7", "1e3", "1e0", "1_0", "1_000", "1.0", "1.", ".1", "1,0", "½", "١", "１",
		"10000", "10001", "12345", "99999", "100000", "1000000", "1000001", "4294967296", "4294967301", "9223372036854775807", "18446744073709551616", "18446744073709551621", strings.Repeat("9", 100), strings.Repeat("0", 100),
		"1\t", "\t1", "1\r", "\r1", "1\x00", "\x001", "\x1f1", "1\x1f", "/", ":", "1/", "1:", "\"1\"", "'1'", "#1", "NaN", "Inf"} {
		k := talk{}
		k.sayAll([2]string{"add " + digits + " x", "bad"}, [2]string{"add " + digits + " ", "bad"}, [2]string{"add " + digits, "bad"}, [2]string{"ask head", "0 00001505 0 0beefc1f"})
		k.hold(t)
	}
	for b := range 256 {
		digits := string([]byte{byte(b)})
		if b == '\n' || '0' <= b && b <= '9' {
			continue
		}
		for _, bad := range []string{digits, digits + "1", "1" + digits, "1" + digits + "1"} {
			if b == ' ' && bad[0] == '1' {
				continue
			}
			wantText(t, "add "+bad+" x\nask head\n", "bad\n0 00001505 0 0beefc1f\n")
		}
	}
}

// Z1: TEXT of an entry goes up to the end of the line, perhaps nothing; chapter 7's Check: at most 200 bytes.
func TestTextOfAnEntry(t *testing.T) {
	for n := range 260 {
		for _, unit := range []string{"z", " ", "\x00", "\xff", "é", "a "} {
			data := strings.Repeat(unit, n)[:n]
			k := talk{}
			if n <= most {
				k.sayAll([2]string{"add 5 " + data, "ok"}, [2]string{"ask entry 0", "5 " + data}, [2]string{"ask leaf 0", fmt.Sprintf("%08x", must(entry.Leafs([]api.Entry{{Time: 5, Data: data}}))[0])})
			} else {
				k.sayAll([2]string{"add 5 " + data, "ErrFull"}, [2]string{"ask entry 0", "ErrNone"}, [2]string{"ask head", "0 00001505 0 0beefc1f"}, [2]string{"add x " + data, "bad"})
			}
			k.hold(t)
		}
	}
	for b := range 256 {
		if b == '\n' {
			continue
		}
		one := string([]byte{byte(b)})
		for _, data := range []string{one, one + "x", "x" + one, "x" + one + "x", one + one, " " + one, one + " "} {
			wantText(t, "add 5 "+data+"\nask entry 0\n", "ok\n5 "+data+"\n")
		}
	}
	for _, data := range []string{"", " ", "  ", " a", "  a", "a ", "a  ", " a ", "a b", "a  b", "add 1 x", "want", "1", "1 2", "ok", "bad", "\t", "\r", "\"", "\\n", "\\", "é", "\u2028", "\xc3", "\x00\x00"} {
		wantText(t, "add 5 "+data+"\nask entry 0\nstep\nstep\nstate\n", "ok\n5 "+data+"\nok\nok\n"+stateOf([]api.Entry{{Time: 5, Data: data}})+"\n")
	}
}

// Z1: 200 entries, and one more; Check stands ahead of that.
func TestMostEntries(t *testing.T) {
	var k talk
	var l []api.Entry
	for i := range most {
		l = append(l, api.Entry{Time: i % 10})
		k.say(fmt.Sprint("add ", i%10, " "), "ok")
	}
	h := must(head.Sign(api.Head{Size: most, Root: rootOf(must(entry.Leafs(l)))}, 7))
	whole := must(head.Print(h))
	k.say("ask head", whole)
	for _, line := range []string{"add 1 ", "add 0 x", "add 9999 x y", "add 5 " + strings.Repeat("z", 200), "add 5 " + strings.Repeat("z", 201)} {
		k.sayAll([2]string{line, "ErrFull"}, [2]string{"ask head", whole}, [2]string{"ask entry 200", "ErrNone"})
	}
	for _, line := range []string{"add 1", "add 01 x", "add 12345 x", "add", "add ", "add  1"} {
		k.sayAll([2]string{line, "bad"}, [2]string{"ask head", whole})
	}
	k.sayAll([2]string{"ask entry 199", "9 "}, [2]string{"step", "ok"})
	for from := 0; from < most; from += page {
		k.sayAll([2]string{"want", fmt.Sprint("2 ", from, " ", min(from+page, most))}, [2]string{"step", "ok"})
	}
	k.sayAll([2]string{"want", "1 0 0"}, [2]string{"state", stateOf(l)}, [2]string{"add 1 ", "ErrFull"}, [2]string{"step", "ok"}, [2]string{"want", "1 0 0"})
	k.hold(t)
}

// addAll says the entries of a log from one on.
func (k *talk) addAll(l []api.Entry, from int) {
	for _, e := range l[from:] {
		k.say(fmt.Sprint("add ", e.Time, " ", e.Data), "ok")
	}
}

// logOf is a log of short entries, of which no two are the same, and none has the Time 0.
func logOf(n int) (l []api.Entry) {
	for i := range n {
		l = append(l, api.Entry{Time: 1 + i%9, Data: string(rune('a'+i/9%25)) + []string{"", " "}[i/225]})
	}
	return l
}

// pages says how a Mirror that has so many entries hears those up to a head's Size, page by page, ahead of a proof.
func (k *talk) pages(l []api.Entry, old, size int) {
	state := stateOf(l[:old])
	for from := old; from < size; from += page {
		k.sayAll([2]string{"want", fmt.Sprint("2 ", from, " ", min(from+page, size))}, [2]string{"state", state}, [2]string{"step", "ok"})
	}
	if old > 0 {
		k.sayAll([2]string{"want", fmt.Sprint("3 ", old, " ", size)}, [2]string{"state", state})
	}
}

// goesOn says how a Mirror that has so many entries goes on to all of a log.
func (k *talk) goesOn(l []api.Entry, old int) {
	k.sayAll([2]string{"want", "1 0 0"}, [2]string{"step", "ok"})
	k.pages(l, old, len(l))
	if old > 0 {
		k.say("step", "ok")
	}
	k.sayAll([2]string{"want", "1 0 0"}, [2]string{"state", stateOf(l)})
}

// grown says how a log grows from so many entries to more, and a Mirror that has those goes on.
func (k *talk) grown(l []api.Entry, old, size int) {
	k.addAll(l[:size], old)
	k.goesOn(l[:size], old)
}

// stepOr is a line by which the Mirror hears what it wants, or what is told wrong.
func stepOr(bad bool) string {
	if bad {
		return "bad"
	}
	return "step"
}

// Z1: a Mirror goes by a log, by one page and by several, from none on and from some.
func TestFollows(t *testing.T) {
	l := logOf(most)
	for _, old := range []int{1, 2, 3, 4, 5, 7, 8, 15, 16, 17, 31, 32, 33, 64, 100} {
		for _, more := range []int{1, 2, 3, 15, 16, 17, 31, 32, 33, 48, 49, 100} {
			var k talk
			k.grown(l, 0, old)
			k.grown(l, old, min(old+more, most))
			k.sayAll([2]string{"step", "ok"}, [2]string{"want", "1 0 0"}, [2]string{"state", stateOf(l[:old+more])})
			k.hold(t)
			wantReckoned(t, k.lines...)
		}
	}
	for _, by := range []int{7, 16, 20, 33} {
		var k talk
		for old := 0; old < 80; old += by {
			k.grown(l, old, old+by)
		}
		k.hold(t)
	}
	var all talk
	all.grown(l, 0, most)
	all.hold(t)
}

// Z1: the log grows while entries, or a proof, of a head are waited for: the Mirror hears what it wanted, and then of more.
func TestGrowsMeanwhile(t *testing.T) {
	l := logOf(most)
	for _, old := range []int{0, 1, 5, 16, 20} {
		for _, size := range []int{old + 1, old + 2, old + 16, old + 17, old + 35} {
			var k talk
			if old > 0 {
				k.grown(l, 0, old)
			}
			k.addAll(l[:size], old)
			k.say("step", "ok")
			there := size
			for from := old; from < size; from += page {
				k.say("want", fmt.Sprint("2 ", from, " ", min(from+page, size)))
				k.addAll(l[:there+1], there)
				there++
				k.sayAll([2]string{"want", fmt.Sprint("2 ", from, " ", min(from+page, size))}, [2]string{"step", "ok"})
			}
			k.addAll(l[:there+3], there)
			there += 3
			if old > 0 {
				k.sayAll([2]string{"want", fmt.Sprint("3 ", old, " ", size)}, [2]string{"step", "ok"})
			}
			k.sayAll([2]string{"state", stateOf(l[:size])}, [2]string{"want", "1 0 0"}, [2]string{"step", "ok"})
			k.pages(l, size, there)
			k.sayAll([2]string{"step", "ok"}, [2]string{"state", stateOf(l[:there])}, [2]string{"want", "1 0 0"})
			k.hold(t)
			wantReckoned(t, k.lines...)
		}
	}
}

// Z1: a head of which the Root is told wrong is refused, and nothing is other than it was.
func TestBadHead(t *testing.T) {
	l := logOf(most)
	for _, size := range []int{0, 1, 2, 3, 16, 17, 50} {
		for _, old := range []int{0, 1, size - 1, size} {
			if old < 0 || old > size {
				continue
			}
			var k talk
			if old > 0 {
				k.grown(l, 0, old)
			}
			k.addAll(l[:size], old)
			k.sayAll([2]string{"bad", "ErrSign"}, [2]string{"want", "1 0 0"}, [2]string{"state", stateOf(l[:old])}, [2]string{"bad", "ErrSign"}, [2]string{"want", "1 0 0"}, [2]string{"step", "ok"})
			if old < size {
				k.pages(l, old, size)
			}
			k.hold(t)
			wantReckoned(t, k.lines...)
		}
	}
	// Of a Root of 0, 1 less were no sum; of the greatest one 1 more were none: either were told before the sign is looked at.
	for _, data := range []string{noughtData, topData} {
		wantText(t, "add 5 "+data+"\nbad\nwant\nstep\nwant\nstep\nstate\nbad\n", "ok\nErrSign\n1 0 0\nok\n2 0 1\nok\n"+stateOf([]api.Entry{{Time: 5, Data: data}})+"\nErrSign\n")
	}
}

// Z1: entries of which all Times are told as 0 are found out by the Root of all, be they of the first page or of the last.
func TestBadEntries(t *testing.T) {
	l := logOf(most)
	for _, old := range []int{0, 1, 3, 16, 20} {
		for _, more := range []int{1, 2, 15, 16, 17, 32, 33, 40} {
			last := (more - 1) / page
			for wrong := range last + 1 {
				var k talk
				if old > 0 {
					k.grown(l, 0, old)
				}
				k.addAll(l[:old+more], old)
				k.say("step", "ok")
				state := stateOf(l[:old])
				for i := range last {
					k.sayAll([2]string{stepOr(i == wrong), "ok"}, [2]string{"want", fmt.Sprint("2 ", old+(i+1)*page, " ", old+min((i+2)*page, more))}, [2]string{"state", state})
				}
				final := stepOr(wrong == last)
				if old > 0 {
					k.sayAll([2]string{final, "ok"}, [2]string{"want", fmt.Sprint("3 ", old, " ", old+more)}, [2]string{"state", state}, [2]string{"step", "ErrProof"})
				} else {
					k.say(final, "ErrProof")
				}
				k.sayAll([2]string{"want", "1 0 0"}, [2]string{"state", state}, [2]string{"ask entry 0", fmt.Sprint(l[0].Time, " ", l[0].Data)})
				k.goesOn(l[:old+more], old)
				k.hold(t)
			}
		}
	}
}

// Z1: entries of which some Times, or all, are 0 already: nothing is wrong with what is told if all are.
func TestBadEntriesOfTimeNought(t *testing.T) {
	for _, old := range []int{0, 1, 3} {
		for more := 1; more <= page; more++ {
			l := slices.Repeat([]api.Entry{{Data: "x"}}, old+more)
			for later := old; later <= old+more; later++ {
				var k talk
				log := slices.Clone(l)
				if later < len(log) {
					log[later].Time = 1
				}
				if old > 0 {
					k.grown(log, 0, old)
				}
				k.addAll(log, old)
				k.say("step", "ok")
				good := later == len(log)
				switch {
				case old > 0 && good:
					k.sayAll([2]string{"bad", "ok"}, [2]string{"step", "ok"}, [2]string{"state", stateOf(log)})
				case old > 0:
					k.sayAll([2]string{"bad", "ok"}, [2]string{"step", "ErrProof"}, [2]string{"state", stateOf(log[:old])})
				case good:
					k.sayAll([2]string{"bad", "ok"}, [2]string{"state", stateOf(log)})
				default:
					k.sayAll([2]string{"bad", "ErrProof"}, [2]string{"state", stateOf(nil)})
				}
				k.say("want", "1 0 0")
				k.hold(t)
			}
		}
	}
}

// Z1: a proof of which the first sum is told as 0 is refused, and the Mirror goes on by the next one.
func TestBadProof(t *testing.T) {
	l := logOf(most)
	for _, old := range []int{1, 2, 3, 4, 7, 8, 16, 17, 32, 33} {
		for _, more := range []int{1, 2, 3, 5, 16, 17, 40} {
			var k talk
			k.grown(l, 0, old)
			k.addAll(l[:old+more], old)
			k.say("step", "ok")
			k.pages(l, old, old+more)
			k.sayAll([2]string{"bad", "ErrProof"}, [2]string{"want", "1 0 0"}, [2]string{"state", stateOf(l[:old])}, [2]string{"bad", "ErrSign"}, [2]string{"state", stateOf(l[:old])})
			k.goesOn(l[:old+more], old)
			k.hold(t)
			wantReckoned(t, k.lines...)
		}
	}
}

// Z1: of a proof it is the first sum alone that is told as 0: where it is 0, nothing is wrong with it.
func TestBadProofOfNought(t *testing.T) {
	nought := api.Entry{Time: 5, Data: noughtData}
	if sums := must(entry.Leafs([]api.Entry{nought, {Time: 5, Data: topData}})); !slices.Equal(sums, []int{0, api.Prime - 1}) {
		t.Fatalf("the leafs are %v", sums)
	}
	for size := 2; size <= 8; size++ {
		for at := range size {
			l := logOf(size)
			l[at] = nought
			for old := 1; old < size; old++ {
				proof := must(grow.Make(must(entry.Leafs(l)), old, size))
				var k talk
				k.grown(l, 0, old)
				k.addAll(l, old)
				k.say("step", "ok")
				k.pages(l, old, size)
				if proof[0] == 0 {
					k.sayAll([2]string{"bad", "ok"}, [2]string{"state", stateOf(l)}, [2]string{"want", "1 0 0"})
				} else {
					k.sayAll([2]string{"bad", "ErrProof"}, [2]string{"state", stateOf(l[:old])}, [2]string{"want", "1 0 0"})
				}
				k.hold(t)
			}
		}
	}
}

// Z1: what is asked is answered as chapter 14 has it, at the time 0, of a log that signs with the key 7.
func TestAsk(t *testing.T) {
	all := logOf(most)
	asks := []string{"head", "entry 0", "leaf 0", "proof 0 1", "grow 1 1", "tile 0 0", "tile 1 0", "tile 3 0", "tile 4 0", "proof 1 0", "grow 0 1", "", " ", "head ", " head", "tile", "entry 00", "leaf -1", "entry 9999", "entry 10000", "HEAD", "head\r", "proof 0 1 2"}
	for _, size := range []int{0, 1, 2, 3, 4, 5, 15, 16, 17, 64, 65, 100, 199, 200} {
		l := all[:size]
		sized := append(slices.Clone(asks), fmt.Sprint("entry ", size), fmt.Sprint("entry ", size-1), fmt.Sprint("leaf ", size), fmt.Sprint("leaf ", size-1), fmt.Sprint("proof 0 ", size), fmt.Sprint("proof ", size-1, " ", size), fmt.Sprint("proof 0 ", size+1),
			fmt.Sprint("grow 1 ", size), fmt.Sprint("grow ", size-1, " ", size), fmt.Sprint("grow 1 ", size+1), fmt.Sprint("tile 0 ", size/4), fmt.Sprint("tile 1 ", size/16))
		var k talk
		k.addAll(l, 0)
		for _, ask := range sized {
			k.say("ask "+ask, orNamed(serve.Answer(l, 7, 0, ask)))
		}
		k.hold(t)
	}
	told := strings.Split(run.Run("add 5 hi\nadd 6 ho\nask head\n"), "\n")[2]
	h, err := head.Parse(told)
	if err != nil || head.Verify(h, 7) != nil || h.Size != 2 || h.Time != 0 || h.Root != rootOf(must(entry.Leafs([]api.Entry{{Time: 5, Data: "hi"}, {Time: 6, Data: "ho"}}))) {
		t.Errorf("the head is told as %q: %v, %v", told, h, err)
	}
	// The Mirror hears nothing of what is asked.
	wantText(t, "add 5 hi\nask head\nwant\nask entry 0\nstate\n", "ok\n1 53329ffd 0 "+fmt.Sprintf("%08x", must(head.Sign(api.Head{Size: 1, Root: 0x53329ffd}, 7)).Sign)+"\n1 0 0\n5 hi\n0 00001505\n")
}

// Z1: a key is answered by chapter 17's Bits.
func TestKey(t *testing.T) {
	for n := range 300 {
		for _, unit := range []string{"z", " ", "\x00", "\xff", "é"} {
			key := strings.Repeat(unit, n)[:n]
			want := fmt.Sprintf("%08b", mix.Sum(key)%256)
			switch {
			case n == 0:
				want = "ErrSyntax"
			case n > most:
				want = "ErrFull"
			}
			wantText(t, "key "+key+"\nwant\n", want+"\n1 0 0\n")
		}
	}
	wantText(t, "key\nkey \nkey a\nkey  a\nkey a \nkey a b\nkey key a\n", "bad\nErrSyntax\n"+bitsOf("a")+bitsOf(" a")+bitsOf("a ")+bitsOf("a b")+bitsOf("key a"))
	r := rand.New(rand.NewSource(201))
	for range 3000 {
		key := drawnBytes(r, 1+r.Intn(20))
		wantText(t, "key "+key+"\n", bitsOf(key))
	}
}

func bitsOf(key string) string { return fmt.Sprintf("%08b\n", mix.Sum(key)%256) }

// drawnBytes has no byte 10.
func drawnBytes(r *rand.Rand, n int) string {
	b := make([]byte, n)
	for i := range b {
		if b[i] = byte(r.Intn(256)); b[i] == '\n' {
			b[i] = '\r'
		}
	}
	return string(b)
}

// Z1: what is near to a line of the table is `bad`, unless it is one, too.
func TestNearWords(t *testing.T) {
	var lines []string
	for _, line := range append(slices.Clone(fourWords), "add 1 x", "add 1 ", "ask head", "ask ", "key a", "key ", "add", "ask", "key", "add 1", "add ", "") {
		lines = append(lines, line, strings.ToUpper(line), strings.ToUpper(line[:min(1, len(line))])+line[min(1, len(line)):], line+" ", " "+line, line+line, line+" "+line, strings.ReplaceAll(line, " ", "  "), strings.ReplaceAll(line, " ", ""), strings.ReplaceAll(line, " ", "\t"), line+"\x00", line+"s")
		for i := range len(line) + 1 {
			lines = append(lines, line[:i], line[i:])
			for b := range 256 {
				if b == '\n' {
					continue
				}
				one := string([]byte{byte(b)})
				lines = append(lines, line[:i]+one+line[i:])
				if i < len(line) {
					lines = append(lines, line[:i]+one+line[i+1:], line[:i]+line[i+1:])
				}
			}
		}
	}
	bad := 0
	for _, line := range lines {
		text := "add 5 hi\n" + line + "\nask head\nwant\nstate\n"
		want := reckon().text(text)
		wantText(t, text, want)
		wantText(t, line, reckon().text(line))
		if lineForm.MatchString(line) {
			continue
		}
		bad++
		wantText(t, text, run.Run("add 5 hi\n")+"bad\n"+strings.TrimPrefix(run.Run("add 5 hi\nask head\nwant\nstate\n"), "ok\n"))
	}
	if bad < 10_000 || len(lines)-bad < 1000 {
		t.Errorf("%d lines, %d bad", len(lines), bad)
	}
}

// begun are texts that leave the log and the Mirror as they may be.
func begun() map[string][]string {
	long := func(n int) (l []string) {
		for i := range n {
			l = append(l, fmt.Sprint("add ", i%7, " ", string(rune('a'+i%26))))
		}
		return l
	}
	steps := func(n int) []string { return slices.Repeat([]string{"step"}, n) }
	return map[string][]string{
		"nothing":                     nil,
		"a head of nothing":           {"step"},
		"a log alone":                 {"add 5 hi", "add 6 ho"},
		"a head":                      {"add 5 hi", "add 6 ho", "step"},
		"all its own":                 {"add 5 hi", "add 6 ho", "step", "step"},
		"a head of more":              {"add 5 hi", "step", "step", "add 6 ho", "step"},
		"a proof wanted":              {"add 5 hi", "step", "step", "add 6 ho", "step", "step"},
		"some wait":                   slices.Concat(long(40), steps(2)),
		"some wait behind its own":    slices.Concat(long(3), steps(2), long(40), steps(2)),
		"wrong ones wait":             slices.Concat(long(40), steps(1), []string{"bad"}),
		"wrong ones, a proof wanted":  {"add 5 hi", "step", "step", "add 6 ho", "step", "bad"},
		"a log that grows meanwhile":  slices.Concat(long(20), steps(2), long(4)),
		"behind a bad proof":          {"add 5 hi", "step", "step", "add 6 ho", "step", "step", "bad"},
		"behind bad entries":          {"add 5 hi", "step", "bad"},
		"a log of 200":                slices.Concat(long(200), steps(3)),
		"a log of 200, all its own":   slices.Concat(long(200), steps(14)),
		"a log of 199 and its Mirror": slices.Concat(long(199), steps(14)),
	}
}

// asked are lines that show what there is, and go on with it.
var asked = []string{"want", "state", "ask head", "ask entry 0", "ask entry 1", "ask entry 199", "step", "want", "state", "step", "want", "state", "step", "state", "want", "add 3 c", "ask head", "step", "want", "step", "want", "step", "want", "state"}

// behind are the answers to lines behind those that there were ahead.
func behind(ahead, lines []string) string {
	text := ended(slices.Concat(ahead, lines)...)
	if len(text) > maxRun {
		panic("a text that is too long for this test")
	}
	return strings.TrimPrefix(run.Run(text), run.Run(ended(ahead...)))
}

// Z1: a line that is refused, and one that but tells something, leaves the log and the Mirror as they were.
func TestNothingChanges(t *testing.T) {
	long := strings.Repeat("z", 201)
	lines := []string{"", " ", "x", "add", "add ", "add 1", "add 01 x", "add 12345 x", "add -1 x", "add  x", "add 5 " + long, "add x " + long, "ask", "ask ", "ask x", "ask entry 200", "ask leaf 200", "ask proof 0 0", "ask proof 0 201", "ask grow 0 1", "ask grow 3 201", "ask tile 9 0", "ask tile 0 50",
		"ask head", "ask entry 0", "ask leaf 0", "ask proof 0 1", "ask grow 1 2", "ask tile 0 0", "key", "key ", "key a", "key " + long, "want", "want ", "wants", "state", "state ", "step ", " step", "steps", "bad ", " bad", "bads", "STEP", "BAD", "step\r", "bad\r"}
	for name, ahead := range begun() {
		want := behind(ahead, asked)
		for _, line := range lines {
			answers := behind(ahead, append([]string{line}, asked...))
			answer, rest, _ := strings.Cut(answers, "\n")
			if rest != want {
				t.Errorf("%s: behind %s it answers %q, without it %q", name, short(line), rest, want)
			}
			r := reckon()
			r.text(ended(ahead...))
			if should := r.line(line); answer != should {
				t.Errorf("%s: %s is answered %q, want %q", name, short(line), answer, should)
			}
			if lineForm.MatchString(line) == (answer == "bad") {
				t.Errorf("%s: %s is answered %q", name, short(line), answer)
			}
		}
	}
}

// Z1: a head that is refused leaves all as it was; entries and a proof that are refused leave the log, and what the Mirror has.
func TestRefusedReplies(t *testing.T) {
	shown := []string{"state", "ask head", "ask entry 0", "ask entry 1", "ask entry 199"}
	refused := map[string]int{}
	for name, ahead := range begun() {
		for _, line := range []string{"bad", "step"} {
			answer, rest, _ := strings.Cut(behind(ahead, append([]string{line, "want"}, shown...)), "\n")
			if answer == "ok" {
				continue
			}
			refused[answer]++
			if want := "1 0 0\n" + behind(ahead, shown); rest != want {
				t.Errorf("%s: behind %s, %s: %q, want %q", name, line, answer, rest, want)
			}
			if want := behind(ahead, asked); answer == "ErrSign" && behind(append(slices.Clone(ahead), line), asked) != want {
				t.Errorf("%s: %s changed something", name, line)
			}
		}
	}
	if refused["ErrSign"] < 5 || refused["ErrProof"] < 4 || len(refused) != 2 {
		t.Errorf("refused: %v", refused)
	}
}

// drawnData is what may stand behind a number.
func drawnData(r *rand.Rand) string {
	switch r.Intn(12) {
	case 0:
		return strings.Repeat("z", 199+r.Intn(3))
	case 1, 2:
		return drawnBytes(r, r.Intn(10))
	default:
		return []string{"", "hi", "a b", " ", "x ", " x", "\r", "\xff\x00", "é", "x", "y", noughtData}[r.Intn(12)]
	}
}

// drawnNumber is mostly one that may be.
func drawnNumber(r *rand.Rand) string {
	switch r.Intn(10) {
	case 0:
		return []string{"9999", "10000", "007", "", "+1", "-1", "1x", "00", "1000", "12345"}[r.Intn(10)]
	case 1, 2, 3:
		return "0"
	}
	return strconv.Itoa(r.Intn([]int{3, 10, 40, 210}[r.Intn(4)]))
}

func drawnAsk(r *rand.Rand) string {
	switch r.Intn(8) {
	case 0:
		return drawnData(r)
	case 1:
		return "head"
	case 2, 3:
		return []string{"entry ", "leaf "}[r.Intn(2)] + drawnNumber(r)
	}
	return []string{"proof ", "grow ", "tile "}[r.Intn(3)] + drawnNumber(r) + " " + drawnNumber(r)
}

// drawnNear is near to a line of the table.
func drawnNear(r *rand.Rand) string {
	lines := append(slices.Clone(fourWords), "key a", "ask head", "add 1 x", "add", "ask", "key", "add 1", "")
	line := lines[r.Intn(len(lines))]
	at := r.Intn(len(line) + 1)
	switch r.Intn(4) {
	case 0:
		return line
	case 1:
		return strings.Replace(line, " ", "  ", 1)
	case 2:
		return line[at:]
	}
	return line[:at] + string("abdeknpqrstwy \r\t0"[r.Intn(17)]) + line[at:]
}

// drawnLine is an `add` so many times of a hundred.
func drawnLine(r *rand.Rand, adds int) string {
	if r.Intn(100) < adds {
		return "add " + drawnNumber(r) + " " + drawnData(r)
	}
	switch n := r.Intn(20); {
	case n < 8:
		return "step"
	case n < 10:
		return "bad"
	case n < 12:
		return "want"
	case n < 14:
		return "state"
	case n < 15:
		return "key " + drawnData(r)
	case n < 18:
		return "ask " + drawnAsk(r)
	}
	return drawnNear(r)
}

// drawnText is of so many bytes at most.
func drawnText(r *rand.Rand, most int) string {
	adds := []int{5, 20, 40, 70, 97}[r.Intn(5)]
	var lines []string
	for long := 0; ; {
		line := drawnLine(r, adds)
		if long += len(line) + 1; long > most {
			break
		}
		lines = append(lines, line)
	}
	return strings.Join(lines, "\n") + []string{"", "\n"}[r.Intn(2)]
}

// Z1: drawn texts, line by line.
func TestDrawn(t *testing.T) {
	r := rand.New(rand.NewSource(20))
	all := map[string]int{}
	for i := range 1500 {
		text := drawnText(r, []int{60, 500, maxRun - 1, maxRun - 1, maxRun + 20}[i%5])
		by := reckon()
		wantText(t, text, by.text(text))
		for kind, n := range by.kinds {
			all[kind] += n
		}
	}
	for _, kind := range []string{"none bad", "add ok", "add ErrFull", "ask told", "ask ErrSyntax", "ask ErrNone", "ask ErrRange", "want told", "state told", "key told", "key ErrSyntax", "key ErrFull",
		"step 1 ok", "step 2 ok", "step 2 ErrProof", "step 3 ok", "step 3 ErrProof", "bad 1 ErrSign", "bad 2 ok", "bad 2 ErrProof", "bad 3 ErrProof"} {
		if all[kind] < 10 {
			t.Errorf("%s: %d lines alone", kind, all[kind])
		}
		delete(all, kind)
	}
	delete(all, "bad 3 ok") // where the first sum of a proof is 0
	if len(all) > 0 {
		t.Errorf("other lines: %v", all)
	}
}

// Z2: the answers to the first lines are the beginning of the answers to all.
func TestFirstLines(t *testing.T) {
	r := rand.New(rand.NewSource(2))
	var texts []string
	for _, ahead := range begun() {
		texts = append(texts, ended(slices.Concat(ahead, asked)...), ended(ahead...), ended(slices.Concat(ahead, []string{"bad", "step", "bad", "bad"}, asked)...))
	}
	for _, c := range known {
		var k talk
		k.sayAll(c.pairs...)
		texts = append(texts, ended(k.lines...))
	}
	for range 60 {
		texts = append(texts, drawnText(r, maxRun-1), drawnText(r, 300))
	}
	texts = append(texts, "", "\n", "\n\n\n", "want", "\nwant", "want\n\n", "x\n\ny", strings.Repeat("step\n", 600), strings.Repeat("\n", maxRun))
	for _, text := range texts {
		if len(text) > maxRun {
			t.Fatalf("a text of %d bytes is too long for this test", len(text))
		}
		wantFirstLines(t, text)
	}
}

func wantFirstLines(t *testing.T, text string) {
	t.Helper()
	all := run.Run(text)
	lines := strings.SplitAfter(text, "\n")
	if last := len(lines) - 1; lines[last] == "" {
		lines = lines[:last]
	}
	if strings.Count(all, "\n") != len(lines) || all != "" && !strings.HasSuffix(all, "\n") {
		t.Fatalf("%s: %d lines are answered by %d", short(text), len(lines), strings.Count(all, "\n"))
	}
	answers := strings.SplitAfter(all, "\n")
	step := 1 + len(lines)/300
	for n := 0; n <= len(lines); n += step {
		first, want := strings.Join(lines[:n], ""), strings.Join(answers[:n], "")
		wantText(t, first, want)
		// An empty line is one by its end alone.
		if open := strings.TrimSuffix(first, "\n"); n > 0 && lines[n-1] != "\n" {
			wantText(t, open, want)
		}
	}
}

// Z2: of a text that is too long no line is answered, however many would be.
func TestFirstLinesOfTooLong(t *testing.T) {
	for _, more := range []string{"\n", "x", "want\n", strings.Repeat("want\n", 1000)} {
		whole := strings.Repeat("step\n", 600)
		wantText(t, whole, strings.Repeat("ok\n", 600))
		wantText(t, whole+more, tooLong)
	}
}

// DOC's P1: any bytes are answered, line by line, and nothing panics.
func TestAnyBytes(t *testing.T) {
	r := rand.New(rand.NewSource(5))
	for range 3000 {
		text := drawnBytes(r, r.Intn(200))
		if r.Intn(2) == 0 {
			text = strings.Map(func(c rune) rune { return rune("adkstwep 01\n"[c%12]) }, text)
		}
		wantText(t, text, reckon().text(text))
	}
}

// DOC's P2: a text is answered as it is the first time, whatever was answered between, and whoever else asks.
func TestNothingIsKept(t *testing.T) {
	r := rand.New(rand.NewSource(6))
	var texts, wants []string
	for range 40 {
		text := drawnText(r, 1000)
		texts, wants = append(texts, text), append(wants, run.Run(text))
	}
	for range 200 {
		i := r.Intn(len(texts))
		wantText(t, texts[i], wants[i])
	}
	var all sync.WaitGroup
	for range 8 {
		all.Go(func() {
			for i, text := range texts {
				if got := run.Run(text); got != wants[i] {
					t.Errorf("%s: beside others it answers otherwise", short(text))
				}
			}
		})
	}
	all.Wait()
}

// DOC's P2: what was answered stays when the memory of the text is written over.
func TestTextIsNotKept(t *testing.T) {
	for _, text := range []string{"want\n", "add 5 some data\nask entry 0\n", "add 5 \nask entry 0", "add 0 ok\nok", "bad", "bad\n", "too long", "key a\nstate\n", strings.Repeat(tooLong, 400)} {
		memory := []byte(text)
		got := run.Run(unsafe.String(unsafe.SliceData(memory), len(memory)))
		if string(memory) != text {
			t.Errorf("%s: it was written into", short(text))
		}
		clear(memory)
		if want := run.Run(text); got != want {
			t.Errorf("%s: the answer %q changed with the text, from %q", short(text), got, want)
		}
	}
}
