package run

import (
	"slices"
	"testing"

	"witnessbox/api"
	"witnessbox/entry"
	"witnessbox/grow"
	"witnessbox/serve"
)

// Z1: another root is 1 less, or 1, if it is 0. (From outside each is but another one, with the sign of the right one.)
func TestAnother(t *testing.T) {
	for root, want := range map[int]int{0: 1, 1: 0, 2: 1, 3: 2, 5381: 5380, 1 << 16: 1<<16 - 1, api.Prime - 1: api.Prime - 2} {
		h := api.Head{Size: 3, Root: root, Time: 4, Sign: 5}
		got := spoil(api.Reply{What: api.AHead, Head: h})
		h.Root = want
		if got.Head != h || got.What != api.AHead || got.Entries != nil || got.Proof != nil {
			t.Errorf("a head with the Root %d is told as %v, want %v", root, got, h)
		}
	}
}

// Z1: of a proof the first sum is told as 0; one that is empty is told as one sum 0. (A Mirror never wants one that is empty.)
func TestSpoiledProof(t *testing.T) {
	for _, c := range []struct{ proof, want []int }{
		{nil, []int{0}}, {[]int{}, []int{0}}, {[]int{0}, []int{0}}, {[]int{5}, []int{0}}, {[]int{5, 6}, []int{0, 6}}, {[]int{5, 6, 5}, []int{0, 6, 5}}, {[]int{0, 0, 7}, []int{0, 0, 7}},
	} {
		if got := spoil(api.Reply{What: api.AProof, Proof: slices.Clone(c.proof)}); !slices.Equal(got.Proof, c.want) || got.What != api.AProof {
			t.Errorf("%v is told as %v, want %v", c.proof, got, c.want)
		}
	}
}

// Z1: of entries the Times alone are told as 0, and those of the log stay.
func TestSpoiledEntries(t *testing.T) {
	s := begin()
	for _, line := range []string{"add 5 a", "add 0 b", "add 9999  c ", "step"} {
		if _, err := s.answer(line); err != nil {
			t.Fatalf("%s: %v", line, err)
		}
	}
	log := []api.Entry{{Time: 5, Data: "a"}, {Data: "b"}, {Time: 9999, Data: " c "}}
	if got := s.wanted(); got.What != api.Some || !slices.Equal(got.Entries, log) {
		t.Errorf("wanted is %v", got)
	}
	if got := spoil(s.wanted()); got.What != api.Some || !slices.Equal(got.Entries, []api.Entry{{Data: "a"}, {Data: "b"}, {Data: " c "}}) {
		t.Errorf("told wrong they are %v", got)
	}
	if !slices.Equal(s.log, log) {
		t.Errorf("the log is %v", s.log)
	}
}

// Z1: of a proof of nothing: none. (A Mirror that has nothing wants no proof.)
func TestProofOfNothing(t *testing.T) {
	s := begin()
	for size := range 5 {
		if got := s.proof(0, size); len(got) > 0 {
			t.Errorf("from nothing to %d: %v", size, got)
		}
		leafs, err := entry.Leafs(s.log)
		if err != nil {
			t.Fatal(err)
		}
		for old := 1; old <= size; old++ {
			want, err := grow.Make(leafs, old, size)
			if got := s.proof(old, size); err != nil || !slices.Equal(got, want) {
				t.Errorf("from %d to %d: %v, want %v, %v", old, size, got, want, err)
			}
		}
		s.log = append(s.log, api.Entry{Time: size, Data: "x"})
	}
}

// Z1: the head that the Mirror hears is of the log as it is now, at the time 0, signed with the key 7. (From outside a later time is not to be seen.)
func TestWantedHead(t *testing.T) {
	s := begin()
	for size := range 5 {
		want, err := serve.Head(s.log, 7, 0)
		if got := s.wanted(); err != nil || got.What != api.AHead || got.Head != want || got.Head.Size != size || got.Entries != nil || got.Proof != nil {
			t.Errorf("of %d entries it is %v, want %v, %v", size, got, want, err)
		}
		s.log = append(s.log, api.Entry{Time: size, Data: "x"})
	}
}

// A line that is none has an error that embeds ErrSyntax, and is not taken for that of a good line.
func TestBadLine(t *testing.T) {
	for line, want := range map[string]string{"x": "bad", "add 1": "bad", "ask x": "ErrSyntax", "key ": "ErrSyntax"} {
		answer, err := begin().answer(line)
		if answer != "" || err == nil || err.Error() != "ErrSyntax" || tell(answer, err) != want {
			t.Errorf("%q: %q, %v, told as %q", line, answer, err, tell(answer, err))
		}
	}
}
