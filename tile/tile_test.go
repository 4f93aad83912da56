package tile_test

import (
	"errors"
	"fmt"
	"math"
	"math/rand"
	"slices"
	"strconv"
	"testing"

	"witnessbox/api"
	"witnessbox/mix"
	"witnessbox/plain"
	"witnessbox/tile"
	"witnessbox/tree"
)

var badSums = []int{-1, -2, -api.Prime, math.MinInt, math.MinInt32, api.Prime, api.Prime + 1, math.MaxUint32, 1 << 32, math.MaxInt}

var edgeSizes = []int{0, 1, 3, 4, 5, 15, 16, 17, 63, 64, 65, 199, 200}

// Of some of these four times the Index, or all the leafs ahead of it, wrap round to a number that may be.
var farIndexes = []int{51, 1000, 1_000_001, 1 << 32, 1 << 56, 1 << 58, 1 << 60, 1<<60 + 1, math.MaxInt/4 - 1, math.MaxInt / 4, math.MaxInt/4 + 1, 1 << 62, 1<<62 + 1, math.MaxInt - 1, math.MaxInt}

var badLevels = []int{-1, -2, 4, 5, 32, 64, 1 << 32, math.MinInt, math.MaxInt}

var badIndexes = []int{-1, -2, -50, -1 << 60, -1 << 62, math.MinInt, math.MinInt + 1}

var badWides = []int{0, -1, -4, 5, 6, 200, 1 << 62, math.MinInt, math.MaxInt}

// wantError also asks that an Errno is told, never OK.
func wantError(t *testing.T, what string, err error, want api.Errno) {
	t.Helper()
	if err == nil || plain.Told(err) != want {
		t.Errorf("%s: error %v, want %v", what, err, want)
	}
}

// someLeafs are the Leafs of "0", "1" and so on.
func someLeafs(n int) []int {
	out := make([]int, n)
	for i := range out {
		out[i] = mix.Leaf(strconv.Itoa(i))
	}
	return out
}

// anyLeafs have no order, so that no two parts have one root, as some of someLeafs do.
func anyLeafs(n int) []int {
	r := rand.New(rand.NewSource(6))
	out := make([]int, n)
	for i := range out {
		out[i] = r.Intn(api.Prime)
	}
	return out
}

func rootOf(leafs []int) int {
	n, err := tree.Root(leafs)
	if err != nil {
		panic(err)
	}
	return n
}

// levelsOf is T1, word for word: the leafs, and for each next one the roots of 4 at a time, as far as there are 4.
func levelsOf(leafs []int) [][]int {
	out := [][]int{leafs}
	for len(out[len(out)-1]) >= 4 {
		var next []int
		for four := range slices.Chunk(out[len(out)-1], 4) {
			if len(four) == 4 {
				next = append(next, rootOf(four))
			}
		}
		out = append(out, next)
	}
	return out
}

// tilesOf is T1, word for word: sum by sum, each in the Tile that it is of.
func tilesOf(size int) []api.Tile {
	var out []api.Tile
	for level, sums := range levelsOf(make([]int, size)) {
		for i := range sums {
			if i%4 == 0 {
				out = append(out, api.Tile{Level: level, Index: i / 4})
			}
			out[len(out)-1].Wide++
		}
	}
	return out
}

// sumsOf are those that a Tile has, or false where there are not so many.
func sumsOf(levels [][]int, t api.Tile) ([]int, bool) {
	if t.Level >= len(levels) {
		return nil, false
	}
	var out []int
	for i, sum := range levels[t.Level] {
		if i/4 == t.Index && i%4 < t.Wide {
			out = append(out, sum)
		}
	}
	return out, len(out) == t.Wide
}

func all(t *testing.T, size int) []api.Tile {
	t.Helper()
	tiles, err := tile.All(size)
	if err != nil {
		t.Fatalf("All(%d): %v", size, err)
	}
	return tiles
}

func wantSums(t *testing.T, leafs []int, of api.Tile, want []int) {
	t.Helper()
	if got, err := tile.Sums(leafs, of); err != nil || !slices.Equal(got, want) {
		t.Errorf("Sums of %v of %d leafs = %v, %v, want %v", of, len(leafs), got, err, want)
	}
}

func wantSumsError(t *testing.T, leafs []int, of api.Tile, want api.Errno) {
	t.Helper()
	got, err := tile.Sums(leafs, of)
	wantError(t, fmt.Sprintf("Sums of %v of %d leafs", of, len(leafs)), err, want)
	if len(got) != 0 {
		t.Errorf("Sums: %v beside an error", got)
	}
}

func wantRoot(t *testing.T, what string, size int, get func(api.Tile) ([]int, error), want int) {
	t.Helper()
	if got, err := tile.Root(size, get); err != nil || got != want {
		t.Errorf("Root of %d, %s = %d, %v, want %d", size, what, got, err, want)
	}
}

func wantRootError(t *testing.T, what string, size int, get func(api.Tile) ([]int, error), want api.Errno) {
	t.Helper()
	got, err := tile.Root(size, get)
	wantError(t, fmt.Sprintf("Root of %d, %s", size, what), err, want)
	if got != 0 {
		t.Errorf("Root: %d beside an error", got)
	}
}

// asked is a get that tells the sums of leafs, and keeps what it was asked for; but has another answer at some of its calls.
type asked struct {
	leafs []int
	tiles []api.Tile
	but   map[int]func(sums []int) ([]int, error)
}

func (a *asked) get(t api.Tile) ([]int, error) {
	call := len(a.tiles)
	a.tiles = append(a.tiles, t)
	sums, there := sumsOf(levelsOf(a.leafs), t)
	if !there {
		return nil, fmt.Errorf("asked for %v of %d leafs: %w", t, len(a.leafs), api.ErrState)
	}
	if other := a.but[call]; other != nil {
		return other(sums)
	}
	return sums, nil
}

func askedBut(leafs []int, call int, other func(sums []int) ([]int, error)) *asked {
	return &asked{leafs: leafs, but: map[int]func([]int) ([]int, error){call: other}}
}

// fewCalls are some of the Tiles of a size, by their place in All: the first, the last, and those where a Level ends and the next one begins.
func fewCalls(size int) []int {
	tiles := tilesOf(size)
	var out []int
	for at, t := range tiles {
		if at < 2 || t.Index == 0 || at == len(tiles)-1 || tiles[at+1].Index == 0 || at%11 == 5 {
			out = append(out, at)
		}
	}
	return out
}

// wrongAnswers are of a Tile of which sums are the right ones.
func wrongAnswers(sums []int) [][]int {
	out := [][]int{
		nil,
		{},
		sums[:len(sums)-1],
		append(slices.Clone(sums), 5),
		append(slices.Clone(sums), -1),
		append(slices.Clone(sums), sums...),
		make([]int, 5),
		make([]int, 1000),
	}
	for _, bad := range badSums {
		for at := range sums {
			wrong := slices.Clone(sums)
			wrong[at] = bad
			out = append(out, wrong)
		}
		out = append(out, slices.Repeat([]int{bad}, len(sums)))
	}
	return out
}

// T1: All by hand.
func TestAllKnown(t *testing.T) {
	for _, c := range []struct {
		size int
		want []api.Tile
	}{
		{0, nil},
		{1, []api.Tile{{Level: 0, Index: 0, Wide: 1}}},
		{3, []api.Tile{{Level: 0, Index: 0, Wide: 3}}},
		{4, []api.Tile{{Level: 0, Index: 0, Wide: 4}, {Level: 1, Index: 0, Wide: 1}}},
		{5, []api.Tile{{Level: 0, Index: 0, Wide: 4}, {Level: 0, Index: 1, Wide: 1}, {Level: 1, Index: 0, Wide: 1}}},
		{15, []api.Tile{{Level: 0, Index: 0, Wide: 4}, {Level: 0, Index: 1, Wide: 4}, {Level: 0, Index: 2, Wide: 4}, {Level: 0, Index: 3, Wide: 3}, {Level: 1, Index: 0, Wide: 3}}},
		{16, []api.Tile{{Level: 0, Index: 0, Wide: 4}, {Level: 0, Index: 1, Wide: 4}, {Level: 0, Index: 2, Wide: 4}, {Level: 0, Index: 3, Wide: 4}, {Level: 1, Index: 0, Wide: 4}, {Level: 2, Index: 0, Wide: 1}}},
		{17, []api.Tile{{Level: 0, Index: 0, Wide: 4}, {Level: 0, Index: 1, Wide: 4}, {Level: 0, Index: 2, Wide: 4}, {Level: 0, Index: 3, Wide: 4}, {Level: 0, Index: 4, Wide: 1}, {Level: 1, Index: 0, Wide: 4}, {Level: 2, Index: 0, Wide: 1}}},
	} {
		if got := all(t, c.size); !slices.Equal(got, c.want) {
			t.Errorf("All(%d) = %v, want %v", c.size, got, c.want)
		}
	}
	for size, want := range map[int]int{0: 0, 1: 1, 3: 1, 4: 2, 5: 3, 15: 5, 16: 6, 17: 7, 63: 21, 64: 22, 65: 23, 199: 67, 200: 67} {
		if got := all(t, size); len(got) != want {
			t.Errorf("All(%d): %d Tiles, want %d", size, len(got), want)
		}
	}
	ends := all(t, 200)[63:]
	if want := []api.Tile{{Level: 2, Index: 0, Wide: 4}, {Level: 2, Index: 1, Wide: 4}, {Level: 2, Index: 2, Wide: 4}, {Level: 3, Index: 0, Wide: 3}}; !slices.Equal(ends, want) {
		t.Errorf("All(200) ends with %v, want %v", ends, want)
	}
}

// T1: All of each size.
func TestAllAsWritten(t *testing.T) {
	for size := 0; size <= api.MaxLeafs; size++ {
		if got, want := all(t, size), tilesOf(size); !slices.Equal(got, want) {
			t.Errorf("All(%d) = %v, want %v", size, got, want)
		}
	}
}

// T1: sizes that are none.
func TestAllWrongSize(t *testing.T) {
	for _, size := range []int{-1, -2, -200, math.MinInt, 201, 202, 256, 1 << 32, 1 << 62, math.MaxInt} {
		got, err := tile.All(size)
		wantError(t, fmt.Sprintf("All(%d)", size), err, api.ErrRange)
		if len(got) != 0 {
			t.Errorf("All(%d): %v beside an error", size, got)
		}
	}
}

// T1: Sums that another program worked out, node by node from the leafs up.
func TestSumsKnown(t *testing.T) {
	leafs := someLeafs(api.MaxLeafs)
	for _, c := range []struct {
		of   api.Tile
		want []int
	}{
		{api.Tile{Level: 0, Index: 0, Wide: 4}, []int{92343521, 92343522, 92343523, 92343524}},
		{api.Tile{Level: 0, Index: 0, Wide: 1}, []int{92343521}},
		{api.Tile{Level: 0, Index: 49, Wide: 4}, []int{2011740856, 2011740857, 2011740858, 2011740859}},
		{api.Tile{Level: 0, Index: 13, Wide: 2}, []int{1359583722, 1359583723}},
		{api.Tile{Level: 1, Index: 0, Wide: 4}, []int{68062174, 1893457948, 1544259682, 287949119}},
		{api.Tile{Level: 1, Index: 0, Wide: 1}, []int{68062174}},
		{api.Tile{Level: 1, Index: 3, Wide: 3}, []int{1938475606, 1818673046, 1099249028}},
		{api.Tile{Level: 1, Index: 11, Wide: 4}, []int{1911798978, 1911798978, 1877466752, 1420885713}},
		{api.Tile{Level: 1, Index: 12, Wide: 2}, []int{1013343881, 1287615116}},
		{api.Tile{Level: 2, Index: 0, Wide: 4}, []int{1483418431, 248269175, 1128742434, 1282363292}},
		{api.Tile{Level: 2, Index: 1, Wide: 1}, []int{917343011}},
		{api.Tile{Level: 2, Index: 2, Wide: 4}, []int{1485943564, 1556972574, 1031605950, 846567311}},
		{api.Tile{Level: 3, Index: 0, Wide: 1}, []int{1011509038}},
		{api.Tile{Level: 3, Index: 0, Wide: 2}, []int{1011509038, 593487895}},
		{api.Tile{Level: 3, Index: 0, Wide: 3}, []int{1011509038, 593487895, 1393441177}},
	} {
		wantSums(t, leafs, c.of, c.want)
	}
}

// T1: the Sums of each Tile of All of each size, and of those less Wide; of one that is wider there are not so many.
func TestSumsOfAll(t *testing.T) {
	for size := 0; size <= api.MaxLeafs; size++ {
		leafs := anyLeafs(size)
		levels := levelsOf(leafs)
		for _, of := range tilesOf(size) {
			want, _ := sumsOf(levels, of)
			for wide := 1; wide <= of.Wide; wide++ {
				wantSums(t, leafs, api.Tile{Level: of.Level, Index: of.Index, Wide: wide}, want[:wide])
			}
			for wide := of.Wide + 1; wide <= 4; wide++ {
				wantSumsError(t, leafs, api.Tile{Level: of.Level, Index: of.Index, Wide: wide}, api.ErrNone)
			}
		}
	}
}

// T1: whichever Tile is asked for, at each edge of a size.
func TestSumsOfAnyTile(t *testing.T) {
	for _, size := range edgeSizes {
		leafs := anyLeafs(size)
		levels := levelsOf(leafs)
		for level := range 4 {
			for index := range 53 {
				for wide := 1; wide <= 4; wide++ {
					of := api.Tile{Level: level, Index: index, Wide: wide}
					if want, there := sumsOf(levels, of); there {
						wantSums(t, leafs, of, want)
					} else {
						wantSumsError(t, leafs, of, api.ErrNone)
					}
				}
			}
		}
	}
}

// T1: an Index one more than the last one, and far above.
func TestSumsFarAbove(t *testing.T) {
	for _, size := range edgeSizes {
		leafs := anyLeafs(size)
		levels := append(levelsOf(leafs), nil, nil, nil, nil)
		for level := range 4 {
			last := (len(levels[level]) + 3) / 4
			for _, index := range append([]int{last, last + 1}, farIndexes...) {
				for wide := 1; wide <= 4; wide++ {
					wantSumsError(t, leafs, api.Tile{Level: level, Index: index, Wide: wide}, api.ErrNone)
				}
			}
		}
	}
}

// T1: leafs at both ends of what may be.
func TestSumsOfEdgeLeafs(t *testing.T) {
	for _, size := range edgeSizes {
		for _, leafs := range [][]int{make([]int, size), slices.Repeat([]int{api.Prime - 1}, size), slices.Repeat([]int{0, api.Prime - 1}, size)[:size]} {
			levels := levelsOf(leafs)
			for _, of := range tilesOf(size) {
				want, _ := sumsOf(levels, of)
				wantSums(t, leafs, of, want)
			}
		}
	}
}

// T1: a Tile that is none, also where there are not so many, and where more of it than one number is wrong.
func TestSumsWrongTile(t *testing.T) {
	for _, size := range edgeSizes {
		leafs := anyLeafs(size)
		for _, index := range append([]int{0, 1, 49, 50}, farIndexes...) {
			for wide := 1; wide <= 4; wide++ {
				for _, level := range badLevels {
					wantSumsError(t, leafs, api.Tile{Level: level, Index: index, Wide: wide}, api.ErrRange)
				}
			}
			for _, wide := range badWides {
				for level := range 4 {
					wantSumsError(t, leafs, api.Tile{Level: level, Index: index, Wide: wide}, api.ErrRange)
				}
				wantSumsError(t, leafs, api.Tile{Level: 4, Index: index, Wide: wide}, api.ErrRange)
			}
		}
		for _, index := range badIndexes {
			for level := range 4 {
				for wide := 1; wide <= 4; wide++ {
					wantSumsError(t, leafs, api.Tile{Level: level, Index: index, Wide: wide}, api.ErrRange)
				}
			}
			wantSumsError(t, leafs, api.Tile{Level: -1, Index: index, Wide: 0}, api.ErrRange)
		}
		wantSumsError(t, leafs, api.Tile{}, api.ErrRange)
	}
}

// T1: leafs that are none, whichever the Tile: too many of them ahead of one that is no sum.
func TestSumsWrongLeafs(t *testing.T) {
	tiles := []api.Tile{
		{Level: 0, Index: 0, Wide: 1}, {Level: 0, Index: 49, Wide: 4}, {Level: 3, Index: 0, Wide: 3},
		{Level: 0, Index: 50, Wide: 1}, {Level: 3, Index: 0, Wide: 4}, {Level: 1, Index: math.MaxInt, Wide: 4},
		{}, {Level: 4, Index: 0, Wide: 1}, {Level: 0, Index: -1, Wide: 1}, {Level: -1, Index: -1, Wide: -1}, {Level: 0, Index: 0, Wide: 5},
	}
	for _, of := range tiles {
		for _, many := range []int{201, 202, 256, 100_000} {
			wantSumsError(t, make([]int, many), of, api.ErrFull)
			wantSumsError(t, slices.Repeat([]int{-1}, many), of, api.ErrFull)
		}
		for _, size := range []int{1, 4, 5, 64, 199, 200} {
			for _, place := range []int{0, size / 2, size - 1} {
				for _, bad := range badSums {
					leafs := anyLeafs(size)
					leafs[place] = bad
					wantSumsError(t, leafs, of, api.ErrRange)
				}
			}
		}
	}
}

// T1: Where by hand.
func TestWhereKnown(t *testing.T) {
	for _, c := range []struct {
		level, i int
		want     api.Tile
		place    int
	}{
		{0, 0, api.Tile{Level: 0, Index: 0, Wide: 1}, 0},
		{0, 3, api.Tile{Level: 0, Index: 0, Wide: 4}, 3},
		{0, 4, api.Tile{Level: 0, Index: 1, Wide: 1}, 0},
		{1, 5, api.Tile{Level: 1, Index: 1, Wide: 2}, 1},
		{2, 11, api.Tile{Level: 2, Index: 2, Wide: 4}, 3},
		{3, 2, api.Tile{Level: 3, Index: 0, Wide: 3}, 2},
		{0, 199, api.Tile{Level: 0, Index: 49, Wide: 4}, 3},
		{3, 198, api.Tile{Level: 3, Index: 49, Wide: 3}, 2},
	} {
		if got, place, err := tile.Where(c.level, c.i); err != nil || got != c.want || place != c.place {
			t.Errorf("Where(%d, %d) = %v, %d, %v, want %v, %d", c.level, c.i, got, place, err, c.want, c.place)
		}
	}
}

// T1: Where of each sum of each Level, held against a look for the first Tile, from the least Wide on, that has it; also of those that no tree has.
func TestWhereAsWritten(t *testing.T) {
	look := func(i int) (index, wide, place int) {
		for wide := 1; wide <= 4; wide++ {
			for index := range 50 {
				for place := range wide {
					if 4*index+place == i {
						return index, wide, place
					}
				}
			}
		}
		return -1, -1, -1
	}
	for level := range 4 {
		for i := range api.MaxLeafs {
			index, wide, at := look(i)
			want := api.Tile{Level: level, Index: index, Wide: wide}
			if got, place, err := tile.Where(level, i); err != nil || got != want || place != at {
				t.Errorf("Where(%d, %d) = %v, %d, %v, want %v, %d", level, i, got, place, err, want, at)
			}
		}
	}
}

// T1: at its place in its Tile stands the i-th sum of a Level, already where the tree has no more of them than that; where it has less there is none.
func TestWhereFindsTheSum(t *testing.T) {
	most := anyLeafs(api.MaxLeafs)
	for size := 0; size <= api.MaxLeafs; size++ {
		leafs := most[:size]
		levels := append(levelsOf(leafs), nil, nil, nil, nil)
		for level := range 4 {
			for i := range 55 {
				of, place, err := tile.Where(level, i)
				if err != nil {
					t.Fatalf("Where(%d, %d): %v", level, i, err)
				}
				if i >= len(levels[level]) {
					wantSumsError(t, leafs, of, api.ErrNone)
				} else if sums, err := tile.Sums(leafs, of); err != nil || sums[place] != levels[level][i] {
					t.Errorf("the sum %d of Level %d of %d leafs: %v at %d, %v, want %d", i, level, size, sums, place, err, levels[level][i])
				}
			}
		}
	}
	for i, leaf := range most {
		of, place, err := tile.Where(0, i)
		if err != nil {
			t.Fatalf("Where(0, %d): %v", i, err)
		}
		if sums, err := tile.Sums(most, of); err != nil || sums[place] != leaf {
			t.Errorf("leaf %d: %v at %d, %v, want %d", i, sums, place, err, leaf)
		}
	}
}

// T1: a Level that is none, and an i that is none.
func TestWhereWrong(t *testing.T) {
	refused := func(level, i int) {
		got, place, err := tile.Where(level, i)
		wantError(t, fmt.Sprintf("Where(%d, %d)", level, i), err, api.ErrRange)
		if got != (api.Tile{}) || place != 0 {
			t.Errorf("Where(%d, %d): %v, %d beside an error", level, i, got, place)
		}
	}
	badPlaces := []int{-1, -2, -4, math.MinInt, 200, 201, 256, 1 << 32, 1 << 62, math.MaxInt}
	for _, level := range badLevels {
		for _, i := range append([]int{0, 3, 4, 5, 199}, badPlaces...) {
			refused(level, i)
		}
	}
	for level := range 4 {
		for _, i := range badPlaces {
			refused(level, i)
		}
	}
}

// T2: roots that another program worked out.
func TestRootKnown(t *testing.T) {
	for size, want := range map[int]int{
		0:   5381,
		1:   92343521,
		3:   1985519171,
		4:   68062174,
		5:   928637971,
		15:  1486428799,
		16:  1483418431,
		17:  1553816334,
		63:  1011621454,
		64:  1011509038,
		65:  1250554981,
		199: 279029768,
		200: 277673247,
	} {
		leafs := someLeafs(size)
		wantRoot(t, "by Sums", size, func(of api.Tile) ([]int, error) { return tile.Sums(leafs, of) }, want)
	}
}

// T2: Root is chapter 2's of the same leafs, and get is asked for each Tile of All, in order, once.
func TestRootOfEachSize(t *testing.T) {
	for size := 0; size <= api.MaxLeafs; size++ {
		leafs := anyLeafs(size)
		wantRoot(t, "by Sums", size, func(of api.Tile) ([]int, error) { return tile.Sums(leafs, of) }, rootOf(leafs))
		a := asked{leafs: leafs}
		wantRoot(t, "by sums written out", size, a.get, rootOf(leafs))
		if want := tilesOf(size); !slices.Equal(a.tiles, want) {
			t.Errorf("Root of %d asks for %v, want %v", size, a.tiles, want)
		}
	}
}

// T2: Root of the first leafs of a log that has more.
func TestRootOfFewer(t *testing.T) {
	leafs := anyLeafs(api.MaxLeafs)
	for size := 0; size <= api.MaxLeafs; size++ {
		wantRoot(t, "of 200", size, func(of api.Tile) ([]int, error) { return tile.Sums(leafs, of) }, rootOf(leafs[:size]))
	}
}

// T2: sums at both ends of what may be.
func TestRootOfEdgeSums(t *testing.T) {
	for _, size := range edgeSizes {
		for _, leafs := range [][]int{make([]int, size), slices.Repeat([]int{api.Prime - 1}, size), slices.Repeat([]int{api.Prime - 1, 0}, size)[:size]} {
			a := asked{leafs: leafs}
			wantRoot(t, "at the edges", size, a.get, rootOf(leafs))
		}
	}
}

// T1, T2: the leafs are the sums of Level 0, and a tree is of its leafs (chapter 2): sums of a higher Level that do not come of them are sums all the same.
func TestRootIsOfTheLeafs(t *testing.T) {
	for _, size := range edgeSizes {
		leafs := anyLeafs(size)
		for _, other := range []int{0, 7, api.Prime - 1} {
			wantRoot(t, "other sums above", size, func(of api.Tile) ([]int, error) {
				if of.Level > 0 {
					return slices.Repeat([]int{other}, of.Wide), nil
				}
				return leafs[4*of.Index : 4*of.Index+of.Wide], nil
			}, rootOf(leafs))
		}
	}
}

// T2: sizes that are none: get is not asked, whatever it is.
func TestRootWrongSize(t *testing.T) {
	for _, size := range []int{-1, -2, -200, math.MinInt, 201, 202, 256, 1 << 32, 1 << 62, math.MaxInt} {
		calls := 0
		wantRootError(t, "sums", size, func(of api.Tile) ([]int, error) { calls++; return make([]int, of.Wide), nil }, api.ErrRange)
		wantRootError(t, "an error", size, func(api.Tile) ([]int, error) { calls++; return nil, api.ErrFull }, api.ErrRange)
		wantRootError(t, "no get", size, nil, api.ErrRange)
		if calls != 0 {
			t.Errorf("Root of %d asks get", size)
		}
	}
}

// T2: a get that is none tells no sums; a tree of none asks for none.
func TestRootWithoutGet(t *testing.T) {
	wantRoot(t, "no get", 0, nil, mix.Sum(""))
	for size := 1; size <= api.MaxLeafs; size++ {
		wantRootError(t, "no get", size, nil, api.ErrShape)
	}
}

type oddError struct{ of int }

func (e *oddError) Error() string { return "odd " + strconv.Itoa(e.of) }

// T2: the first error of get is told as it is, whichever Tile it is of and whatever stands beside it; get is not asked again.
func TestRootErrorOfGet(t *testing.T) {
	errs := []error{api.ErrRange, api.ErrNone, api.ErrShape, api.ErrSign, &oddError{1}, fmt.Errorf("told: %w", api.ErrProof), errors.New("another one")}
	for _, size := range edgeSizes {
		leafs := anyLeafs(size)
		for _, call := range fewCalls(size) {
			for _, want := range errs {
				for _, beside := range []func([]int) []int{
					func(sums []int) []int { return nil },
					func(sums []int) []int { return sums },
					func(sums []int) []int { return []int{-1, api.Prime} },
				} {
					a := askedBut(leafs, call, func(sums []int) ([]int, error) { return beside(sums), want })
					got, err := tile.Root(size, a.get)
					if err != want || got != 0 {
						t.Errorf("Root of %d with an error at %d = %d, %v, want %v itself", size, call, got, err, want)
					}
					if tiles := tilesOf(size)[:call+1]; !slices.Equal(a.tiles, tiles) {
						t.Errorf("Root of %d with an error at %d asks for %v, want %v", size, call, a.tiles, tiles)
					}
				}
			}
		}
	}
}

// T2: of two errors of get the first one.
func TestRootFirstErrorOfGet(t *testing.T) {
	for _, size := range edgeSizes {
		leafs := anyLeafs(size)
		for _, first := range fewCalls(size) {
			for _, second := range fewCalls(size) {
				if first >= second {
					continue
				}
				want := &oddError{first}
				a := askedBut(leafs, first, func([]int) ([]int, error) { return nil, want })
				a.but[second] = func([]int) ([]int, error) { return nil, &oddError{second} }
				if got, err := tile.Root(size, a.get); err != error(want) || got != 0 {
					t.Errorf("Root of %d with errors at %d and %d = %d, %v", size, first, second, got, err)
				}
			}
		}
	}
}

// T2: fewer or more sums than Wide, or one that is none, whichever Tile they are of: all of them are asked for, once.
func TestRootWrongAnswer(t *testing.T) {
	for _, size := range edgeSizes {
		leafs := anyLeafs(size)
		tiles, levels := tilesOf(size), levelsOf(leafs)
		for _, call := range fewCalls(size) {
			sums, _ := sumsOf(levels, tiles[call])
			for _, wrong := range wrongAnswers(sums) {
				if len(wrong) == len(sums) && tree.Check(wrong) == nil {
					t.Fatalf("%v is not wrong for %v", wrong, sums)
				}
				var seen []api.Tile
				wantRootError(t, fmt.Sprintf("%v for %v", wrong[:min(len(wrong), 6)], sums), size, func(of api.Tile) ([]int, error) {
					seen = append(seen, of)
					if of == tiles[call] {
						return wrong, nil
					}
					right, _ := sumsOf(levels, of)
					return right, nil
				}, api.ErrShape)
				if !slices.Equal(seen, tiles) {
					t.Errorf("Root of %d with a wrong answer at %d asks for %v, want %v", size, call, seen, tiles)
				}
			}
		}
	}
}

// T2: as many sums as there are in all do not help where they are of the wrong Tile.
func TestRootShiftedAnswer(t *testing.T) {
	leafs := anyLeafs(8)
	wantRootError(t, "one sum in the next Tile", 8, func(of api.Tile) ([]int, error) {
		switch of {
		case api.Tile{Level: 0, Index: 0, Wide: 4}:
			return leafs[:3], nil
		case api.Tile{Level: 0, Index: 1, Wide: 4}:
			return leafs[3:], nil
		}
		return tile.Sums(leafs, of)
	}, api.ErrShape)
}

// T2: an error of get is named ahead of a wrong answer: it is told where it comes first, and where it comes behind.
func TestRootErrorAheadOfShape(t *testing.T) {
	for _, size := range edgeSizes {
		leafs := anyLeafs(size)
		for _, failing := range fewCalls(size) {
			for _, wrong := range fewCalls(size) {
				if failing == wrong {
					continue
				}
				for _, answer := range [][]int{nil, make([]int, 5), {-1}, {api.Prime, 0, 0, 0}} {
					want := &oddError{failing}
					a := askedBut(leafs, failing, func([]int) ([]int, error) { return nil, want })
					a.but[wrong] = func([]int) ([]int, error) { return answer, nil }
					got, err := tile.Root(size, a.get)
					if err != error(want) || got != 0 {
						t.Errorf("Root of %d with an error at %d and a wrong answer at %d = %d, %v", size, failing, wrong, got, err)
					}
					if want := tilesOf(size)[:failing+1]; !slices.Equal(a.tiles, want) {
						t.Errorf("Root of %d with an error at %d and a wrong answer at %d asks for %v, want %v", size, failing, wrong, a.tiles, want)
					}
				}
			}
		}
	}
}

// DOC's P2: what All hands out is the caller's.
func TestAllSharesNothing(t *testing.T) {
	for _, size := range edgeSizes {
		a, b := all(t, size), all(t, size)
		for at := range a {
			a[at] = api.Tile{Level: -1, Index: -1, Wide: -1}
		}
		_ = append(a, api.Tile{})
		if want := tilesOf(size); !slices.Equal(b, want) || !slices.Equal(all(t, size), want) {
			t.Errorf("All(%d): what is handed out is shared", size)
		}
	}
}

// DOC's P2, P4: what Sums hands out is the caller's; leafs are neither written into nor read behind their length.
func TestSumsShareNothing(t *testing.T) {
	for _, size := range edgeSizes {
		room := append(anyLeafs(size), badSums...)
		before := slices.Clone(room)
		levels := levelsOf(before[:size:size])
		for _, of := range tilesOf(size) {
			want, _ := sumsOf(levels, of)
			a, err := tile.Sums(room[:size], of)
			b, bad := tile.Sums(room[:size], of)
			if err != nil || bad != nil {
				t.Fatalf("Sums of %v of %d leafs: %v, %v", of, size, err, bad)
			}
			for at := range a {
				a[at] = -1
			}
			_ = append(a, -2, -3, -4)
			if !slices.Equal(room, before) || !slices.Equal(b, want) {
				t.Fatalf("Sums of %v of %d leafs: what is handed out is shared", of, size)
			}
			for at := range room {
				room[at] = 7
			}
			if !slices.Equal(b, want) {
				t.Fatalf("Sums of %v of %d leafs change with the leafs", of, size)
			}
			copy(room, before)
			wantSums(t, room[:size], of, want)
		}
		wantSumsError(t, room[:size], api.Tile{Level: 0, Index: size / 4, Wide: size%4 + 1}, api.ErrNone)
		wantSumsError(t, room[:size], api.Tile{Level: 4, Index: 0, Wide: 1}, api.ErrRange)
		if !slices.Equal(room, before) {
			t.Errorf("a refused Sums of %d leafs wrote into them", size)
		}
	}
}

// DOC's P2, P4: Root writes into nothing that get told, reads nothing behind it, and keeps none of it: get may tell all in one memory.
func TestRootKeepsNoAnswer(t *testing.T) {
	for _, size := range edgeSizes {
		leafs := anyLeafs(size)
		levels := levelsOf(leafs)
		room := make([]int, 8)
		var told []int
		get := func(of api.Tile) ([]int, error) {
			if !slices.Equal(room, told) && told != nil {
				t.Errorf("Root of %d wrote into an answer: %v, told %v", size, room, told)
			}
			for at := range room {
				room[at] = badSums[at]
			}
			sums, _ := sumsOf(levels, of)
			copy(room, sums)
			told = slices.Clone(room)
			return room[:of.Wide], nil
		}
		for range 2 {
			wantRoot(t, "told in one memory", size, get, rootOf(leafs))
		}
		if told != nil && !slices.Equal(room, told) {
			t.Errorf("Root of %d wrote into the last answer", size)
		}
	}
	leafs := anyLeafs(api.MaxLeafs)
	before := slices.Clone(leafs)
	for size := 0; size <= api.MaxLeafs; size++ {
		wantRoot(t, "pieces of one list", size, func(of api.Tile) ([]int, error) {
			if of.Level == 0 {
				return leafs[4*of.Index : 4*of.Index+of.Wide], nil
			}
			return tile.Sums(leafs, of)
		}, rootOf(before[:size]))
	}
	if !slices.Equal(leafs, before) {
		t.Error("Root wrote into the list that get told pieces of")
	}
}
