// Package faces holds each package to what its chapter lists: it does not build if a face is missing or of another form.
package faces

import (
	"testing"

	"witnessbox/api"
	"witnessbox/audit"
	"witnessbox/batch"
	"witnessbox/entry"
	"witnessbox/fork"
	"witnessbox/grow"
	"witnessbox/head"
	"witnessbox/keys"
	"witnessbox/lsm"
	"witnessbox/mirror"
	"witnessbox/mix"
	"witnessbox/peaks"
	"witnessbox/proof"
	"witnessbox/prune"
	"witnessbox/run"
	"witnessbox/serve"
	"witnessbox/store"
	"witnessbox/table"
	"witnessbox/tile"
	"witnessbox/tree"
	"witnessbox/wal"
)

// Chapters 1 to 6.
var (
	_ func(string) int                                      = mix.Sum
	_ func(string) int                                      = mix.Leaf
	_ func(int, int) (int, error)                           = mix.Node
	_ func(int, int) (string, error)                        = mix.NodeBytes
	_ func(int) (string, error)                             = mix.Print
	_ func(string) (int, error)                             = mix.Parse
	_ func([]int) error                                     = tree.Check
	_ func([]int) (int, error)                              = tree.Root
	_ func(int) (int, error)                                = tree.Split
	_ func([]int, int, int) (int, error)                    = tree.At
	_ func([]string, []string) (api.Clash, error)           = tree.Collide
	_ func() *peaks.Peaks                                   = peaks.New
	_ func(int, []int) (*peaks.Peaks, error)                = peaks.Of
	_ func([]int, int, int) ([]int, error)                  = proof.Make
	_ func(int, int, int, int, []int) error                 = proof.Check
	_ func(int, int) (int, error)                           = proof.Steps
	_ func([]int, int, int) ([]int, error)                  = grow.Make
	_ func(int, int, int, int, []int) error                 = grow.Check
	_ func(int) ([]api.Tile, error)                         = tile.All
	_ func([]int, api.Tile) ([]int, error)                  = tile.Sums
	_ func(int, int) (api.Tile, int, error)                 = tile.Where
	_ func(int, func(api.Tile) ([]int, error)) (int, error) = tile.Root
	_ interface {
		Append(int) error
		Size() int
		Parts() []int
		Root() int
	} = (*peaks.Peaks)(nil)
)

// Chapters 7 to 12.
var (
	_ func(api.Entry) error                  = entry.Check
	_ func(api.Entry) (string, error)        = entry.Encode
	_ func(string) (api.Entry, error)        = entry.Decode
	_ func([]api.Entry) (string, error)      = entry.Pack
	_ func(string) ([]api.Entry, error)      = entry.Unpack
	_ func([]api.Entry) ([]int, error)       = entry.Leafs
	_ func(api.Head) error                   = head.Check
	_ func(api.Head, int) (api.Head, error)  = head.Sign
	_ func(api.Head, int) error              = head.Verify
	_ func(api.Head) (string, error)         = head.Print
	_ func(string) (api.Head, error)         = head.Parse
	_ func(api.Head, api.Head) (bool, error) = head.Better
	_ func() *store.Store                    = store.New
	_ func([]api.Pair) (string, error)       = table.Build
	_ func(string) (*table.Table, error)     = table.Open
	_ func(int) (*lsm.Lsm, error)            = lsm.New
	_ func(int) (*wal.Wal, error)            = wal.New
	_ interface {
		Put(key, value string) error
		Drop(key string) error
		Get(key string) (string, error)
		All() []api.Pair
		Len() int
		Range(from, to string) []api.Pair
	} = (*store.Store)(nil)
	_ interface {
		Get(key string) (api.Pair, error)
		All() []api.Pair
		First() string
		Last() string
	} = (*table.Table)(nil)
	_ interface {
		Put(key, value string) error
		Drop(key string) error
		Get(key string) (string, error)
		Flush() error
		Merge() error
		All() []api.Pair
		Tables() []string
		Young() int
	} = (*lsm.Lsm)(nil)
	_ interface {
		Put([]api.Pair) error
		Sync() error
		Crash(keep int)
		Fail(n int)
		Lsm() *lsm.Lsm
		Bytes() int
		Safe() int
	} = (*wal.Wal)(nil)
)

// Chapters 13 to 20.
var (
	_ func(int) (*mirror.Mirror, error)                   = mirror.New
	_ func([]api.Entry, int, int, string) (string, error) = serve.Answer
	_ func([]api.Entry, int, int) (api.Head, error)       = serve.Head
	_ func(api.Head, api.Head, int, []int) (bool, error)  = fork.Check
	_ func([]api.Head, int) (int, int, error)             = fork.Find
	_ func(api.Head, api.Head, int) (bool, error)         = fork.Proves
	_ func([]api.Entry, api.Head, int) error              = audit.Whole
	_ func([]api.Entry) ([][]int, error)                  = audit.Tiles
	_ func([]api.Entry, [][]int) ([]api.Tile, error)      = audit.Bad
	_ func([]api.Pair) (int, error)                       = keys.Root
	_ func([]api.Pair, string) ([]int, error)             = keys.Prove
	_ func(int, string, string, bool, []int) error        = keys.Check
	_ func(string) (string, error)                        = keys.Bits
	_ func([]int, []int) ([]int, error)                   = batch.Make
	_ func(int, int, []int, []int, []int) error           = batch.Check
	_ func(int, []int) (int, error)                       = batch.Long
	_ func(int, int) (*prune.Tree, error)                 = prune.New
	_ func(string) string                                 = run.Run
	_ interface {
		Want() api.Want
		Hear(api.Reply) error
		Size() int
		Root() int
		Entries() []api.Entry
		Head() api.Head
	} = (*mirror.Mirror)(nil)
	_ interface {
		Learn(i, sum int, proof []int) error
		Knows(i int) (int, error)
		Many() int
		Prove(i int) ([]int, error)
		Forget(i int) error
	} = (*prune.Tree)(nil)
)

func TestFaces(t *testing.T) {
	t.Log("the faces are checked as this file is built")
}
