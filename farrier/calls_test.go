package farrier_test

// The farrier is built on all layers: every one of them has the calls that its chapter lists, with exactly these signatures.

import (
	"testing"

	"pritchel/api"
	"pritchel/book"
	"pritchel/farrier"
	"pritchel/foot"
	"pritchel/forge"
	"pritchel/gait"
	"pritchel/heap"
	"pritchel/herd"
	"pritchel/lane"
	"pritchel/mark"
	"pritchel/road"
	"pritchel/stock"
	"pritchel/turn"
)

var (
	_ func(n int, edges []api.Pair, heaps []int) ([]int, []int, api.Errno) = heap.Settle
	_ func(n int, edges []api.Pair, heaps []int) ([]int, bool, api.Errno)  = heap.Burn
	_ func(n int, edges []api.Pair, a, b []int) ([]int, api.Errno)         = heap.Sum
	_ func(n int, edges []api.Pair, heaps []int) ([]int, api.Errno)        = heap.Again
	_ func(n int, edges []api.Pair, heaps []int) ([]int, api.Errno)        = heap.Low
	_ func(n int, edges []api.Pair) ([]int, api.Errno)                     = heap.Nothing
	_ func(n int, edges []api.Pair, heaps []int) (int, api.Errno)          = heap.Order
	_ func(n int, edges []api.Pair) ([]int, api.Errno)                     = heap.Group
	_ func(n int, edges []api.Pair) (int, api.Errno)                       = heap.Count
	_ func(n int, edges []api.Pair) ([]int, api.Errno)                     = heap.Levels
)

var (
	_ func(a, b []api.Point) (int, api.Errno)             = foot.Hausdorff
	_ func(a, b []api.Point) ([]int, api.Errno)           = foot.Farthest
	_ func(a, b []api.Point) (int, api.Errno)             = foot.Frechet
	_ func(a, b []api.Point) ([]api.Pair, api.Errno)      = foot.Walk
	_ func(a, b []api.Point, limit int) (bool, api.Errno) = foot.Within
	_ func(a, b []api.Point) (int, int, api.Errno)        = foot.Turned
	_ func(a, b []api.Point) (int, []api.Pair, api.Errno) = foot.Warp
	_ func(a []api.Point, limit int) ([]int, api.Errno)   = foot.Short
	_ func(m, n int) (api.Num, api.Errno)                 = foot.Steps
)

var (
	_ func(bush []api.Twig) (api.Num, api.Errno)                = turn.Value
	_ func(bush []api.Twig, twig int) ([]api.Twig, api.Errno)   = turn.Cut
	_ func(bush []api.Twig, left bool) ([]api.Num, api.Errno)   = turn.Moves
	_ func(bush []api.Twig, left bool) (int, api.Errno)         = turn.Best
	_ func(bush []api.Twig, left, first bool) (bool, api.Errno) = turn.Wins
	_ func(bush []api.Twig, left bool) ([]int, api.Errno)       = turn.Game
	_ func(s string) (api.Num, api.Errno)                       = turn.Stalk
	_ func(x api.Num) (string, api.Errno)                       = turn.Written
	_ func(l, r api.Num) (api.Num, api.Errno)                   = turn.Simplest
)

var (
	_ func(n int, pairs []api.Pair) ([]int, api.Errno)                        = herd.Group
	_ func(n int, pairs []api.Pair) ([]int, api.Errno)                        = herd.Groups
	_ func(n int, pairs []api.Pair) ([]int, api.Errno)                        = herd.Colors
	_ func(n, r int) ([]api.Pair, api.Errno)                                  = herd.Turan
	_ func(n, r int) (int, api.Errno)                                         = herd.Most
	_ func(n int, pairs []api.Pair, weights []api.Num) (api.Num, api.Errno)   = herd.Worth
	_ func(n int, pairs []api.Pair, weights []api.Num) ([]api.Num, api.Errno) = herd.Shift
	_ func(n int, pairs []api.Pair) (api.Num, []api.Num, api.Errno)           = herd.Greatest
	_ func(n int, pairs []api.Pair) (int, int, api.Errno)                     = herd.Triples
	_ func(n, r int, pairs []api.Pair) ([]api.Pair, api.Errno)                = herd.Free
)

var (
	_ func(s string) ([]int, api.Errno)             = gait.Like
	_ func(s string) ([]int, api.Errno)             = gait.Around
	_ func(s string) (api.Num, api.Errno)           = gait.Merit
	_ func(n int) (string, api.Errno)               = gait.Barker
	_ func(s, t string) (bool, api.Errno)           = gait.IsGolay
	_ func(n int) (string, string, api.Errno)       = gait.Golay
	_ func(s, t string) (string, string, api.Errno) = gait.Double
	_ func(p int) (string, api.Errno)               = gait.Legendre
	_ func(k int) ([]string, api.Errno)             = gait.Sylvester
	_ func(p int) ([]string, api.Errno)             = gait.Paley
	_ func(m []string) (bool, api.Errno)            = gait.Right
	_ func(m []string) ([]string, api.Errno)        = gait.Normal
	_ func(l []int) ([]int, api.Errno)              = gait.Transform
	_ func(s string) (bool, api.Errno)              = gait.Bent
)

var (
	_ func(n int, lanes []api.Lane, a, b int) (int, api.Errno)                         = lane.Distance
	_ func(n int, lanes []api.Lane) ([]int, api.Errno)                                 = lane.Span
	_ func(n int, lanes []api.Lane, ends []int) (int, api.Errno)                       = lane.Steiner
	_ func(n int, lanes []api.Lane, ends []int) ([]int, api.Errno)                     = lane.Net
	_ func(n int, lanes []api.Lane, ends, net []int) (int, bool, api.Errno)            = lane.Joins
	_ func(n int, lanes []api.Lane, ends []int) (int, api.Errno)                       = lane.Near
	_ func(n int, lanes []api.Lane, ends []int, cuts []api.Cut) (int, bool, api.Errno) = lane.Proves
	_ func(n int, lanes []api.Lane, ends []int) ([]api.Cut, api.Errno)                 = lane.Moats
	_ func(points []api.Point) (int, api.Errno)                                        = lane.Grid
	_ func(points []api.Point) ([]api.Line, api.Errno)                                 = lane.Lines
	_ func(points []api.Point, lines []api.Line) (int, bool, api.Errno)                = lane.Covers
	_ func(points []api.Point) (int, api.Errno)                                        = lane.Tree
)

var (
	_ func(r api.Road, a, b api.Spot) (int, api.Errno)                             = road.Distance
	_ func(r api.Road, hands []api.Spot, call int) ([]api.Spot, int, api.Errno)    = road.Step
	_ func(r api.Road, hands []api.Spot, calls []int) ([]api.Spot, int, api.Errno) = road.Serve
	_ func(r api.Road, hands []api.Spot, calls []int) ([]int, api.Errno)           = road.Costs
	_ func(r api.Road, hands []api.Spot, calls []int) (int, api.Errno)             = road.Best
	_ func(r api.Road, hands []api.Spot, calls []int) ([]int, api.Errno)           = road.Plan
	_ func(r api.Road, hands []api.Spot, calls, plan []int) (int, api.Errno)       = road.Cost
	_ func(r api.Road, hands []api.Spot, calls []int) (int, api.Errno)             = road.Nearest
	_ func(r api.Road, a, b []api.Spot) (int, api.Errno)                           = road.Potential
)

var (
	_ func(s api.Shop, period, level int) (api.Num, api.Errno)             = stock.Cost
	_ func(s api.Shop, period, level int) (api.Num, api.Errno)             = stock.Value
	_ func(s api.Shop, period, level int) (int, api.Errno)                 = stock.Order
	_ func(s api.Shop) ([]api.Level, api.Errno)                            = stock.Levels
	_ func(s api.Shop, levels []api.Level, level int) (api.Num, api.Errno) = stock.Follow
	_ func(s api.Shop) (api.Num, api.Errno)                                = stock.Mean
	_ func(s api.Shop, period int) ([]int, api.Errno)                      = stock.Bends
)

var (
	_ func(word string) (int, api.Errno)                      = mark.Sum
	_ func(n, a int) (api.Num, api.Errno)                     = mark.Size
	_ func(n, a int) ([]string, api.Errno)                    = mark.Words
	_ func(n, a int, word string) (string, api.Errno)         = mark.Restore
	_ func(n, a int, word string) (string, api.Errno)         = mark.Remove
	_ func(word string) ([]string, api.Errno)                 = mark.Shorter
	_ func(word string) ([]string, api.Errno)                 = mark.Longer
	_ func(s, t string) (string, api.Errno)                   = mark.Common
	_ func(s, t string) (int, api.Errno)                      = mark.Distance
	_ func(digits string) (string, api.Errno)                 = mark.Steps
	_ func(n, q, a, b int) ([]string, api.Errno)              = mark.Digits
	_ func(n, q, a, b int, digits string) (string, api.Errno) = mark.Found
)

var (
	_ func(on []int, holder int) (*forge.Village, api.Errno) = forge.New
	_ func(v *forge.Village, smith int) api.Errno            = (*forge.Village).Want
	_ func(v *forge.Village, smith int) api.Errno            = (*forge.Village).Leave
	_ func(v *forge.Village, from, to int) api.Errno         = (*forge.Village).Deliver
	_ func(v *forge.Village) int                             = (*forge.Village).At
	_ func(v *forge.Village, smith int) int                  = (*forge.Village).Way
	_ func(v *forge.Village, smith int) bool                 = (*forge.Village).Asked
	_ func(v *forge.Village, smith int) []int                = (*forge.Village).List
	_ func(v *forge.Village) []api.Letter                    = (*forge.Village).Flight
	_ func(v *forge.Village) int                             = (*forge.Village).Sent
	_ func(v *forge.Village) *forge.Village                  = (*forge.Village).Clone
)

var (
	_ func() *book.Disk                                       = book.NewDisk
	_ func(d *book.Disk, name string, b []byte) api.Errno     = (*book.Disk).Append
	_ func(d *book.Disk, name string) api.Errno               = (*book.Disk).Sync
	_ func(d *book.Disk, to, from string) api.Errno           = (*book.Disk).Copy
	_ func(d *book.Disk, name string) api.Errno               = (*book.Disk).Remove
	_ func(d *book.Disk, name string) ([]byte, api.Errno)     = (*book.Disk).Read
	_ func(d *book.Disk) []string                             = (*book.Disk).Files
	_ func(d *book.Disk, n int)                               = (*book.Disk).Arm
	_ func(d *book.Disk, keep int)                            = (*book.Disk).Restart
	_ func(d *book.Disk) bool                                 = (*book.Disk).Down
	_ func(d *book.Disk) *book.Disk                           = (*book.Disk).Clone
	_ func(d *book.Disk) (*book.Book, api.Errno)              = book.Open
	_ func(b *book.Book, key, value string) api.Errno         = (*book.Book).Set
	_ func(b *book.Book, key string) api.Errno                = (*book.Book).Delete
	_ func(b *book.Book) api.Errno                            = (*book.Book).Sync
	_ func(b *book.Book) api.Errno                            = (*book.Book).Merge
	_ func(b *book.Book, key string) (string, api.Errno)      = (*book.Book).Get
	_ func(b *book.Book, prefix string) ([]string, api.Errno) = (*book.Book).Keys
	_ func(b *book.Book) (int, api.Errno)                     = (*book.Book).Last
	_ func(b *book.Book) bool                                 = (*book.Book).Broken
	_ func(b *book.Book) *book.Disk                           = (*book.Book).Disk
	_ func(b *book.Book) *book.Book                           = (*book.Book).Clone
)

var (
	_ func() *farrier.Farrier                      = farrier.New
	_ func(f *farrier.Farrier, line string) string = (*farrier.Farrier).Line
	_ func(f *farrier.Farrier) *farrier.Farrier    = (*farrier.Farrier).Clone
	_ func(s string) (string, api.Errno)           = farrier.Run
)

// TestCalls has nothing to do: this file compiles only if all calls are there.
func TestCalls(t *testing.T) {}
