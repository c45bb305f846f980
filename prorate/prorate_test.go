package prorate_test

import (
	"math"
	"math/big"
	"slices"
	"testing"

	"tarmac/api"
	"tarmac/prorate"
)

const (
	most    = api.MaxMoney
	heavy   = math.MaxUint32
	longest = api.MaxShares
)

// dice is a row of numbers that look thrown, the same at each run.
type dice uint64

func (d *dice) next() uint64 {
	*d = *d*6364136223846793005 + 1442695040888963407
	x := uint64(*d)
	return x ^ x>>29
}

// total is one that may be, of any size.
func (d *dice) total() int64 {
	return int64(d.next() % (most + 1) >> (d.next() % 51))
}

// weights are at least one, not all 0: of any sizes, often equal ones.
func (d *dice) weights() []uint32 {
	w := make([]uint32, 1+d.next()%longest)
	far := d.next() % 32
	for i := range w {
		w[i] = uint32(d.next()) >> (d.next() % 3) >> far
	}
	w[d.next()%uint64(len(w))]++
	if slices.Max(w) == 0 { // the one that was made greater went round
		w[0] = heavy
	}
	return w
}

// row is a list of so many weights of one size.
func row(n int, w uint32) []uint32 {
	return slices.Repeat([]uint32{w}, n)
}

// shares fails unless the total is shared so.
func shares(t *testing.T, total int64, weights []uint32, want ...int64) {
	t.Helper()
	if l, e := prorate.Share(total, weights); !slices.Equal(l, want) || e != api.OK {
		t.Errorf("Share(%d, %d) = %d, %v; want %d", total, weights, l, e, want)
	}
}

// refuses fails unless Share, and Index of every number, refuse with the error and nothing beside it.
func refuses(t *testing.T, want api.Errno, total int64, weights []uint32) {
	t.Helper()
	if l, e := prorate.Share(total, weights); len(l) != 0 || e != want {
		t.Errorf("Share(%d, %d) = %d, %v; want %v", total, weights, l, e, want)
	}
	for _, at := range []int{math.MinInt, -1, 0, len(weights) - 1, len(weights), math.MaxInt} {
		unindexed(t, want, total, weights, at)
	}
}

// unindexed fails unless Index refuses with the error and nothing beside it.
func unindexed(t *testing.T, want api.Errno, total int64, weights []uint32, at int) {
	t.Helper()
	if n, e := prorate.Index(total, weights, at); n != 0 || e != want {
		t.Errorf("Index(%d, %d, %d) = %d, %v; want 0, %v", total, weights, at, n, e, want)
	}
}

// P6.1: each weight has its whole share, and of what is left those of the greatest rests one unit each.
func TestShare(t *testing.T) {
	shares(t, 10, []uint32{1, 1, 1}, 4, 3, 3)
	shares(t, 100, []uint32{1, 2, 4}, 14, 29, 57)
	shares(t, 5, []uint32{0, 3, 0}, 0, 5, 0)
	shares(t, 101, []uint32{1, 1}, 51, 50)
	shares(t, 10, []uint32{1, 2}, 3, 7)
	shares(t, 10, []uint32{2, 1}, 7, 3)
	shares(t, 7, []uint32{9}, 7)
	shares(t, 100, []uint32{10, 20, 31, 40}, 10, 20, 31, 39) // whole shares 9 19 30 39, rests 91 81 70 61
	shares(t, 3, []uint32{5, 1, 2, 3, 4}, 1, 0, 0, 1, 1)     // whole shares 1 0 0 0 0, rests 0 3 6 9 12
}

// P6.1: of equal rests the ones that stand first are given the units.
func TestShareOfEqualRests(t *testing.T) {
	shares(t, 2, row(4, 1), 1, 1, 0, 0)
	shares(t, 1, []uint32{0, 0, 1, 1, 1}, 0, 0, 1, 0, 0)
	shares(t, 3, []uint32{1, 2, 1, 2, 1, 2}, 0, 1, 0, 1, 0, 1)
	shares(t, 4, []uint32{1, 2, 1, 2, 1, 2}, 1, 1, 0, 1, 0, 1)
	shares(t, 2, []uint32{1, 2, 1, 2, 1, 2}, 0, 1, 0, 1, 0, 0)
	shares(t, 1, []uint32{1, 3, 1, 3, 1}, 0, 1, 0, 0, 0)
	for n := range longest {
		want := slices.Concat(slices.Repeat([]int64{8}, n), slices.Repeat([]int64{7}, longest-n))
		shares(t, int64(7*longest+n), row(longest, 1), want...)
		shares(t, int64(7*longest+n), row(longest, heavy), want...)
	}
}

// P6.1: totals and weights at their edges.
func TestShareAtTheEdges(t *testing.T) {
	shares(t, 0, []uint32{1}, 0)
	shares(t, 0, []uint32{1, 0, heavy}, 0, 0, 0)
	shares(t, 1, []uint32{heavy}, 1)
	shares(t, 1, []uint32{heavy - 1, heavy}, 0, 1)
	shares(t, 1, []uint32{heavy, heavy}, 1, 0)
	shares(t, most, []uint32{1}, most)
	shares(t, most, []uint32{heavy}, most)
	shares(t, most, []uint32{0, heavy, 0}, 0, most, 0)
	shares(t, most, []uint32{1, heavy}, 1<<18, most-1<<18)
	shares(t, most, row(longest, heavy), slices.Repeat([]int64{most / longest}, longest)...)
	shares(t, most-1, row(longest, heavy), append(slices.Repeat([]int64{most / longest}, longest-1), most/longest-1)...)
	shares(t, 5, append(make([]uint32, longest-1), 1), append(make([]int64, longest-1), 5)...)
}

// P6.1: each error, for the thing that it is told for.
func TestShareRefused(t *testing.T) {
	refuses(t, api.ErrLong, 1, row(longest+1, 1))
	refuses(t, api.ErrLong, 1, row(1000, heavy))
	refuses(t, api.ErrWeight, 7, nil)
	refuses(t, api.ErrWeight, 7, []uint32{})
	refuses(t, api.ErrWeight, 7, []uint32{0})
	refuses(t, api.ErrWeight, 0, []uint32{0, 0})
	refuses(t, api.ErrWeight, most, make([]uint32, longest))
	for _, total := range []int64{-1, -most, -most - 1, math.MinInt64, most + 1, math.MaxInt64} {
		refuses(t, api.ErrOver, total, []uint32{1})
		refuses(t, api.ErrOver, total, []uint32{0, heavy, 0})
		refuses(t, api.ErrOver, total, row(longest, heavy))
	}
}

// P6.1, R5: of two errors the first one is told.
func TestShareRefusedTwice(t *testing.T) {
	for _, total := range []int64{-1, math.MinInt64, most + 1, math.MaxInt64} {
		refuses(t, api.ErrLong, total, row(longest+1, 1))
		refuses(t, api.ErrLong, total, make([]uint32, longest+1))
		refuses(t, api.ErrWeight, total, nil)
		refuses(t, api.ErrWeight, total, make([]uint32, longest))
	}
	refuses(t, api.ErrLong, 1, make([]uint32, longest+1))
}

// P6.2: Index is the share of that number.
func TestIndex(t *testing.T) {
	var d dice
	for range 300 {
		total, weights := d.total(), d.weights()
		l, e := prorate.Share(total, weights)
		if e != api.OK {
			t.Fatalf("Share(%d, %d): %v", total, weights, e)
		}
		for at, want := range l {
			if n, e := prorate.Index(total, weights, at); n != want || e != api.OK {
				t.Fatalf("Index(%d, %d, %d) = %d, %v; want %d", total, weights, at, n, e, want)
			}
		}
	}
}

// P6.2: a number that there is not is ErrArg, after each error of Share.
func TestIndexRefused(t *testing.T) {
	for _, weights := range [][]uint32{{1}, {1, 2, 4}, {0, heavy}, row(longest, 3)} {
		for _, at := range []int{-1, math.MinInt, len(weights), len(weights) + 1, longest, math.MaxInt} {
			unindexed(t, api.ErrArg, 100, weights, at)
			unindexed(t, api.ErrOver, -1, weights, at)
		}
	}
	room := row(longest, 1)[:2]
	unindexed(t, api.ErrArg, 100, room, 2) // there is room behind the end, but no weight
}

// byHand shares out with fractions: the whole part of each, then unit for unit to the greatest rest, each once.
func byHand(total int64, weights []uint32) []int64 {
	all := new(big.Int)
	for _, w := range weights {
		all.Add(all, big.NewInt(int64(w)))
	}
	l, rests := make([]int64, len(weights)), make([]*big.Int, len(weights))
	left := total
	for i, w := range weights {
		p := new(big.Int).Mul(big.NewInt(total), big.NewInt(int64(w)))
		whole, rest := p.QuoRem(p, all, new(big.Int))
		l[i], rests[i] = whole.Int64(), rest
		left -= l[i]
	}
	for ; left > 0; left-- {
		best := 0
		for i, r := range rests {
			if r.Cmp(rests[best]) > 0 {
				best = i
			}
		}
		l[best]++
		rests[best] = big.NewInt(-1)
	}
	return l
}

// P6.1: many totals and weights, against fractions without an end.
func TestShareByHand(t *testing.T) {
	var d dice
	for range 5000 {
		total, weights := d.total(), d.weights()
		shares(t, total, weights, byHand(total, weights)...)
	}
}

// P6.1: all small weights and totals, against fractions.
func TestSmallSharesByHand(t *testing.T) {
	for n := 1; n <= 4; n++ {
		for code := 1; code < 1<<(2*n); code++ {
			weights := make([]uint32, n)
			for i := range weights {
				weights[i] = uint32(code >> (2 * i) & 3)
			}
			for total := range int64(14) {
				shares(t, total, weights, byHand(total, weights)...)
			}
		}
	}
}

// follows fails unless the shares are as the promise says.
func follows(t *testing.T, total int64, weights []uint32, l []int64) {
	t.Helper()
	var sum, all int64
	for i, w := range weights {
		sum += l[i]
		all += int64(w)
		for j, v := range weights {
			if w > v && l[i] < l[j] {
				t.Errorf("%d by %d: the weight %d has %d, the weight %d has %d", total, weights, w, l[i], v, l[j])
			}
		}
		if w == 0 && l[i] != 0 {
			t.Errorf("%d by %d: a weight of 0 has %d", total, weights, l[i])
		}
	}
	if sum != total {
		t.Errorf("%d by %d: %d in all", total, weights, sum)
	}
	for i, w := range weights {
		p := new(big.Int).Mul(big.NewInt(total), big.NewInt(int64(w)))
		whole := p.Quo(p, big.NewInt(all)).Int64()
		if l[i] != whole && l[i] != whole+1 {
			t.Errorf("%d by %d: %d at %d, whose whole share is %d", total, weights, l[i], i, whole)
		}
	}
}

// P6.3: the shares make up the total; each is whole, or one more; 0 has 0; a greater weight has no less.
func TestWhatFollows(t *testing.T) {
	var d dice
	for range 2000 {
		total, weights := d.total(), d.weights()
		l, e := prorate.Share(total, weights)
		if e != api.OK || len(l) != len(weights) {
			t.Fatalf("Share(%d, %d) = %d, %v", total, weights, l, e)
		}
		follows(t, total, weights, l)
	}
	for _, total := range []int64{0, 1, 63, most - 1, most} {
		for _, weights := range [][]uint32{{1}, row(longest, heavy), {heavy, heavy - 1, heavy, 1, 0}, {0, 1, 0, 2, 0}} {
			l, e := prorate.Share(total, weights)
			if e != api.OK || len(l) != len(weights) {
				t.Fatalf("Share(%d, %d) = %d, %v", total, weights, l, e)
			}
			follows(t, total, weights, l)
		}
	}
}

// P6.3: weights that are all taken k times have the same shares.
func TestWeightsTakenManyTimes(t *testing.T) {
	var d dice
	for range 3000 {
		total, weights := d.total(), d.weights()
		l, _ := prorate.Share(total, weights)
		k := heavy / slices.Max(weights)
		k = uint32(1 + d.next()%uint64(k))
		times := slices.Clone(weights)
		for i := range times {
			times[i] *= k
		}
		shares(t, total, times, l...)
	}
	shares(t, 100, []uint32{heavy / 4, heavy / 4 * 2, heavy / 4 * 4}, 14, 29, 57)
}

// R3: the weights that are handed in stay as they were, with the room behind their end; what is handed out is new.
func TestNothingShared(t *testing.T) {
	whole := []uint32{3, 1, 2, 1, 77, 78}
	weights := whole[:4]
	l, _ := prorate.Share(100, weights)
	prorate.Index(100, weights, 2)
	if !slices.Equal(whole, []uint32{3, 1, 2, 1, 77, 78}) {
		t.Errorf("the weights are now %d", whole)
	}
	for i := range l[:cap(l)] {
		l[:cap(l)][i] = -1
	}
	shares(t, 100, weights, 43, 14, 29, 14)
	if !slices.Equal(whole, []uint32{3, 1, 2, 1, 77, 78}) {
		t.Errorf("the weights are now %d", whole)
	}
}
