package money_test

import (
	"math"
	"math/big"
	"slices"
	"testing"

	"tarmac/api"
	"tarmac/money"
)

const (
	most   = api.MaxMoney
	least  = -api.MaxMoney
	mostOf = 1 << 40
)

// numbers are the edges of amounts, of words and of halves, and some between; in each way they are taken for each argument.
func numbers() []int64 {
	l := []int64{0, 1, 2, 3, 7, 10, 99, 101, 1<<16 - 1, 1 << 16, 1<<25 - 1, 1 << 25, 1<<25 + 1, 1<<31 - 1, 1 << 31, 1<<32 - 1, 1 << 32, 1<<32 + 1,
		mostOf - 1, mostOf, mostOf + 1, 1<<49 - 1, 1 << 49, 1<<49 + 1, 123456789012345, most/3 - 1, most / 3, most/3 + 1, most - 1, most, most + 1, 1 << 51, 1 << 52, 1 << 62, math.MaxInt64 - 1, math.MaxInt64}
	for _, n := range slices.Clone(l) {
		l = append(l, -n)
	}
	return append(l, math.MinInt64)
}

// dice is a row of numbers that look thrown, the same at each run.
type dice uint64

func (d *dice) next() uint64 {
	*d = *d*6364136223846793005 + 1442695040888963407
	x := uint64(*d)
	return x ^ x>>29
}

// amount is one that may be, of any size.
func (d *dice) amount() int64 {
	a := int64(d.next() % (most + 1) >> (d.next() % 51))
	if d.next()%2 == 0 {
		return -a
	}
	return a
}

// mayBe tells whether a number, however great, is an amount that may be.
func mayBe(n *big.Int) bool {
	return n.CmpAbs(big.NewInt(most)) <= 0
}

// answer is what a call with the arguments should tell: what came, if that and the amounts handed in may be.
func answer(came *big.Int, handed ...int64) (int64, api.Errno) {
	for _, a := range handed {
		if !mayBe(big.NewInt(a)) {
			return 0, api.ErrOver
		}
	}
	if !mayBe(came) {
		return 0, api.ErrOver
	}
	return came.Int64(), api.OK
}

// two is a call with two numbers.
type two func(a, b int64) (int64, api.Errno)

// comes fails unless the call comes to the amount.
func comes(t *testing.T, name string, f two, a, b, want int64) {
	t.Helper()
	if n, e := f(a, b); n != want || e != api.OK {
		t.Errorf("%s(%d, %d) = %d, %v; want %d", name, a, b, n, e, want)
	}
}

// refuses fails unless the call is refused, with nothing beside the error.
func refuses(t *testing.T, name string, f two, a, b int64) {
	t.Helper()
	if n, e := f(a, b); n != 0 || e != api.ErrOver {
		t.Errorf("%s(%d, %d) = %d, %v; want 0, ErrOver", name, a, b, n, e)
	}
}

// sums fails unless the amounts come to the one, together.
func sums(t *testing.T, want int64, l ...int64) {
	t.Helper()
	if n, e := money.Sum(l...); n != want || e != api.OK {
		t.Errorf("Sum(%d) = %d, %v; want %d", l, n, e, want)
	}
}

// unsummed fails unless the sum is refused, with nothing beside the error.
func unsummed(t *testing.T, l ...int64) {
	t.Helper()
	if n, e := money.Sum(l...); n != 0 || e != api.ErrOver {
		t.Errorf("Sum(%d) = %d, %v; want 0, ErrOver", l, n, e)
	}
}

// parts fails unless the part has that whole part and that rest.
func parts(t *testing.T, a, n, of, whole, rest int64) {
	t.Helper()
	if w, r, e := money.Part(a, n, of); w != whole || r != rest || e != api.OK {
		t.Errorf("Part(%d, %d, %d) = %d, %d, %v; want %d, %d", a, n, of, w, r, e, whole, rest)
	}
}

// unparted fails unless the part is refused, with nothing beside the error.
func unparted(t *testing.T, a, n, of int64) {
	t.Helper()
	if w, r, e := money.Part(a, n, of); w != 0 || r != 0 || e != api.ErrOver {
		t.Errorf("Part(%d, %d, %d) = %d, %d, %v; want 0, 0, ErrOver", a, n, of, w, r, e)
	}
}

// P5.1: an amount may be from -MaxMoney to MaxMoney.
func TestCheck(t *testing.T) {
	for _, a := range []int64{least, least + 1, -101, -1, 0, 1, 101, most - 1, most} {
		if e := money.Check(a); e != api.OK {
			t.Errorf("Check(%d) = %v", a, e)
		}
	}
	for _, a := range []int64{math.MinInt64, math.MinInt64 + 1, -1 << 51, least - 1, most + 1, 1 << 51, math.MaxInt64 - 1, math.MaxInt64} {
		if e := money.Check(a); e != api.ErrOver {
			t.Errorf("Check(%d) = %v; want ErrOver", a, e)
		}
	}
}

// P5.2: Add is two amounts together.
func TestAdd(t *testing.T) {
	for _, x := range [][3]int64{{0, 0, 0}, {2, 3, 5}, {2, -5, -3}, {-1, 0, -1}, {-1, 1, 0}, {most, 0, most}, {most - 1, 1, most}, {most, least, 0}, {least, 0, least}, {least + 1, -1, least}, {most, -1, most - 1}, {least, 1, least + 1}, {1 << 49, 1 << 49, most}} {
		comes(t, "Add", money.Add, x[0], x[1], x[2])
		comes(t, "Add", money.Add, x[1], x[0], x[2])
	}
	for _, x := range [][2]int64{{most, 1}, {most, most}, {least, -1}, {least, least}, {1 << 49, 1<<49 + 1}, {-1 << 49, -1<<49 - 1}} {
		refuses(t, "Add", money.Add, x[0], x[1])
		refuses(t, "Add", money.Add, x[1], x[0])
	}
}

// P5.2: an amount that may not be is refused, though what comes may.
func TestAddOfWhatMayNotBe(t *testing.T) {
	for _, x := range [][2]int64{{most + 1, -1}, {least - 1, 1}, {most + 1, least}, {least - 1, most}, {most + 1, 0}, {least - 1, 0}, {math.MaxInt64, -math.MaxInt64}, {math.MaxInt64, math.MinInt64}, {math.MinInt64, math.MinInt64}, {math.MaxInt64, 1}, {math.MinInt64, -1}, {math.MinInt64, 0}} {
		refuses(t, "Add", money.Add, x[0], x[1])
		refuses(t, "Add", money.Add, x[1], x[0])
	}
}

// P5.2: Sub is an amount less another one.
func TestSub(t *testing.T) {
	for _, x := range [][3]int64{{0, 0, 0}, {2, 5, -3}, {5, 2, 3}, {-1, 0, -1}, {0, -1, 1}, {most, most, 0}, {least, least, 0}, {0, most, least}, {0, least, most}, {most, 1, most - 1}, {least, -1, least + 1}, {least + 1, 1, least}, {most - 1, -1, most}} {
		comes(t, "Sub", money.Sub, x[0], x[1], x[2])
	}
	for _, x := range [][2]int64{{least, 1}, {most, -1}, {most, least}, {least, most}, {1, least}, {-1, most}} {
		refuses(t, "Sub", money.Sub, x[0], x[1])
	}
}

// P5.2: an amount that may not be is refused, though what comes may; of the least number, whose negative goes round, too.
func TestSubOfWhatMayNotBe(t *testing.T) {
	for _, x := range [][2]int64{{most + 1, 1}, {least - 1, -1}, {0, most + 1}, {0, least - 1}, {1, most + 1}, {-1, least - 1}, {most + 1, most + 1}, {math.MinInt64, math.MinInt64}, {math.MaxInt64, math.MaxInt64}, {0, math.MinInt64}, {-1, math.MinInt64}, {least, math.MinInt64}, {math.MinInt64, 1}, {math.MinInt64, 0}} {
		refuses(t, "Sub", money.Sub, x[0], x[1])
	}
}

// P5.2: Mul is an amount taken any number of times.
func TestMul(t *testing.T) {
	for _, x := range [][3]int64{{1 << 49, 2, most}, {1 << 49, -2, least}, {-1 << 49, 2, least}, {-1 << 49, -2, most}, {-3, 7, -21}, {3, 7, 21}, {most, 1, most}, {most, -1, least}, {least, 1, least}, {least, -1, most}, {1, most, most}, {1, least, least}, {-1, least, most},
		{0, math.MinInt64, 0}, {0, math.MaxInt64, 0}, {0, most + 1, 0}, {most, 0, 0}, {least, 0, 0}, {0, 0, 0}, {3, most / 3, most - 1}, {1 << 25, 1 << 25, most}, {-1 << 25, 1 << 25, least}} {
		comes(t, "Mul", money.Mul, x[0], x[1], x[2])
	}
	for _, x := range [][2]int64{{1 << 49, 3}, {-1 << 49, 3}, {1 << 49, -3}, {most, 2}, {most, -2}, {least, 2}, {least, -2}, {1, most + 1}, {1, least - 1}, {-1, most + 1}, {-1, least - 1}, {3, most/3 + 1}, {-3, most/3 + 1}, {1 << 25, 1<<25 + 1}} {
		refuses(t, "Mul", money.Mul, x[0], x[1])
	}
}

// P5.2: what would go round to an amount that may be is refused.
func TestMulThatWouldGoRound(t *testing.T) {
	for _, x := range [][2]int64{{2, math.MinInt64}, {-2, math.MinInt64}, {4, 1 << 62}, {1 << 14, 1 << 50}, {1 << 32, 1 << 32}, {1 << 32, 1<<32 + 1}, {-1 << 50, 1 << 14}, {1, math.MinInt64}, {-1, math.MinInt64}, {1, math.MaxInt64}, {-1, math.MaxInt64}, {most, math.MinInt64}, {least, math.MaxInt64}, {3, 6148914691236517206}} {
		refuses(t, "Mul", money.Mul, x[0], x[1])
	}
}

// P5.2: an amount that may not be is refused, though none of it may be.
func TestMulOfWhatMayNotBe(t *testing.T) {
	for _, a := range []int64{most + 1, least - 1, math.MaxInt64, math.MinInt64} {
		for _, n := range []int64{0, 1, -1, 2, math.MaxInt64, math.MinInt64} {
			refuses(t, "Mul", money.Mul, a, n)
		}
	}
}

// P5.2: Sum is all amounts together, 0 of none.
func TestSum(t *testing.T) {
	sums(t, 0)
	sums(t, 0, []int64(nil)...)
	sums(t, 0, []int64{}...)
	sums(t, 6, 1, 2, 3)
	sums(t, -1, -1)
	sums(t, most, most)
	sums(t, least, least)
	sums(t, 0, most, least)
	sums(t, most, most, least, most, least, most)
	sums(t, most, most-1, 1, 0)
	sums(t, 0, least, most, least, most)
	sums(t, 100000, slices.Repeat([]int64{1}, 100000)...)
}

// P5.2: a sum is refused if one of it may not be, or the first ones together, though all may.
func TestSumRefused(t *testing.T) {
	unsummed(t, most, 1, -5)
	unsummed(t, least, -1, 5)
	unsummed(t, most, 1)
	unsummed(t, most+1)
	unsummed(t, least-1)
	unsummed(t, most+1, -1)
	unsummed(t, -1, most+1)
	unsummed(t, 1, least-1)
	unsummed(t, 1, 2, most, -3)
	unsummed(t, math.MaxInt64, math.MinInt64, 1)
	unsummed(t, math.MinInt64)
	unsummed(t, -1, math.MinInt64)
	unsummed(t, slices.Repeat([]int64{most}, 1<<14)...) // together 2^64, which goes round to 0
	unsummed(t, append(slices.Repeat([]int64{1}, 1000), most-999, least)...)
}

// P5.2: each two numbers at the edges, against sums without an end.
func TestTwosAtTheEdges(t *testing.T) {
	for _, a := range numbers() {
		for _, b := range numbers() {
			x, y := big.NewInt(a), big.NewInt(b)
			sum, esum := answer(new(big.Int).Add(x, y), a, b)
			less, eless := answer(new(big.Int).Sub(x, y), a, b)
			times, etimes := answer(new(big.Int).Mul(x, y), a)
			if n, e := money.Add(a, b); n != sum || e != esum {
				t.Errorf("Add(%d, %d) = %d, %v; want %d, %v", a, b, n, e, sum, esum)
			}
			if n, e := money.Sum(a, b); n != sum || e != esum {
				t.Errorf("Sum(%d, %d) = %d, %v; want %d, %v", a, b, n, e, sum, esum)
			}
			if n, e := money.Sub(a, b); n != less || e != eless {
				t.Errorf("Sub(%d, %d) = %d, %v; want %d, %v", a, b, n, e, less, eless)
			}
			if n, e := money.Mul(a, b); n != times || e != etimes {
				t.Errorf("Mul(%d, %d) = %d, %v; want %d, %v", a, b, n, e, times, etimes)
			}
		}
	}
}

// P5.3: the whole part of a times n over of, and the rest.
func TestPart(t *testing.T) {
	parts(t, 10, 1, 3, 3, 1)
	parts(t, 10, 2, 3, 6, 2)
	parts(t, 10, 3, 3, 10, 0)
	parts(t, 7, 0, 5, 0, 0)
	parts(t, 0, 5, 7, 0, 0)
	parts(t, 0, 0, 1, 0, 0)
	parts(t, 5, 1, 1, 5, 0)
	parts(t, 5, 0, 1, 0, 0)
	parts(t, most, 1, 1, most, 0)
	parts(t, most, 0, mostOf, 0, 0)
	parts(t, most, 1, mostOf, 1<<10, 0)
	parts(t, most, mostOf, mostOf, most, 0)
	parts(t, most, mostOf-1, mostOf, most-1<<10, 0)
	parts(t, most-1, mostOf-1, mostOf, most-1<<10-1, 1)
	parts(t, 1, mostOf-1, mostOf, 0, mostOf-1)
	parts(t, most-1, 1, mostOf, 1<<10-1, mostOf-1)
	parts(t, most, mostOf-2, mostOf-1, most-1<<10-1, mostOf-1<<10-1)
}

// P5.3: each of the six things that may not be, alone.
func TestPartRefused(t *testing.T) {
	unparted(t, -1, 1, 3)
	unparted(t, -1, 0, 1)
	unparted(t, least, 1, 3)
	unparted(t, math.MinInt64, 1, 1)
	unparted(t, most+1, 1, 3)
	unparted(t, most+1, 0, 1)
	unparted(t, math.MaxInt64, 1, 1)
	unparted(t, 10, -1, 3)
	unparted(t, 0, -1, 1)
	unparted(t, 10, math.MinInt64, 3)
	unparted(t, 10, 0, 0)
	unparted(t, 0, 0, 0)
	unparted(t, 10, -2, -1)
	unparted(t, 10, math.MinInt64, math.MinInt64)
	unparted(t, 10, 0, math.MinInt64)
	unparted(t, 5, 4, 3)
	unparted(t, 0, 2, 1)
	unparted(t, 5, mostOf+1, mostOf)
	unparted(t, 5, math.MaxInt64, 3)
	unparted(t, 10, 1, mostOf+1)
	unparted(t, 0, 0, mostOf+1)
	unparted(t, 10, mostOf+1, mostOf+1)
	unparted(t, 10, math.MaxInt64, math.MaxInt64)
	unparted(t, 10, 0, math.MaxInt64)
}

// checkPart fails unless the part is what division without an end makes it.
func checkPart(t *testing.T, a, n, of int64) {
	t.Helper()
	if a < 0 || a > most || n < 0 || of < 1 || n > of || of > mostOf {
		unparted(t, a, n, of)
		return
	}
	p := new(big.Int).Mul(big.NewInt(a), big.NewInt(n))
	w, r := new(big.Int).QuoRem(p, big.NewInt(of), new(big.Int))
	parts(t, a, n, of, w.Int64(), r.Int64())
}

// P5.3: each three numbers at the edges, and many between them, against division without an end.
func TestPartsAtTheEdgesAndBetween(t *testing.T) {
	for _, a := range numbers() {
		for _, n := range numbers() {
			for _, of := range numbers() {
				checkPart(t, a, n, of)
			}
		}
	}
	var d dice
	for range 200000 {
		of := int64(1 + d.next()%mostOf>>(d.next()%40))
		n := int64(d.next() % uint64(of+1))
		a := d.amount()
		checkPart(t, max(a, -a), n, of)
	}
}

// P5.4: Add and Sub are each other's; Add and Mul are alike both ways.
func TestTwosTogether(t *testing.T) {
	var d dice
	for range 100000 {
		a, b := d.amount(), d.amount()
		sum, e := money.Add(a, b)
		back, eb := money.Add(b, a)
		if sum != back || e != eb {
			t.Fatalf("Add(%d, %d) = %d, %v, and the other way %d, %v", a, b, sum, e, back, eb)
		}
		if e == api.OK {
			comes(t, "Sub", money.Sub, sum, b, a)
			comes(t, "Sub", money.Sub, sum, a, b)
		}
		if less, e := money.Sub(a, b); e == api.OK {
			comes(t, "Add", money.Add, less, b, a)
		}
		p, ep := money.Mul(a, b)
		q, eq := money.Mul(b, a)
		if p != q || ep != eq {
			t.Fatalf("Mul(%d, %d) = %d, %v, and the other way %d, %v", a, b, p, ep, q, eq)
		}
	}
}

// P5.4: Mul is that many Adds: the same amount, and refused where they are.
func TestMulIsAdds(t *testing.T) {
	for _, a := range []int64{0, 1, -1, 3, -7, most / 64, least / 64, most/100 + 1, 1 << 49, most, least} {
		var all int64
		e := api.OK
		for n := range int64(130) {
			p, ep := money.Mul(a, n)
			if p != all || ep != e {
				t.Errorf("Mul(%d, %d) = %d, %v; as many Adds are %d, %v", a, n, p, ep, all, e)
			}
			if e == api.OK {
				all, e = money.Add(all, a)
			}
		}
	}
}

// P5.4: parts by numbers that make up the whole are at most the amount, and lack less than one unit each; with their rests they are all of it.
func TestPartsOfTheWhole(t *testing.T) {
	var d dice
	for range 20000 {
		a := d.amount()
		a = max(a, -a)
		ns := make([]int64, 1+d.next()%6)
		var of int64
		for i := range ns {
			ns[i] = int64(d.next() % (mostOf / 8) >> (d.next() % 38))
			of += ns[i]
		}
		if of == 0 {
			continue
		}
		var all, rests int64
		for _, n := range ns {
			w, r, e := money.Part(a, n, of)
			if e != api.OK || r < 0 || r >= of {
				t.Fatalf("Part(%d, %d, %d) = %d, %d, %v", a, n, of, w, r, e)
			}
			all += w
			rests += r
		}
		if all > a || a-all >= int64(len(ns)) || rests != (a-all)*of {
			t.Fatalf("parts of %d by %d: %d, rests %d", a, ns, all, rests)
		}
	}
}

// R3: a list that is handed in is left as it is, with the room behind its end.
func TestSumLeavesItsList(t *testing.T) {
	l := []int64{1, 2, 3, 4, 5}
	sums(t, 6, l[:3]...)
	if !slices.Equal(l, []int64{1, 2, 3, 4, 5}) {
		t.Errorf("Sum changed its list: %d", l)
	}
}
