package amount_test

import (
	"math"
	"testing"

	"hanse/amount"
	"hanse/api"
)

const (
	great    = 1 << 20
	forever  = 1 << 40
	leastInt = -1 << 63
	mostInt  = 1<<63 - 1
)

// counts holds the edges of what a part may be, and ordinary numbers between.
func counts() []int {
	return []int{0, 1, 2, 3, 1000, great/2 - 1, great / 2, great/2 + 1, great - 1, great}
}

func noCounts() []int {
	return []int{leastInt, leastInt + 1, -forever, -great, -1, great + 1, 1 << 31, 1 << 32, 1<<32 + 1, 1<<53 + 1, mostInt - 1, mostInt}
}

func noTicks() []int {
	return []int{leastInt, leastInt + 1, -forever, -1, forever + 1, 2 * forever, mostInt - 1, mostInt}
}

func minusZero() float64 {
	return math.Copysign(0, -1)
}

func noParts() []float64 {
	least := math.SmallestNonzeroFloat64
	return []float64{
		0.5, 1.5, great - 0.5, great + 0.5, least, math.Nextafter(1, 0), math.Nextafter(1, 2), math.Nextafter(great, 0),
		-0.5, -1, -1.5, -great, -least, -math.MaxFloat64,
		math.Nextafter(great, 2*great), great + 1, 1 << 32, 1<<32 + 1, 1 << 53, 1 << 63, 1 << 64, 1e300, math.MaxFloat64,
		math.NaN(), math.Inf(1), math.Inf(-1),
	}
}

// amounts holds each pair of counts, and what a -0 may stand in.
func amounts() []complex128 {
	zero := minusZero()
	l := []complex128{complex(zero, 0), complex(0, zero), complex(zero, zero), complex(zero, 3), complex(3, zero), complex(great, zero)}
	for _, nodes := range counts() {
		for _, lics := range counts() {
			l = append(l, complex(float64(nodes), float64(lics)))
		}
	}
	return l
}

// noAmounts holds what is wrong in either part, beside a part that is right and one that is not.
func noAmounts() []complex128 {
	var l []complex128
	for _, p := range noParts() {
		for _, yes := range []float64{0, 5, great, minusZero()} {
			l = append(l, complex(p, yes), complex(yes, p))
		}
		for _, no := range noParts() {
			l = append(l, complex(p, no))
		}
	}
	return l
}

// must answers x, of a call that may not fail.
func must(t *testing.T, x complex128, e api.Errno) complex128 {
	t.Helper()
	if e != api.OK {
		t.Fatalf("error %d", e)
	}
	return x
}

// refused tells a fault, unless a call answered that error and nothing beside it.
func refused(t *testing.T, what string, args any, x complex128, e, want api.Errno) {
	t.Helper()
	if x != 0 || e != want {
		t.Errorf("%s%v = %v, %d; want 0, %d", what, args, x, e, want)
	}
}

// exactly tells whether x is y, and neither of its parts -0.
func exactly(x, y complex128) bool {
	return x == y && !math.Signbit(real(x)) && !math.Signbit(imag(x))
}

// below compares two amounts part by part.
func below(y, x complex128) bool {
	return real(y) <= real(x) && imag(y) <= imag(x)
}

// P2.1
func TestRight(t *testing.T) {
	for _, x := range amounts() {
		if !amount.Right(x) {
			t.Errorf("Right(%v) = false", x)
		}
	}
	for _, x := range noAmounts() {
		if amount.Right(x) {
			t.Errorf("Right(%v) = true", x)
		}
	}
}

// P2.1
func TestMakeAndParts(t *testing.T) {
	for _, n := range counts() {
		for _, m := range counts() {
			x, e := amount.Make(n, m)
			if !exactly(x, complex(float64(n), float64(m))) || e != api.OK {
				t.Errorf("Make(%d, %d) = %v, %d", n, m, x, e)
			}
			nodes, lics, e := amount.Parts(x)
			if nodes != n || lics != m || e != api.OK {
				t.Errorf("Parts(%v) = %d, %d, %d", x, nodes, lics, e)
			}
		}
	}
}

// P2.1: whichever of both is out of range.
func TestMakeRefuses(t *testing.T) {
	refuse := func(n, m int) {
		x, e := amount.Make(n, m)
		refused(t, "Make", []int{n, m}, x, e, api.ErrAmount)
	}
	for _, no := range noCounts() {
		for _, yes := range counts() {
			refuse(no, yes)
			refuse(yes, no)
		}
		for _, other := range noCounts() {
			refuse(no, other)
		}
	}
}

// P2.1, R5: a part that is -0 counts as 0.
func TestPartsOfMinusZero(t *testing.T) {
	zero := minusZero()
	for _, c := range []struct {
		x           complex128
		nodes, lics int
	}{{complex(zero, zero), 0, 0}, {complex(zero, 0), 0, 0}, {complex(zero, 7), 0, 7}, {complex(7, zero), 7, 0}, {complex(great, zero), great, 0}} {
		nodes, lics, e := amount.Parts(c.x)
		if nodes != c.nodes || lics != c.lics || e != api.OK {
			t.Errorf("Parts(%v) = %d, %d, %d", c.x, nodes, lics, e)
		}
	}
}

// P2.1
func TestPartsRefuses(t *testing.T) {
	for _, x := range noAmounts() {
		if nodes, lics, e := amount.Parts(x); nodes != 0 || lics != 0 || e != api.ErrAmount {
			t.Errorf("Parts(%v) = %d, %d, %d; want 0, 0, ErrAmount", x, nodes, lics, e)
		}
	}
}

// P2.2
func TestSum(t *testing.T) {
	zero := minusZero()
	for _, c := range []struct {
		l   []complex128
		sum complex128
	}{
		{nil, 0},
		{[]complex128{}, 0},
		{[]complex128{0}, 0},
		{[]complex128{0, 0}, 0},
		{[]complex128{3 + 2i}, 3 + 2i},
		{[]complex128{3, 2i}, 3 + 2i},
		{[]complex128{1 + 2i, 3, 4i}, 4 + 6i},
		{[]complex128{complex(zero, zero)}, 0},
		{[]complex128{complex(zero, 1), complex(zero, 2)}, 3i},
		{[]complex128{complex(1, zero), complex(2, zero)}, 3},
		{[]complex128{great + great*1i}, great + great*1i},
		{[]complex128{great, great * 1i}, great + great*1i},
		{[]complex128{great - 1 + 5i, 1}, great + 5i},
		{[]complex128{5 + (great-1)*1i, 1i}, 5 + great*1i},
		{[]complex128{great / 2, 0, great / 2}, great},
		{[]complex128{great + great*1i, 0, complex(zero, zero)}, great + great*1i},
	} {
		if x, e := amount.Sum(c.l...); !exactly(x, c.sum) || e != api.OK {
			t.Errorf("Sum%v = %v, %d; want %v", c.l, x, e, c.sum)
		}
	}
	if x, e := amount.Sum(); !exactly(x, 0) || e != api.OK {
		t.Errorf("Sum() = %v, %d; want 0", x, e)
	}
}

// P2.2: many that are small make one that is great, and one above it.
func TestSumOfMany(t *testing.T) {
	l := make([]complex128, 1024)
	for i := range l {
		l[i] = 1024 + 1023i
	}
	if x, e := amount.Sum(l...); !exactly(x, great+(great-1024)*1i) || e != api.OK {
		t.Errorf("Sum of many = %v, %d", x, e)
	}
	x, e := amount.Sum(append(l, 1)...)
	refused(t, "Sum", "of many and one", x, e, api.ErrAmount)
	for i := range l {
		l[i] = great + great*1i
	}
	x, e = amount.Sum(l...)
	refused(t, "Sum", "of many great ones", x, e, api.ErrAmount)
}

// P2.2: each is an amount, but not their sum.
func TestSumRefusesWhatIsTooGreat(t *testing.T) {
	for _, l := range [][]complex128{
		{great, 1},
		{great * 1i, 1i},
		{1, great},
		{1i, great * 1i},
		{great + great*1i, 1},
		{great + great*1i, 1i},
		{great * 1i, 5, 1i},
		{great, great},
		{great / 2, great / 2, 1},
		{great / 2, great/2 + 1 + 1i, 0},
	} {
		x, e := amount.Sum(l...)
		refused(t, "Sum", l, x, e, api.ErrAmount)
	}
}

// P2.2, P2.3: wherever among the others the wrong one stands, and where two of them make an amount.
func TestSumAndJoinRefuse(t *testing.T) {
	refuse := func(l ...complex128) {
		x, e := amount.Sum(l...)
		refused(t, "Sum", l, x, e, api.ErrAmount)
		x, e = amount.Join(l...)
		refused(t, "Join", l, x, e, api.ErrAmount)
	}
	for _, no := range noAmounts() {
		refuse(no)
		refuse(no, 3, 1i)
		refuse(3, no, 1i)
		refuse(3, 1i, no)
		refuse(great+great*1i, no)
		refuse(no, great+great*1i)
		refuse(no, no)
	}
	refuse(0.5, 0.5)
	refuse(0.5i, 0.5i)
	refuse(5, -1)
	refuse(-1, 5)
	refuse(-1i, 5i)
	refuse(great+1, -1)
}

// P2.2
func TestFitsAndLess(t *testing.T) {
	zero := minusZero()
	for _, c := range []struct {
		x, y, left complex128
		fits       bool
	}{
		{3 + 2i, 1 + 2i, 2, true},
		{3 + 2i, 3 + 1i, 1i, true},
		{3 + 2i, 3 + 2i, 0, true},
		{3 + 2i, 0, 3 + 2i, true},
		{3 + 2i, 4, 0, false},
		{3 + 2i, 3i, 0, false},
		{3 + 2i, 4 + 1i, 0, false},
		{3 + 2i, 1 + 3i, 0, false},
		{3 + 2i, 4 + 3i, 0, false},
		{0, 0, 0, true},
		{0, 1, 0, false},
		{0, 1i, 0, false},
		{0, great + great*1i, 0, false},
		{complex(zero, zero), 0, 0, true},
		{0, complex(zero, zero), 0, true},
		{complex(zero, 5), 2i, 3i, true},
		{complex(5, zero), 2, 3, true},
		{complex(zero, zero), complex(zero, zero), 0, true},
		{complex(zero, zero), 1, 0, false},
		{great + great*1i, great + great*1i, 0, true},
		{great + great*1i, 1 + 1i, great - 1 + (great-1)*1i, true},
		{great + great*1i, 0, great + great*1i, true},
		{great + 5i, great + 6i, 0, false},
		{great - 1 + 5i, great + 5i, 0, false},
	} {
		if fits := amount.Fits(c.y, c.x); fits != c.fits {
			t.Errorf("Fits(%v, %v) = %v", c.y, c.x, fits)
		}
		x, e := amount.Less(c.x, c.y)
		if !c.fits {
			refused(t, "Less", []complex128{c.x, c.y}, x, e, api.ErrLess)
		} else if !exactly(x, c.left) || e != api.OK {
			t.Errorf("Less(%v, %v) = %v, %d; want %v", c.x, c.y, x, e, c.left)
		}
	}
}

// P2.2, R4: what is no amount is told ahead of what does not fit.
func TestFitsAndLessRefuse(t *testing.T) {
	refuse := func(x, y complex128) {
		if amount.Fits(y, x) {
			t.Errorf("Fits(%v, %v) = true", y, x)
		}
		left, e := amount.Less(x, y)
		refused(t, "Less", []complex128{x, y}, left, e, api.ErrAmount)
	}
	for _, no := range noAmounts() {
		for _, yes := range []complex128{0, 3 + 2i, 7, 7i, great + great*1i, complex(minusZero(), minusZero())} {
			refuse(no, yes)
			refuse(yes, no)
		}
		refuse(no, no)
	}
	refuse(2.5, 0.5)
	refuse(2.5i, 0.5i)
	refuse(-1, -2)
	refuse(great+2, great+1)
	refuse(great+1, 1)
	refuse(3, 3.5)
}

// P2.3
func TestJoin(t *testing.T) {
	zero := minusZero()
	for _, c := range []struct {
		l    []complex128
		join complex128
	}{
		{nil, 0},
		{[]complex128{}, 0},
		{[]complex128{0}, 0},
		{[]complex128{3 + 2i}, 3 + 2i},
		{[]complex128{3 + 1i, 1 + 2i}, 3 + 2i},
		{[]complex128{1 + 2i, 3 + 1i}, 3 + 2i},
		{[]complex128{3 + 1i, 1 + 2i, 2}, 3 + 2i},
		{[]complex128{1 + 1i, 1 + 1i}, 1 + 1i},
		{[]complex128{5, 0, 7i}, 5 + 7i},
		{[]complex128{complex(zero, zero)}, 0},
		{[]complex128{complex(zero, 3), complex(2, zero)}, 2 + 3i},
		{[]complex128{0, complex(zero, zero), 0}, 0},
		{[]complex128{great, great * 1i}, great + great*1i},
		{[]complex128{great + great*1i, great + great*1i}, great + great*1i},
		{[]complex128{great - 1, great, 1}, great},
	} {
		if x, e := amount.Join(c.l...); !exactly(x, c.join) || e != api.OK {
			t.Errorf("Join%v = %v, %d; want %v", c.l, x, e, c.join)
		}
	}
	if x, e := amount.Join(); !exactly(x, 0) || e != api.OK {
		t.Errorf("Join() = %v, %d; want 0", x, e)
	}
}

// P2.3
func TestArea(t *testing.T) {
	for _, c := range []struct {
		x       complex128
		d, area int
	}{
		{3 + 2i, 10, 30},
		{3 + 2i, 0, 0},
		{3 + 2i, 1, 3},
		{9i, 10, 0},
		{great * 1i, forever, 0},
		{0, forever, 0},
		{complex(minusZero(), 4), forever, 0},
		{complex(3, minusZero()), 10, 30},
		{1, forever, forever},
		{1, forever - 1, forever - 1},
		{3, forever - 1, 3*forever - 3},
		{great, forever, 1 << 60},
		{great + great*1i, forever, 1 << 60},
		{great, forever - 1, 1<<60 - great},
		{great - 1, forever, 1<<60 - forever},
		{great - 1, forever - 1, 1<<60 - forever - great + 1},
		{great, 0, 0},
		{great, 1, great},
	} {
		if n, e := amount.Area(c.x, c.d); n != c.area || e != api.OK {
			t.Errorf("Area(%v, %d) = %d, %d; want %d", c.x, c.d, n, e, c.area)
		}
	}
}

// P2.3, R4: what is no amount is told ahead of what is no tick.
func TestAreaRefuses(t *testing.T) {
	refuse := func(x complex128, d int, want api.Errno) {
		if n, e := amount.Area(x, d); n != 0 || e != want {
			t.Errorf("Area(%v, %d) = %d, %d; want 0, %d", x, d, n, e, want)
		}
	}
	for _, d := range noTicks() {
		for _, x := range amounts() {
			refuse(x, d, api.ErrTick)
		}
		for _, x := range noAmounts() {
			refuse(x, d, api.ErrAmount)
		}
	}
	for _, x := range noAmounts() {
		refuse(x, 0, api.ErrAmount)
		refuse(x, 10, api.ErrAmount)
		refuse(x, forever, api.ErrAmount)
	}
}

// R2: what is handed in stays as it was bit by bit, and so does its spare room, which is not read either.
func TestListsStayAsTheyWere(t *testing.T) {
	zero := minusZero()
	lists := func() [][]complex128 {
		return [][]complex128{
			{complex(zero, 3), 2 + 9i, complex(5, zero), great, complex(math.NaN(), -1)}, // all three may be summed
			{great + 9i, 2, 1i, great, -1},       // the sum is too great
			{7, 0.5, complex(zero, zero), 4, -1}, // one is no amount
			{0, complex(zero, zero), 0, 1.5, 5},  // nothing but 0
		}
	}
	for i, whole := range lists() {
		l := whole[:3]
		amount.Sum(l...)
		amount.Join(l...)
		for k, x := range lists()[i] {
			if !sameBits(whole[k], x) {
				t.Errorf("list %d: %v stands where %v was", i, whole[k], x)
			}
		}
	}
	whole := lists()[0][:3]
	if x, e := amount.Sum(whole...); x != 7+12i || e != api.OK {
		t.Errorf("Sum of a piece = %v, %d", x, e)
	}
	if x, e := amount.Join(whole...); x != 5+9i || e != api.OK {
		t.Errorf("Join of a piece = %v, %d", x, e)
	}
	if x, e := amount.Sum(whole[:0]...); x != 0 || e != api.OK {
		t.Errorf("Sum of an empty piece = %v, %d", x, e)
	}
}

func sameBits(x, y complex128) bool {
	return math.Float64bits(real(x)) == math.Float64bits(real(y)) && math.Float64bits(imag(x)) == math.Float64bits(imag(y))
}

// P2.4: what was added can be taken away again.
func TestLessTakesAwayWhatSumAdded(t *testing.T) {
	for _, x := range amounts() {
		for _, y := range amounts() {
			sum, e := amount.Sum(x, y)
			if real(x)+real(y) > great || imag(x)+imag(y) > great {
				refused(t, "Sum", []complex128{x, y}, sum, e, api.ErrAmount)
				continue
			}
			must(t, sum, e)
			left, e := amount.Less(sum, y)
			if !exactly(must(t, left, e), x) {
				t.Errorf("Less(Sum(%v, %v), %v) = %v", x, y, y, left)
			}
			left, e = amount.Less(sum, x)
			if !exactly(must(t, left, e), y) {
				t.Errorf("Less(Sum(%v, %v), %v) = %v", x, y, x, left)
			}
		}
	}
}

// P2.4: what was taken away can be added again.
func TestSumAddsWhatLessTookAway(t *testing.T) {
	for _, x := range amounts() {
		for _, y := range amounts() {
			left, e := amount.Less(x, y)
			if !below(y, x) {
				refused(t, "Less", []complex128{x, y}, left, e, api.ErrLess)
				continue
			}
			must(t, left, e)
			sum, e := amount.Sum(left, y)
			if must(t, sum, e) != x {
				t.Errorf("Sum(Less(%v, %v), %v) = %v", x, y, y, sum)
			}
		}
	}
}

// P2.4: Fits is an order, part by part.
func TestFitsIsAnOrder(t *testing.T) {
	for _, x := range amounts() {
		if !amount.Fits(x, x) {
			t.Errorf("%v does not fit into itself", x)
		}
		for _, y := range amounts() {
			if amount.Fits(y, x) != below(y, x) {
				t.Errorf("Fits(%v, %v) = %v", y, x, !below(y, x))
			}
			if amount.Fits(y, x) && amount.Fits(x, y) && x != y {
				t.Errorf("%v and %v fit into each other", x, y)
			}
			for _, z := range amounts() {
				if amount.Fits(z, y) && amount.Fits(y, x) && !amount.Fits(z, x) {
					t.Errorf("%v fits into %v, that into %v, but not the first into the last", z, y, x)
				}
			}
		}
	}
}

// P2.4: Join is the least that all fit into, whatever their order.
func TestJoinIsTheLeast(t *testing.T) {
	for _, x := range amounts() {
		for _, y := range amounts() {
			join, e := amount.Join(x, y)
			must(t, join, e)
			if !amount.Fits(x, join) || !amount.Fits(y, join) {
				t.Errorf("not both fit into Join(%v, %v) = %v", x, y, join)
			}
			other, e := amount.Join(y, x)
			if must(t, other, e) != join {
				t.Errorf("Join of %v and %v hangs on their order", x, y)
			}
			for _, z := range amounts() {
				if amount.Fits(x, z) && amount.Fits(y, z) && !amount.Fits(join, z) {
					t.Errorf("both fit into %v, but not Join(%v, %v) = %v", z, x, y, join)
				}
			}
		}
	}
}
