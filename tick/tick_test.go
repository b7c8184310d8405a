package tick_test

import (
	"math/big"
	"slices"
	"testing"

	"hanse/api"
	"hanse/tick"
)

const (
	forever  = 1 << 40
	term     = 1 << 20
	leastInt = -1 << 63
	mostInt  = 1<<63 - 1
)

// ticks holds the edges of what is a tick, and ordinary ones between.
func ticks() []int {
	return []int{0, 1, 2, 3, 7, 1000, term - 1, term, term + 1, forever / 3, forever / 2, forever/2 + 1, forever - 2, forever - 1, forever}
}

func noTicks() []int {
	return []int{leastInt, leastInt + 1, -forever, -term, -2, -1, forever + 1, forever + 2, 2 * forever, mostInt - 1, mostInt}
}

func nums() []int {
	return []int{0, 1, 2, 3, 5, 1000, term - 1, term}
}

func noNums() []int {
	return []int{leastInt, -forever, -1, term + 1, forever, mostInt}
}

func dens() []int {
	return []int{1, 2, 3, 5, 1000, term - 1, term}
}

func noDens() []int {
	return []int{leastInt, leastInt + 1, -forever, -1, 0, term + 1, forever, mostInt}
}

// must answers n, of a call that may not fail.
func must(t *testing.T, n int, e api.Errno) int {
	t.Helper()
	if e != api.OK {
		t.Fatalf("error %d", e)
	}
	return n
}

// refused tells a fault, unless a call answered ErrTick and nothing beside it.
func refused(t *testing.T, what string, args []int, n int, e api.Errno) {
	t.Helper()
	if n != 0 || e != api.ErrTick {
		t.Errorf("%s%v = %d, %d; want 0, ErrTick", what, args, n, e)
	}
}

// P1.1
func TestRight(t *testing.T) {
	for _, x := range ticks() {
		if !tick.Right(x) {
			t.Errorf("Right(%d) = false", x)
		}
	}
	for _, x := range noTicks() {
		if tick.Right(x) {
			t.Errorf("Right(%d) = true", x)
		}
	}
}

// P1.2
func TestAddAndSub(t *testing.T) {
	for _, x := range []struct{ t, d, sum, less int }{
		{0, 0, 0, 0},
		{3, 5, 8, 0},
		{5, 3, 8, 2},
		{5, 5, 10, 0},
		{5, 6, 11, 0},
		{0, forever, forever, 0},
		{7, forever, forever, 0},
		{forever - 1, forever, forever, 0},
		{forever - 1, 0, forever - 1, forever - 1},
		{forever - 1, 1, forever, forever - 2},
		{forever - 1, 2, forever, forever - 3},
		{forever - 1, forever - 1, forever, 0},
		{forever - 2, 1, forever - 1, forever - 3},
		{forever / 2, forever / 2, forever, 0},
		{forever/2 - 1, forever / 2, forever - 1, 0},
		{forever, 0, forever, forever},
		{forever, 1, forever, forever},
		{forever, 5, forever, forever},
		{forever, forever - 1, forever, forever},
		{forever, forever, forever, forever},
	} {
		if n, e := tick.Add(x.t, x.d); n != x.sum || e != api.OK {
			t.Errorf("Add(%d, %d) = %d, %d; want %d", x.t, x.d, n, e, x.sum)
		}
		if n, e := tick.Sub(x.t, x.d); n != x.less || e != api.OK {
			t.Errorf("Sub(%d, %d) = %d, %d; want %d", x.t, x.d, n, e, x.less)
		}
	}
}

// P1.2: whichever of both is no tick.
func TestAddAndSubRefuse(t *testing.T) {
	refuse := func(a, b int) {
		n, e := tick.Add(a, b)
		refused(t, "Add", []int{a, b}, n, e)
		n, e = tick.Sub(a, b)
		refused(t, "Sub", []int{a, b}, n, e)
	}
	for _, no := range noTicks() {
		for _, yes := range ticks() {
			refuse(no, yes)
			refuse(yes, no)
		}
		for _, other := range noTicks() {
			refuse(no, other)
		}
	}
}

// P1.3
func TestShares(t *testing.T) {
	for _, x := range []struct{ t, num, den, down, up int }{
		{7, 1, 2, 3, 4},
		{8, 1, 2, 4, 4},
		{9, 2, 3, 6, 6},
		{10, 2, 3, 6, 7},
		{11, 2, 3, 7, 8},
		{7, 3, 1, 21, 21},
		{0, 1, 1, 0, 0},
		{0, term, 1, 0, 0},
		{9, 0, 1, 0, 0},
		{9, 0, term, 0, 0},
		{1, 1, term, 0, 1},
		{term, 1, term, 1, 1},
		{term - 1, 1, term, 0, 1},
		{term + 1, 1, term, 1, 2},
		{term, term, 1, forever, forever},
		{term - 1, term, 1, forever - term, forever - term},
		{forever - 1, 0, 1, 0, 0},
		{forever - 1, 1, 1, forever - 1, forever - 1},
		{forever - 1, 1, term, term - 1, term},
		{forever - 1, term, term, forever - 1, forever - 1},
		{forever - 1, term, term - 1, forever, forever},
		{forever - 1, term - 1, term, forever - term - 1, forever - term},
		{forever - 1, 2, 1, forever, forever},
		{forever - 1, term, 1, forever, forever},
		{forever / 2, 2, 1, forever, forever},
		{forever/2 - 1, 2, 1, forever - 2, forever - 2},
		{forever, 0, 1, forever, forever},
		{forever, 0, term, forever, forever},
		{forever, 1, 2, forever, forever},
		{forever, 1, term, forever, forever},
		{forever, term, 1, forever, forever},
		{forever, term, term, forever, forever},
	} {
		if n, e := tick.Share(x.t, x.num, x.den); n != x.down || e != api.OK {
			t.Errorf("Share(%d, %d, %d) = %d, %d; want %d", x.t, x.num, x.den, n, e, x.down)
		}
		if n, e := tick.ShareUp(x.t, x.num, x.den); n != x.up || e != api.OK {
			t.Errorf("ShareUp(%d, %d, %d) = %d, %d; want %d", x.t, x.num, x.den, n, e, x.up)
		}
	}
}

// P1.3: Forever, too, is refused beside a wrong num or den.
func TestSharesRefuse(t *testing.T) {
	refuse := func(a, num, den int) {
		n, e := tick.Share(a, num, den)
		refused(t, "Share", []int{a, num, den}, n, e)
		n, e = tick.ShareUp(a, num, den)
		refused(t, "ShareUp", []int{a, num, den}, n, e)
	}
	for _, num := range nums() {
		for _, den := range dens() {
			for _, no := range noTicks() {
				refuse(no, num, den)
			}
		}
	}
	for _, a := range append(ticks(), noTicks()...) {
		for _, no := range noNums() {
			for _, den := range append(dens(), noDens()...) {
				refuse(a, no, den)
			}
		}
		for _, no := range noDens() {
			for _, num := range nums() {
				refuse(a, num, no)
			}
		}
	}
}

// P1.4
func TestLeast(t *testing.T) {
	for _, x := range []struct {
		l     []int
		least int
	}{
		{nil, forever},
		{[]int{}, forever},
		{[]int{0}, 0},
		{[]int{5}, 5},
		{[]int{forever - 1}, forever - 1},
		{[]int{forever}, forever},
		{[]int{forever, forever}, forever},
		{[]int{forever, forever - 1}, forever - 1},
		{[]int{2, 4, 9}, 2},
		{[]int{4, 2, 9}, 2},
		{[]int{9, 4, 2}, 2},
		{[]int{2, 2}, 2},
		{[]int{forever, 0, forever}, 0},
	} {
		if n, e := tick.Least(x.l...); n != x.least || e != api.OK {
			t.Errorf("Least(%v) = %d, %d; want %d", x.l, n, e, x.least)
		}
	}
	if n, e := tick.Least(); n != forever || e != api.OK {
		t.Errorf("Least() = %d, %d; want Forever", n, e)
	}
}

// P1.4: wherever among the others the wrong one stands, behind a 0 too.
func TestLeastRefuses(t *testing.T) {
	for _, no := range noTicks() {
		for _, l := range [][]int{{no}, {no, 3, 0}, {3, no, 0}, {3, 0, no}, {no, no}} {
			n, e := tick.Least(l...)
			refused(t, "Least", l, n, e)
		}
	}
}

// P1.4, R2: what is handed in stays as it was, its spare room too.
func TestLeastLeavesItsList(t *testing.T) {
	whole := []int{9, 2, 7, 1, -1}
	if n, e := tick.Least(whole[:3]...); n != 2 || e != api.OK {
		t.Errorf("Least of a piece = %d, %d; want 2", n, e)
	}
	if !slices.Equal(whole, []int{9, 2, 7, 1, -1}) {
		t.Errorf("Least made of its list %v", whole)
	}
}

// P1.5: Add goes by any order, of two and of three.
func TestAddGoesByAnyOrder(t *testing.T) {
	add := func(a, b int) int {
		n, e := tick.Add(a, b)
		return must(t, n, e)
	}
	for _, a := range ticks() {
		for _, b := range ticks() {
			if add(a, b) != add(b, a) {
				t.Errorf("Add of %d and %d hangs on their order", a, b)
			}
			for _, c := range ticks() {
				if add(add(a, b), c) != add(a, add(b, c)) {
					t.Errorf("Add of %d, %d and %d hangs on their order", a, b, c)
				}
			}
		}
	}
}

// P1.5: below Forever, Sub takes away what Add added.
func TestSubTakesAwayWhatAddAdded(t *testing.T) {
	for _, a := range ticks() {
		for _, b := range ticks() {
			n, e := tick.Add(a, b)
			sum := must(t, n, e)
			if sum == forever {
				continue
			}
			n, e = tick.Sub(sum, b)
			if must(t, n, e) != a {
				t.Errorf("Sub(Add(%d, %d), %d) = %d", a, b, b, n)
			}
		}
	}
}

// P1.5: Share and ShareUp enclose the share as it is, where Forever does not end it, and are 1 apart unless it is whole.
func TestSharesEnclose(t *testing.T) {
	for _, a := range ticks() {
		for _, num := range nums() {
			for _, den := range dens() {
				n, e := tick.Share(a, num, den)
				down := must(t, n, e)
				n, e = tick.ShareUp(a, num, den)
				up := must(t, n, e)
				wantDown, wantUp := exactShare(a, num, den)
				if down != wantDown || up != wantUp {
					t.Errorf("Share, ShareUp(%d, %d, %d) = %d, %d; want %d, %d", a, num, den, down, up, wantDown, wantUp)
				}
				if down > up || up-down > 1 {
					t.Errorf("Share, ShareUp(%d, %d, %d) = %d, %d: not 0 or 1 apart", a, num, den, down, up)
				}
			}
		}
	}
}

// exactShare works with numbers that have no end, so that what runs over an int shows.
func exactShare(a, num, den int) (down, up int) {
	if a == forever {
		return forever, forever
	}
	product := new(big.Int).Mul(big.NewInt(int64(a)), big.NewInt(int64(num)))
	share, rest := new(big.Int).QuoRem(product, big.NewInt(int64(den)), new(big.Int))
	if share.Cmp(big.NewInt(forever)) >= 0 {
		return forever, forever
	}
	down = int(share.Int64())
	return down, down + rest.Sign()
}
