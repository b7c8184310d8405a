package profile_test

import (
	"slices"
	"testing"

	"hanse/api"
	"hanse/profile"
)

// model is a profile as the chapter tells it, for spans that begin and end at the ticks of an axis:
// what is free from each of these to the next one, its nodes and its licences.
type model struct {
	axis []int
	cap  [2]int
	free [][2]int
}

func modelOf(axis []int, nodes, lics int) *model {
	m := &model{axis: axis, cap: [2]int{nodes, lics}}
	for range axis {
		m.free = append(m.free, m.cap)
	}
	return m
}

func (m *model) twin() *model {
	return &model{m.axis, m.cap, slices.Clone(m.free)}
}

// end answers the tick at which the cell ends.
func (m *model) end(cell int) int {
	if cell+1 < len(m.axis) {
		return m.axis[cell+1]
	}
	return forever
}

// change is what Take (sign -1) and Give (sign 1) do.
func (m *model) change(b api.Busy, sign int) api.Errno {
	if b.From < 0 || b.From >= b.To || b.To > forever {
		return api.ErrSpan
	}
	next := slices.Clone(m.free)
	for cell := range m.axis {
		if m.end(cell) <= b.From || m.axis[cell] >= b.To {
			continue
		}
		for part, need := range []int{int(real(b.Need)), int(imag(b.Need))} {
			next[cell][part] += sign * need
			if next[cell][part] < 0 || next[cell][part] > m.cap[part] {
				return api.ErrRoom
			}
		}
	}
	m.free = next
	return api.OK
}

func (m *model) at(t int) complex128 {
	for cell := range m.axis {
		if m.axis[cell] <= t && t < m.end(cell) {
			return complex(float64(m.free[cell][0]), float64(m.free[cell][1]))
		}
	}
	return 0
}

func (m *model) steps() []api.Step {
	var l []api.Step
	for cell, at := range m.axis {
		if cell == 0 || m.free[cell] != m.free[cell-1] {
			l = append(l, step(at, m.at(at)))
		}
	}
	return l
}

func (m *model) fits(b api.Busy) bool {
	return m.twin().change(b, -1) == api.OK
}

// earliest tries `from`, and then each tick at which anything may change.
func (m *model) earliest(need complex128, dur, from int) found {
	if from < 0 || dur < 1 {
		return found{}
	}
	for _, at := range append([]int{from}, m.axis...) {
		if at >= from && at+dur <= forever && m.fits(busy(at, at+dur, need)) {
			return found{at, true}
		}
	}
	return found{}
}

// act is a call: what it takes, or gives back.
type act struct {
	b    api.Busy
	give bool
}

// both does the act to a profile and to its model, and tells whether they answer alike.
func both(p *profile.Profile, m *model, a act) bool {
	if a.give {
		return p.Give(a.b) == m.change(a.b, 1)
	}
	return p.Fits(a.b) == m.fits(a.b) && p.Take(a.b) == m.change(a.b, -1)
}

// agrees tells a fault, unless the profile shows what the model has.
func agrees(t *testing.T, p *profile.Profile, m *model) {
	t.Helper()
	if got, want := p.Steps(), m.steps(); !slices.Equal(got, want) {
		t.Fatalf("Steps: %v, want %v", got, want)
	}
}

// P8.1 to P8.5: all scripts of five acts, each act done to a twin, so that those behind it begin where it ended.
func TestAllShortScripts(t *testing.T) {
	spans := []api.Busy{busy(0, 2, 1), busy(1, 4, 1), busy(2, forever, 1+1i), busy(0, forever, 2), busy(3, 4, 1i), busy(forever-1, forever, 2)}
	var acts []act
	for _, b := range spans {
		acts = append(acts, act{b, false}, act{b, true})
	}
	var walk func(p *profile.Profile, m *model, left int)
	walk = func(p *profile.Profile, m *model, left int) {
		agrees(t, p, m)
		at, is := p.Earliest(1, 2, 1)
		if want := m.earliest(1, 2, 1); want != (found{at, is}) {
			t.Fatalf("Earliest: %d, %v, want %v, of %v", at, is, want, p.Steps())
		}
		if left == 0 {
			return
		}
		for _, a := range acts {
			q, n := p.Twin(), m.twin()
			if !both(q, n, a) {
				t.Fatalf("%v answers another thing than its model, of %v", a, p.Steps())
			}
			walk(q, n, left-1)
		}
		agrees(t, p, m)
	}
	walk(made(t, 2+1i), modelOf([]int{0, 1, 2, 3, 4, forever - 1}, 2, 1), 5)
}

// axis is the first ticks, and the last ones.
func axis() []int {
	var l []int
	for at := range 30 {
		l = append(l, at)
	}
	for at := forever - 12; at < forever; at++ {
		l = append(l, at)
	}
	return l
}

// chance answers numbers below a bound, that have no rule to be seen.
func chance(seed int) func(below int) int {
	x := uint32(seed)
	return func(below int) int {
		x = x*1664525 + 1013904223
		return int(x>>8) % below
	}
}

// span answers a span at ticks of the axis, or one tick beyond it.
func span(next func(int) int, l []int) (from, to int) {
	ends := append(slices.Clone(l), forever, forever)
	from, to = ends[next(len(l))], ends[next(len(ends))]
	switch next(20) {
	case 0:
		return from - 1, to
	case 1:
		return from, to + 1
	case 2:
		return to, from
	}
	if from >= to {
		return from, min(from+1+next(3), forever)
	}
	return from, to
}

// P8.1 to P8.4: scripts of many acts, each of them held against the model.
func TestLongScripts(t *testing.T) {
	for seed := range 120 {
		next := chance(seed)
		nodes, lics := next(9), next(4)
		p, m := made(t, complex(float64(nodes), float64(lics))), modelOf(axis(), nodes, lics)
		for range 150 {
			from, to := span(next, m.axis)
			if !onAxis(m, from) || !onAxis(m, to) {
				continue
			}
			need := complex(float64(next(nodes/2+2)), float64(next(lics/2+2)))
			if !both(p, m, act{busy(from, to, need), next(3) == 0}) {
				t.Fatalf("seed %d: %d to %d of %v: another answer than the model's, of %v", seed, from, to, need, p.Steps())
			}
			agrees(t, p, m)
			asks(t, p, m, next)
		}
	}
}

// onAxis tells whether the model can hold a change at that tick.
func onAxis(m *model, at int) bool {
	return at < 0 || at >= forever || slices.Contains(m.axis, at)
}

// asks tells a fault, unless At and Earliest answer what the model does.
func asks(t *testing.T, p *profile.Profile, m *model, next func(int) int) {
	t.Helper()
	for range 4 {
		at := m.axis[next(len(m.axis))] + next(3) - 1
		if p.At(at) != m.at(at) {
			t.Fatalf("At(%d): %v, want %v", at, p.At(at), m.at(at))
		}
		need := complex(float64(next(m.cap[0]+2)), float64(next(m.cap[1]+1)))
		for _, dur := range []int{1 + next(6), 1 + next(40), forever - 12 + next(14) - at, forever - next(30)} {
			a, is := p.Earliest(need, dur, at)
			if want := m.earliest(need, dur, at); want != (found{a, is}) {
				t.Fatalf("Earliest(%v, %d, %d): %d, %v, want %v, of %v", need, dur, at, a, is, want, p.Steps())
			}
		}
	}
}

// taken answers spans that all fit into nodes and licences, and a profile in which they are taken.
func taken(t *testing.T, next func(int) int, nodes, lics int) ([]api.Busy, *profile.Profile) {
	t.Helper()
	p := made(t, complex(float64(nodes), float64(lics)))
	var l []api.Busy
	for range 25 {
		from := next(40)
		b := busy(from, from+1+next(15), complex(float64(next(4)), float64(next(3))))
		if next(6) == 0 {
			b.To = forever
		}
		if p.Take(b) == api.OK {
			l = append(l, b)
		}
	}
	return l, p
}

// shuffled answers the list in another order.
func shuffled(l []api.Busy, next func(int) int) []api.Busy {
	l = slices.Clone(l)
	for i := range l {
		j := i + next(len(l)-i)
		l[i], l[j] = l[j], l[i]
	}
	return l
}

// P8.6: the order in which all that fits is taken is not seen.
func TestOrderIsNotSeen(t *testing.T) {
	for seed := range 200 {
		next := chance(seed)
		l, p := taken(t, next, 7, 3)
		for range 5 {
			q := made(t, 7+3i, shuffled(l, next)...)
			shows(t, q, p.Steps()...)
		}
	}
}

// P8.6: what was taken and is given back changes nothing, in whichever order.
func TestWhatIsGivenBack(t *testing.T) {
	for seed := range 200 {
		next := chance(seed)
		l, p := taken(t, next, 7, 3)
		from := next(40)
		more := busy(from, from+1+next(30), complex(float64(next(3)), float64(next(2))))
		now := stays(t, p)
		if p.Take(more) == api.OK {
			gives(t, p, more, api.OK)
		}
		now("what was taken and given back")
		for _, b := range shuffled(l, next) {
			gives(t, p, b, api.OK)
		}
		shows(t, p, step(0, 7+3i))
	}
}

// P8.6: nothing is free beyond cap, or below 0, whatever is taken and given.
func TestNothingBeyondCap(t *testing.T) {
	for seed := range 100 {
		next := chance(seed)
		p := made(t, 5+2i)
		for range 120 {
			from := next(20)
			b := busy(from, from+1+next(9), complex(float64(next(5)), float64(next(3))))
			if next(2) == 0 {
				p.Take(b)
			} else {
				p.Give(b)
			}
			for _, s := range p.Steps() {
				if real(s.Free) < 0 || real(s.Free) > 5 || imag(s.Free) < 0 || imag(s.Free) > 2 {
					t.Fatalf("%v is free of 5 + 2i", s)
				}
			}
		}
	}
}
