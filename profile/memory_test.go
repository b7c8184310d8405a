package profile_test

import (
	"reflect"
	"slices"
	"testing"

	"hanse/api"
	"hanse/profile"
)

// room answers where a list's memory begins and ends, spare room too.
func room[T any](l []T) (from, to uintptr) {
	v := reflect.ValueOf(l)
	return v.Pointer(), v.Pointer() + uintptr(cap(l))*v.Type().Elem().Size()
}

// apart tells a fault, if two lists share memory, spare room too.
func apart[S, T any](t *testing.T, what string, one []S, other []T) {
	t.Helper()
	a, b := room(one)
	c, d := room(other)
	if a < b && c < d && a < d && c < b {
		t.Errorf("%s share memory", what)
	}
}

// spoil overwrites a list and its spare room.
func spoil[T any](l []T, with T) {
	l = l[:cap(l)]
	for i := range l {
		l[i] = with
	}
}

// given is a list with spare room, all of it, and how much of it is handed in.
func given() ([]api.Busy, int) {
	return []api.Busy{busy(5, 9, 2), busy(7, 12, 1), busy(20, forever, 1i), busy(0, forever, 3), busy(6, 6, 9), busy(-1, -1, -1)}, 3
}

// R2: what is handed in stays as it was, its spare room too, whether it is refused or not.
func TestNewLeavesItsList(t *testing.T) {
	for n := range 7 {
		l, _ := given()
		was := slices.Clone(l)
		p, e := profile.New(3+1i, l[:n]...)
		if e == api.OK {
			p.Take(busy(0, 3, 1))
			p.Give(busy(5, 9, 2))
			p.Take(busy(5, 9, 1))
			q := p.Twin()
			q.Take(busy(30, 40, 1))
			spoil(p.Steps(), step(1, 1))
			spoil(q.Steps(), step(1, 1))
		}
		if !slices.Equal(l, was) {
			t.Errorf("New of %d: its list became %v", n, l)
		}
	}
}

// R2, P8.1: what was handed in may be changed then without the profile changing.
func TestNewKeepsNoList(t *testing.T) {
	for n := range 4 {
		l, _ := given()
		p := made(t, 3+1i, l[:n]...)
		now := stays(t, p)
		spoil(l, busy(0, forever, 1))
		now("a list that was handed in")
		p.Take(busy(1, 2, 1))
		q := p.Twin()
		now = stays(t, q)
		spoil(l, busy(2, 3, 1+1i))
		p.Take(busy(1, 2, 1))
		now("a list that was handed in")
	}
}

// R2: what Steps answers is new memory, spare room too.
func TestStepsIsNewMemory(t *testing.T) {
	for n := range 4 {
		l, _ := given()
		p := made(t, 3+1i, l[:n]...)
		q := p.Twin()
		one, other, twins := p.Steps(), p.Steps(), q.Steps()
		apart(t, "two answers", one, other)
		apart(t, "the answers of twins", one, twins)
		apart(t, "an answer and an argument", one, l)
		now, twin := stays(t, p), stays(t, q)
		want := slices.Clone(other)
		spoil(one, step(3, 9))
		if !slices.Equal(other, want) || !slices.Equal(twins, want) {
			t.Error("one answer changed another one")
		}
		_ = append(other[:1], step(4, 8), step(5, 8), step(6, 8), step(7, 8), step(8, 8), step(9, 8), step(10, 8))
		now("an answer")
		twin("an answer")
	}
}

// R2: what Steps answered stays, whatever is done then, its spare room too.
func TestStepsStays(t *testing.T) {
	for name, change := range map[string]func(p *profile.Profile){
		"Take":          func(p *profile.Profile) { p.Take(busy(0, 2, 1)) },
		"Take of all":   func(p *profile.Profile) { p.Take(busy(0, forever, 1)) },
		"Take of more":  func(p *profile.Profile) { p.Take(busy(0, forever, 3)) },
		"Give":          func(p *profile.Profile) { p.Give(busy(5, 6, 1)) },
		"Give and Take": func(p *profile.Profile) { p.Give(busy(5, 9, 2)); p.Take(busy(5, 9, 1)) },
		"many": func(p *profile.Profile) {
			for at := range 50 {
				p.Take(busy(100+2*at, 101+2*at, 1))
			}
		},
		"asking": func(p *profile.Profile) { tell(p) },
		"a twin": func(p *profile.Profile) { p.Twin().Take(busy(0, 2, 1)) },
	} {
		p := made(t, 3+1i, busy(5, 9, 2))
		l := p.Steps()
		want, spare := slices.Clone(l), slices.Clone(l[:cap(l)])
		change(p)
		if !slices.Equal(l, want) || !slices.Equal(l[:cap(l)], spare) {
			t.Errorf("%s changed what Steps answered: %v, was %v", name, l, want)
		}
	}
}

// R3: two profiles have nothing in common, even if they were made of one list.
func TestProfilesHaveNothingInCommon(t *testing.T) {
	for n := range 4 {
		l, _ := given()
		one, other := made(t, 3+1i, l[:n]...), made(t, 3+1i, l[:n]...)
		now := stays(t, other)
		one.Take(busy(1, 4, 1))
		one.Take(busy(0, forever, 1i))
		one.Give(busy(5, 7, 1))
		one.Take(busy(forever-9, forever-4, 1))
		now("another profile")
		if p := made(t, 3+1i, l[:n]...); !reflect.DeepEqual(tell(p), tell(other)) {
			t.Errorf("a new profile shows what an earlier one took: %v", p.Steps())
		}
	}
}
