package disk_test

import (
	"strings"
	"testing"

	"hanse/api"
	"hanse/disk"
)

const (
	leastInt = -1 << 63
	mostInt  = 1<<63 - 1
)

// laid is a disk with these bytes synced, and these behind them that are not.
func laid(t *testing.T, synced, rest string) *disk.Disk {
	t.Helper()
	d := disk.New()
	answers(t, "Append", d.Append([]byte(synced)), api.OK)
	answers(t, "Sync", d.Sync(), api.OK)
	answers(t, "Append", d.Append([]byte(rest)), api.OK)
	holds(t, d, synced+rest, len(synced))
	return d
}

func answers(t *testing.T, what string, e, want api.Errno) {
	t.Helper()
	if e != want {
		t.Errorf("%s: %d; want %d", what, e, want)
	}
}

// holds tells a fault, unless the power is on and the disk has just these bytes, so many of them synced.
func holds(t *testing.T, d *disk.Disk, s string, synced int) {
	t.Helper()
	b, e := d.Read()
	if string(b) != s || e != api.OK || d.Synced() != synced || d.Off() {
		t.Errorf("%.40q (of %d), %d, synced %d, off %v; want %.40q (of %d), synced %d", b, len(b), e, d.Synced(), d.Off(), s, len(s), synced)
	}
}

// isOff tells a fault, unless the power is off, and so many bytes are synced.
func isOff(t *testing.T, d *disk.Disk, synced int) {
	t.Helper()
	b, e := d.Read()
	if b != nil || e != api.ErrOff || d.Synced() != synced || !d.Off() {
		t.Errorf("%q, %d, synced %d, off %v; want the power off, synced %d", b, e, d.Synced(), d.Off(), synced)
	}
}

// leaves tells a fault, unless the power is off, so many bytes are synced, and these are left behind a start.
func leaves(t *testing.T, d *disk.Disk, synced int, s string) {
	t.Helper()
	isOff(t, d, synced)
	d.Start()
	holds(t, d, s, len(s))
}

// stroke is a call that may be tripped, and what it leaves of bytes, if it is not.
type stroke struct {
	name string
	do   func(d *disk.Disk) api.Errno
	left func(s string) string
}

func all(s string) string { return s }

func nothing(string) string { return "" }

func half(s string) string { return s[:len(s)/2] }

// cutTo is a Cut that leaves what left does.
func cutTo(left func(s string) string) func(d *disk.Disk) api.Errno {
	return func(d *disk.Disk) api.Errno {
		b, _ := d.Read()
		return d.Cut(len(left(string(b))))
	}
}

func swapTo(s string) stroke {
	return stroke{"Swap to " + s, func(d *disk.Disk) api.Errno { return d.Swap([]byte(s)) }, func(string) string { return s }}
}

func strokes() []stroke {
	return []stroke{
		{"Sync", (*disk.Disk).Sync, all},
		{"Cut nothing away", cutTo(all), all},
		{"Cut", cutTo(half), half},
		{"Cut all away", cutTo(nothing), nothing},
		swapTo(""), swapTo("n"), swapTo("new bytes"),
	}
}

// beginnings is what may stand on a disk: synced, and not.
func beginnings() [][2]string {
	return [][2]string{{"", ""}, {"ab", ""}, {"", "cd"}, {"ab", "cd"}, {"abcdefg", "h"}, {"a", "bcdefgh"}}
}

// keeps is how many bytes of these a crash may be asked to keep.
func keeps(rest int) []int {
	l := []int{leastInt, leastInt + 1, -1 << 32, -2, -1, rest + 1, rest + 2, 1 << 31, 1 << 32, mostInt - rest, mostInt - 1, mostInt}
	for n := range rest + 1 {
		l = append(l, n)
	}
	return l
}

// kept is what a crash leaves of them.
func kept(rest string, keep int) string {
	if keep < 0 {
		return ""
	}
	if keep > len(rest) {
		return rest
	}
	return rest[:keep]
}

// P6.1
func TestNew(t *testing.T) {
	d := disk.New()
	if d == nil {
		t.Fatal("no disk")
	}
	holds(t, d, "", 0)
	for _, s := range strokes() {
		d := disk.New()
		answers(t, s.name, s.do(d), api.OK)
		holds(t, d, s.left(""), len(s.left("")))
	}
}

// P6.1: the bytes stand behind the others, whichever they are, and those that are synced stay so.
func TestAppend(t *testing.T) {
	d := disk.New()
	want := ""
	for _, s := range []string{"a", "bc", "", "d", "\x00", "\xff\x80", strings.Repeat("long", 1000), "e", "f"} {
		answers(t, "Append", d.Append([]byte(s)), api.OK)
		want += s
		holds(t, d, want, 0)
	}
	answers(t, "Sync", d.Sync(), api.OK)
	synced := len(want)
	for _, s := range []string{"g", "", "hi", strings.Repeat("longer", 2000), "j"} {
		answers(t, "Append", d.Append([]byte(s)), api.OK)
		want += s
		holds(t, d, want, synced)
	}
}

// P6.1: no byte, or nil, changes nothing.
func TestAppendNothing(t *testing.T) {
	for _, s := range beginnings() {
		d := laid(t, s[0], s[1])
		for _, b := range [][]byte{nil, {}, []byte("x")[:0]} {
			answers(t, "Append", d.Append(b), api.OK)
			holds(t, d, s[0]+s[1], len(s[0]))
		}
	}
}

// P6.1: it is one whether bytes come in one piece or in several.
func TestAppendInPieces(t *testing.T) {
	long := strings.Repeat("0123456789abc", 40)
	for size := 1; size <= len(long); size += 1 + size/3 {
		d := laid(t, "ab", "")
		for from := 0; from < len(long); from += size {
			answers(t, "Append", d.Append([]byte(long[from:min(from+size, len(long))])), api.OK)
		}
		holds(t, d, "ab"+long, 2)
		answers(t, "Cut", d.Cut(300), api.OK)
		holds(t, d, ("ab" + long)[:300], 300)
	}
	grown := disk.New()
	for size := range 60 {
		grown.Append([]byte(long[:size]))
	}
	shrunk := disk.New()
	for size := range 60 {
		shrunk.Append([]byte(long[:60-size]))
	}
	up, down := "", ""
	for size := range 60 {
		up, down = up+long[:size], down+long[:60-size]
	}
	holds(t, grown, up, 0)
	holds(t, shrunk, down, 0)
}

// P6.1: many small pieces are no burden.
func TestAppendManyPieces(t *testing.T) {
	const many = 1 << 18
	d := disk.New()
	want := make([]byte, many)
	for i := range want {
		want[i] = byte(i * i >> 3)
		d.Append(want[i : i+1])
	}
	holds(t, d, string(want), 0)
	d.Crash(many - 1)
	leaves(t, d, 0, string(want[:many-1]))
}

// P6.1, P6.2: with the power off each call answers ErrOff, ahead of any other error, and changes nothing.
func TestWithThePowerOff(t *testing.T) {
	for _, s := range beginnings() {
		for name, call := range map[string]func(d *disk.Disk) api.Errno{
			"Append":         func(d *disk.Disk) api.Errno { return d.Append([]byte("xyz")) },
			"Append nothing": func(d *disk.Disk) api.Errno { return d.Append(nil) },
			"Sync":           func(d *disk.Disk) api.Errno { return d.Sync() },
			"Cut":            func(d *disk.Disk) api.Errno { return d.Cut(1) },
			"Cut 0":          func(d *disk.Disk) api.Errno { return d.Cut(0) },
			"Cut all":        func(d *disk.Disk) api.Errno { return d.Cut(len(s[0] + s[1])) },
			"Cut -1":         func(d *disk.Disk) api.Errno { return d.Cut(-1) },
			"Cut too much":   func(d *disk.Disk) api.Errno { return d.Cut(99) },
			"Cut most":       func(d *disk.Disk) api.Errno { return d.Cut(mostInt) },
			"Cut least":      func(d *disk.Disk) api.Errno { return d.Cut(leastInt) },
			"Swap":           func(d *disk.Disk) api.Errno { return d.Swap([]byte("xyz")) },
			"Swap nothing":   func(d *disk.Disk) api.Errno { return d.Swap(nil) },
			"Read": func(d *disk.Disk) api.Errno {
				b, e := d.Read()
				if b != nil {
					t.Errorf("Read = %q", b)
				}
				return e
			},
		} {
			d := laid(t, s[0], s[1])
			d.Crash(mostInt)
			for range 2 {
				answers(t, name, call(d), api.ErrOff)
				isOff(t, d, len(s[0]))
			}
			leaves(t, d, len(s[0]), s[0]+s[1])
		}
	}
}

// P6.2
func TestSync(t *testing.T) {
	for _, s := range beginnings() {
		d := laid(t, s[0], s[1])
		for range 2 {
			answers(t, "Sync", d.Sync(), api.OK)
			holds(t, d, s[0]+s[1], len(s[0]+s[1]))
		}
		d.Crash(0)
		leaves(t, d, len(s[0]+s[1]), s[0]+s[1])
	}
}

// P6.2: whichever bytes are synced, the first n are left, and are synced.
func TestCut(t *testing.T) {
	for _, s := range beginnings() {
		whole := s[0] + s[1]
		for n := range len(whole) + 1 {
			d := laid(t, s[0], s[1])
			answers(t, "Cut", d.Cut(n), api.OK)
			holds(t, d, whole[:n], n)
			d.Append([]byte("xyz"))
			holds(t, d, whole[:n]+"xyz", n)
			d.Crash(1)
			leaves(t, d, n, whole[:n]+"x")
		}
	}
}

// P6.2: one byte after the other, of bytes that came in many pieces.
func TestCutPieces(t *testing.T) {
	d := disk.New()
	whole := ""
	for size := 40; size > 0; size-- {
		s := strings.Repeat(string(rune('A'+size)), size)
		d.Append([]byte(s))
		whole += s
	}
	for n := len(whole); n >= 0; n-- {
		answers(t, "Cut", d.Cut(n), api.OK)
		holds(t, d, whole[:n], n)
	}
}

// P6.2: what is no number of bytes there, changes nothing.
func TestCutRefuses(t *testing.T) {
	for _, s := range beginnings() {
		whole := s[0] + s[1]
		for _, n := range []int{-1, -2, -1 << 32, leastInt + 1, leastInt, len(whole) + 1, len(whole) + 2, 1 << 31, 1 << 32, mostInt - 1, mostInt} {
			d := laid(t, s[0], s[1])
			answers(t, "Cut", d.Cut(n), api.ErrSpan)
			holds(t, d, whole, len(s[0]))
		}
	}
}

// P6.2: fewer, as many, more bytes than there were, and none.
func TestSwap(t *testing.T) {
	for _, s := range beginnings() {
		for _, b := range [][]byte{nil, {}, []byte("n"), []byte("new"), []byte("newbytes"), []byte(strings.Repeat("new", 1000))} {
			d := laid(t, s[0], s[1])
			for range 2 {
				answers(t, "Swap", d.Swap(b), api.OK)
				holds(t, d, string(b), len(b))
			}
			d.Append([]byte("xyz"))
			holds(t, d, string(b)+"xyz", len(b))
			d.Crash(2)
			leaves(t, d, len(b), string(b)+"xy")
		}
	}
}

// P6.3, P6.4: what is synced, and the first of the others.
func TestCrash(t *testing.T) {
	for _, s := range beginnings() {
		for _, keep := range keeps(len(s[1])) {
			d := laid(t, s[0], s[1])
			d.Crash(keep)
			leaves(t, d, len(s[0]), s[0]+kept(s[1], keep))
		}
	}
}

// P6.3: the bytes that are kept may have come in several pieces.
func TestCrashKeepsOfPieces(t *testing.T) {
	for keep := range 9 {
		d := laid(t, "abcd", "")
		for _, s := range []string{"e", "fg", "h", "ijk"} {
			d.Append([]byte(s))
		}
		d.Crash(keep)
		leaves(t, d, 4, "abcdefghijk"[:min(4+keep, 11)])
	}
}

// P6.3: with the power off it changes nothing, however many bytes it is to keep.
func TestCrashWithThePowerOff(t *testing.T) {
	for _, keep := range []int{leastInt, -1, 0, 1, 2, 3, mostInt} {
		d := laid(t, "ab", "cdef")
		d.Crash(2)
		d.Crash(keep)
		leaves(t, d, 2, "abcd")
	}
}

// P6.3: bytes that were kept by one crash are synced by the start, and stay behind the next one.
func TestCrashTwice(t *testing.T) {
	d := laid(t, "ab", "cdef")
	d.Crash(1)
	leaves(t, d, 2, "abc")
	d.Append([]byte("gh"))
	holds(t, d, "abcgh", 3)
	d.Crash(1)
	leaves(t, d, 3, "abcg")
	d.Crash(0)
	leaves(t, d, 4, "abcg")
}

// P6.3: each stroke, with each keep, does nothing but that the power goes in it.
func TestTrip(t *testing.T) {
	for _, s := range beginnings() {
		for _, keep := range keeps(len(s[1])) {
			for _, stroke := range strokes() {
				d := laid(t, s[0], s[1])
				d.Trip(keep)
				holds(t, d, s[0]+s[1], len(s[0]))
				answers(t, stroke.name, stroke.do(d), api.ErrOff)
				leaves(t, d, len(s[0]), s[0]+kept(s[1], keep))
			}
		}
	}
}

// P6.3: one stroke alone is tripped, the one behind the start is not.
func TestTripOnce(t *testing.T) {
	for _, first := range strokes() {
		for _, next := range strokes() {
			d := laid(t, "ab", "cdef")
			d.Trip(2)
			answers(t, first.name, first.do(d), api.ErrOff)
			answers(t, next.name, next.do(d), api.ErrOff)
			leaves(t, d, 2, "abcd")
			answers(t, next.name, next.do(d), api.OK)
			want := next.left("abcd")
			holds(t, d, want, len(want))
		}
	}
}

// P6.3: what is no stroke is not tripped, and the trip stays for the next one.
func TestTripStays(t *testing.T) {
	for name, call := range map[string]func(d *disk.Disk) api.Errno{
		"Append":         func(d *disk.Disk) api.Errno { return d.Append([]byte("xy")) },
		"Append nothing": func(d *disk.Disk) api.Errno { return d.Append(nil) },
		"Read": func(d *disk.Disk) api.Errno {
			_, e := d.Read()
			return e
		},
		"Synced": func(d *disk.Disk) api.Errno {
			d.Synced()
			return api.OK
		},
		"Off": func(d *disk.Disk) api.Errno {
			d.Off()
			return api.OK
		},
		"Start": func(d *disk.Disk) api.Errno {
			d.Start()
			return api.OK
		},
	} {
		for _, stroke := range strokes() {
			d := laid(t, "ab", "cd")
			d.Trip(1)
			answers(t, name, call(d), api.OK)
			if d.Off() || d.Synced() != 2 {
				t.Errorf("%s: is tripped", name)
			}
			answers(t, stroke.name, stroke.do(d), api.ErrOff)
			leaves(t, d, 2, "abc")
		}
	}
}

// P6.3: a Cut that answers ErrSpan is no stroke.
func TestTripIsNotForARefusedCut(t *testing.T) {
	for _, n := range []int{leastInt, -1, 5, 6, mostInt} {
		for _, stroke := range strokes() {
			d := laid(t, "ab", "cd")
			d.Trip(1)
			answers(t, "Cut", d.Cut(n), api.ErrSpan)
			holds(t, d, "abcd", 2)
			answers(t, stroke.name, stroke.do(d), api.ErrOff)
			leaves(t, d, 2, "abc")
		}
	}
}

// P6.3: the keep is of the bytes that are not synced when the stroke comes.
func TestTripKeepsOfLaterBytes(t *testing.T) {
	for keep, want := range []string{"ab", "abc", "abcd", "abcde", "abcdef", "abcdef"} {
		d := laid(t, "ab", "c")
		d.Trip(keep)
		d.Append([]byte("de"))
		d.Append([]byte("f"))
		answers(t, "Sync", d.Sync(), api.ErrOff)
		leaves(t, d, 2, want)
	}
}

// P6.3: a later one takes the place of an earlier one, whichever is the greater; of both, one stroke is tripped.
func TestTripAgain(t *testing.T) {
	for _, c := range []struct {
		first, then int
		want        string
	}{{0, 1, "abc"}, {1, 0, "ab"}, {mostInt, 1, "abc"}, {1, mostInt, "abcd"}, {leastInt, 2, "abcd"}, {2, leastInt, "ab"}, {1, 1, "abc"}} {
		for _, stroke := range strokes() {
			d := laid(t, "ab", "cd")
			d.Trip(c.first)
			d.Trip(c.then)
			answers(t, stroke.name, stroke.do(d), api.ErrOff)
			leaves(t, d, 2, c.want)
			answers(t, "Sync", d.Sync(), api.OK)
		}
	}
}

// P6.3
func TestTripWithThePowerOff(t *testing.T) {
	for _, keep := range []int{leastInt, 0, 1, mostInt} {
		for _, stroke := range strokes() {
			d := laid(t, "ab", "cd")
			d.Crash(1)
			d.Trip(keep)
			leaves(t, d, 2, "abc")
			answers(t, stroke.name, stroke.do(d), api.OK)
			want := stroke.left("abc")
			holds(t, d, want, len(want))
		}
	}
}

// P6.3: behind a crash nothing is tripped any more, and the crash goes by its own keep.
func TestCrashTakesATripAway(t *testing.T) {
	for _, keep := range []int{leastInt, 0, 2, mostInt} {
		for _, stroke := range strokes() {
			d := laid(t, "ab", "cd")
			d.Trip(keep)
			d.Crash(1)
			leaves(t, d, 2, "abc")
			answers(t, stroke.name, stroke.do(d), api.OK)
			want := stroke.left("abc")
			holds(t, d, want, len(want))
		}
	}
}

// P6.3: with the power on it syncs nothing.
func TestStartWithThePowerOn(t *testing.T) {
	for _, s := range beginnings() {
		d := laid(t, s[0], s[1])
		for range 2 {
			d.Start()
			holds(t, d, s[0]+s[1], len(s[0]))
		}
		d.Crash(0)
		leaves(t, d, len(s[0]), s[0])
		d.Append([]byte("xy"))
		d.Start()
		holds(t, d, s[0]+"xy", len(s[0]))
	}
}

// P6.3: a disk without bytes has a power, too.
func TestCrashWithoutBytes(t *testing.T) {
	for _, keep := range keeps(0) {
		d := disk.New()
		d.Crash(keep)
		leaves(t, d, 0, "")
		d.Trip(keep)
		answers(t, "Sync", d.Sync(), api.ErrOff)
		leaves(t, d, 0, "")
	}
}

// The examples of the chapter.
func TestExamples(t *testing.T) {
	d := disk.New()
	d.Append([]byte("ab"))
	d.Sync()
	d.Append([]byte("cd"))
	d.Crash(1)
	d.Start()
	holds(t, d, "abc", 3)
	d = disk.New()
	d.Append([]byte("ab"))
	d.Trip(1)
	answers(t, "Sync", d.Sync(), api.ErrOff)
	d.Start()
	holds(t, d, "a", 1)
}
