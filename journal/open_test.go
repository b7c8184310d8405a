package journal_test

import (
	"strings"
	"testing"

	"hanse/api"
	"hanse/disk"
	"hanse/journal"
)

// P7.1: journals that are whole, however many of their bytes are synced: all is found, nothing is cut away or synced.
func TestOpen(t *testing.T) {
	for _, c := range contents() {
		whole := c.bytes()
		for _, synced := range []int{0, min(5, len(whole)), len(whole) / 2, len(whole)} {
			d := laid(t, whole[:synced], whole[synced:])
			finds(t, d, c)
			holds(t, d, whole, synced)
		}
	}
}

// P7.1: without bytes there is neither a snapshot nor a record, and both can come.
func TestOpenNothing(t *testing.T) {
	for _, w := range writes() {
		d := disk.New()
		l := finds(t, d, records())
		answers(t, w.name, w.do(l, []byte("x")), api.OK)
		finds(t, d, w.then(records(), "x"))
	}
}

// P7.1
func TestOpenWithThePowerOff(t *testing.T) {
	for _, c := range contents() {
		for _, tail := range []string{"", "no frame"} {
			d := laid(t, c.bytes(), tail)
			d.Crash(mostInt)
			refuses(t, d)
			refuses(t, d)
			leaves(t, d, len(c.bytes()), c.bytes()+tail)
			finds(t, d, c)
		}
	}
}

// P7.1, P7.3: a journal that is cut off anywhere is found as far as its frames are whole, the rest is cut away.
func TestOpenCutOff(t *testing.T) {
	for _, c := range []content{
		records("a", "", "bcd", "e"),
		snapshot("snap", "a", "", "bcd"),
		snapshot("", "", "a"),
		records(recFrame("y"), snapFrame("x"), "z"),
	} {
		whole := c.bytes()
		for n := range len(whole) + 1 {
			want, end := c.begin(n)
			for _, synced := range []int{0, end, n / 2, n} {
				d := laid(t, whole[:synced], whole[synced:n])
				l := finds(t, d, want)
				if end < n {
					synced = end
				}
				holds(t, d, whole[:end], synced)
				answers(t, "Append", l.Append([]byte("more")), api.OK)
				finds(t, d, want.with("more"))
			}
		}
	}
}

// tails are bytes at which a journal ends: no whole frame, or one that may not be there.
func tails() map[string]string {
	return map[string]string{
		"one byte":                   "\x00",
		"a letter":                   "R",
		"a head, cut off":            recFrame("x")[:headBytes-1],
		"a head alone":               recFrame("x")[:headBytes],
		"a frame, cut off":           recFrame("xyz")[:headBytes+2],
		"no payload":                 sealed(""),
		"another letter":             sealed("Xx"),
		"another letter alone":       sealed("X"),
		"a small r":                  sealed("rx"),
		"a small s":                  sealed("sx"),
		"the letter ahead of R":      sealed("Qx"),
		"the letter behind S":        sealed("Tx"),
		"the byte 0":                 sealed("\x00x"),
		"the byte 255":               sealed("\xffx"),
		"the letter behind a record": sealed("xR"),
		"the letter behind a snap":   sealed("xS"),
		"R with its highest bit":     sealed("\xd2x"),
		"a wrong sum":                recFrame("x")[:headBytes-1] + "?Rx",
		"a payload that is changed":  recFrame("x")[:headBytes] + "Ry",
		"no sum":                     "\x00\x00\x00\x00\x00\x00\x00\x00",
		"zeros":                      strings.Repeat("\x00", 40),
		"ones":                       strings.Repeat("\xff", 40),
		"too long a record":          sealed("R" + strings.Repeat("x", mostBytes+1)),
		"too long a snapshot":        sealed("S" + strings.Repeat("x", mostBytes+1)),
		"too great a length":         "\x7f\xff\xff\xff" + recFrame("x")[4:],
	}
}

// behind is what may stand behind such a place: it is not looked at.
func behind() []string {
	return []string{"", "x", recFrame("z"), snapFrame("z"), recFrame("") + recFrame("zz")}
}

// P7.1: what stands ahead of it stays, it and all behind it are cut away.
func TestOpenWithATail(t *testing.T) {
	for _, c := range contents() {
		begin := c.bytes()
		for name, tail := range tails() {
			for _, rest := range behind() {
				whole := begin + tail + rest
				for _, synced := range []int{0, len(begin), len(begin) + 1, len(whole)} {
					d := laid(t, whole[:synced], whole[synced:])
					l := opened(t, d)
					if !same(l, c) {
						t.Errorf("%s behind %.40q: %s", name, begin, shown(l))
					}
					holds(t, d, begin, len(begin))
					finds(t, d, c)
				}
			}
		}
	}
}

// P7.1: a snapshot stands at the beginning alone: behind whatever else stands there, it and all behind it are cut away.
func TestOpenWithALateSnapshot(t *testing.T) {
	for _, c := range contents() {
		begin := c.bytes()
		if begin == "" {
			continue
		}
		for _, late := range []string{snapFrame("late"), snapFrame(""), snapFrame(c.snap)} {
			for _, rest := range behind() {
				d := laid(t, begin, late+rest)
				finds(t, d, c)
				holds(t, d, begin, len(begin))
			}
		}
	}
}

// P7.1: a spoilt byte of a frame takes away that frame and all behind it, even if they are whole.
func TestOpenSpoilt(t *testing.T) {
	for _, c := range []content{records("a", "", "bcd"), snapshot("snap", "a", "", "bcd"), snapshot("", "a")} {
		whole := c.bytes()
		for place := range len(whole) {
			for _, change := range []byte{0x01, 0x10, 0x80, 0xff} {
				b := []byte(whole)
				b[place] ^= change
				want, end := c.begin(place)
				d := laid(t, string(b), "")
				finds(t, d, want)
				holds(t, d, whole[:end], end)
			}
		}
	}
}

// P7.1: a record, a snapshot of the greatest length is found, and so is what stands behind it.
func TestOpenLong(t *testing.T) {
	long := strings.Repeat("long", mostBytes/4) + "end"
	for _, c := range []content{records(long), records(long, "a", long), snapshot(long), snapshot(long, "a", long)} {
		finds(t, laid(t, "", c.bytes()), c)
		finds(t, laid(t, c.bytes(), recFrame(long)[:mostBytes+headBytes]), c)
	}
}

// P7.1: the power goes while the rest is cut away: Open answers ErrOff, and the disk is as a crash leaves it.
func TestOpenIsTripped(t *testing.T) {
	for _, c := range contents() {
		for _, tail := range []string{"x", recFrame("bc")[:headBytes+1], sealed("X") + recFrame("z"), sealed("")} {
			whole := c.bytes() + tail
			for _, synced := range []int{0, len(c.bytes()), len(whole) - 1, len(whole)} {
				for _, keep := range []int{leastInt, -1, 0, 1, len(whole) - synced - 1, len(whole) - synced, mostInt} {
					d := laid(t, whole[:synced], whole[synced:])
					d.Trip(keep)
					refuses(t, d)
					refuses(t, d)
					left := whole[:synced] + kept(whole[synced:], keep)
					leaves(t, d, synced, left)
					want, _ := c.begin(len(left))
					finds(t, d, want)
				}
			}
		}
	}
}

// P7.1: where nothing is cut away, nothing is struck: a trip waits on, and what is not synced is not synced.
func TestOpenStrikesNothing(t *testing.T) {
	for _, c := range contents() {
		whole := c.bytes()
		d := laid(t, whole[:len(whole)/2], whole[len(whole)/2:])
		d.Trip(0)
		finds(t, d, c)
		answers(t, "Sync", d.Sync(), api.ErrOff)
		leaves(t, d, len(whole)/2, whole[:len(whole)/2])
	}
}

// P7.3: what Open cut away is gone, and does not come back behind what is written in its place.
func TestOpenCutsForGood(t *testing.T) {
	for _, w := range writes() {
		d := laid(t, recFrame("a"), sealed("X")+recFrame("b")+recFrame("c"))
		l := finds(t, d, records("a"))
		answers(t, w.name, w.do(l, nil), api.OK)
		finds(t, d, w.then(records("a"), ""))
	}
}

// P7.1: what Open answers hangs on the disk's bytes alone: not on which log, or none, had laid them there.
func TestOpenOfBytesFromElsewhere(t *testing.T) {
	for _, c := range contents() {
		one := disk.New()
		l := opened(t, one)
		if c.begins {
			l.Compact([]byte(c.snap))
		}
		for _, rec := range c.recs {
			l.Append([]byte(rec))
		}
		b, _ := one.Read()
		other := disk.New()
		other.Swap(b)
		finds(t, one, c)
		finds(t, other, c)
		if m, e := journal.Open(other); e != api.OK || !same(m, c) {
			t.Errorf("Open of bytes from elsewhere: %d", e)
		}
	}
}
