package journal_test

import (
	"slices"
	"strings"
	"testing"

	"hanse/api"
	"hanse/disk"
	"hanse/journal"
)

// keeps is how many bytes of these a crash may be asked to keep.
func keeps(rest string) []int {
	l := []int{leastInt, -1, len(rest) + 1, len(rest) + headBytes, mostInt}
	for n := range len(rest) + 1 {
		l = append(l, n)
	}
	return l
}

// written is a disk whose journal has this, synced, and these records behind it, which are not; and its log.
func written(t *testing.T, c content, rest ...string) (*disk.Disk, *journal.Log) {
	t.Helper()
	d := disk.New()
	l := opened(t, d)
	if c.begins {
		answers(t, "Compact", l.Compact([]byte(c.snap)), api.OK)
	}
	for _, rec := range c.recs {
		answers(t, "Append", l.Append([]byte(rec)), api.OK)
	}
	answers(t, "Sync", l.Sync(), api.OK)
	for _, rec := range rest {
		answers(t, "Append", l.Append([]byte(rec)), api.OK)
	}
	return d, l
}

// crashes plays a call on a journal of this and these records behind it, with each number of unsynced bytes that are kept:
// in it, or behind it, the power goes, and all that is synced and a beginning of the others must be found.
func crashes(t *testing.T, c content, rest []string, call func(d *disk.Disk, l *journal.Log, keep int)) {
	t.Helper()
	whole := content{c.begins, c.snap, slices.Concat(c.recs, rest)}
	synced := len(c.bytes())
	unsynced := whole.bytes()[synced:]
	for _, keep := range keeps(unsynced) {
		d, l := written(t, c, rest...)
		call(d, l, keep)
		tells(t, l, whole)
		left := whole.bytes()[:synced] + kept(unsynced, keep)
		leaves(t, d, synced, left)
		want, _ := whole.begin(len(left))
		finds(t, d, want)
		if len(want.recs) < len(c.recs) {
			t.Errorf("keep %d: a synced record is gone", keep)
		}
	}
}

// unsynced are records that were not synced when the power went.
func unsynced() [][]string {
	return [][]string{nil, {"x"}, {""}, {"", "", ""}, {"xy", "", "z", recFrame("q"), "R"}}
}

// P7.3: behind records that were synced and records that were not, with and without a snapshot.
func TestCrash(t *testing.T) {
	for _, c := range contents() {
		for _, rest := range unsynced() {
			crashes(t, c, rest, func(d *disk.Disk, _ *journal.Log, keep int) { d.Crash(keep) })
		}
	}
}

// P7.2, P7.3: a Sync that is tripped syncs nothing.
func TestSyncIsTripped(t *testing.T) {
	for _, c := range contents() {
		for _, rest := range unsynced() {
			crashes(t, c, rest, func(d *disk.Disk, l *journal.Log, keep int) {
				d.Trip(keep)
				answers(t, "Sync", l.Sync(), api.ErrOff)
			})
		}
	}
}

// P7.2, P7.3: a Compact that is tripped leaves nothing of its snapshot, and the journal that there was.
func TestCompactIsTripped(t *testing.T) {
	for _, c := range contents() {
		for _, rest := range unsynced() {
			for _, snap := range []string{"", "new", strings.Repeat("new", 50)} {
				crashes(t, c, rest, func(d *disk.Disk, l *journal.Log, keep int) {
					d.Trip(keep)
					answers(t, "Compact", l.Compact([]byte(snap)), api.ErrOff)
				})
			}
		}
	}
}

// P7.2, P7.3: behind a Compact there is its snapshot, whatever stays of what comes behind it.
func TestCrashBehindACompact(t *testing.T) {
	for _, c := range contents() {
		for _, snap := range []string{"", "new"} {
			d, l := written(t, c, "x", "y")
			answers(t, "Compact", l.Compact([]byte(snap)), api.OK)
			d.Crash(0)
			tells(t, l, snapshot(snap))
			leaves(t, d, len(snapFrame(snap)), snapFrame(snap))
			finds(t, d, snapshot(snap))
			for _, rest := range unsynced() {
				crashes(t, snapshot(snap), rest, func(d *disk.Disk, _ *journal.Log, keep int) { d.Crash(keep) })
			}
		}
	}
}

// P7.2: an Append is no stroke: a trip waits on, for the Sync or the Compact behind it.
func TestAppendIsNotTripped(t *testing.T) {
	for name, stroke := range map[string]func(l *journal.Log) api.Errno{
		"Sync":    (*journal.Log).Sync,
		"Compact": func(l *journal.Log) api.Errno { return l.Compact([]byte("new")) },
	} {
		d, l := written(t, records("a"))
		d.Trip(len(recFrame("b")) + 1)
		answers(t, "Append", l.Append([]byte("b")), api.OK)
		answers(t, "Append", l.Append([]byte("c")), api.OK)
		tells(t, l, records("a", "b", "c"))
		answers(t, name, stroke(l), api.ErrOff)
		tells(t, l, records("a", "b", "c"))
		leaves(t, d, len(recFrame("a")), recFrame("a")+recFrame("b")+recFrame("c")[:1])
		finds(t, d, records("a", "b"))
	}
}

// P7.2: a Compact that was tripped may be tried again, by a log that is opened anew, until one is not tripped.
func TestCompactIsTriedAgain(t *testing.T) {
	d, l := written(t, snapshot("old", "a"), "b")
	for range 2 {
		d.Trip(0)
		answers(t, "Compact", l.Compact([]byte("new")), api.ErrOff)
		d.Start()
		l = finds(t, d, snapshot("old", "a"))
	}
	answers(t, "Compact", l.Compact([]byte("new")), api.OK)
	d.Crash(0)
	d.Start()
	finds(t, d, snapshot("new"))
}

// P7.3: what a crash has kept is synced by the start, and stays behind the next one.
func TestCrashTwice(t *testing.T) {
	for _, torn := range []int{0, 1, headBytes, headBytes + 1} {
		d, _ := written(t, snapshot("s", "a"), "b", "c")
		d.Crash(len(recFrame("b")) + torn)
		d.Start()
		l := finds(t, d, snapshot("s", "a", "b"))
		answers(t, "Append", l.Append([]byte("d")), api.OK)
		d.Crash(0)
		d.Start()
		finds(t, d, snapshot("s", "a", "b"))
	}
}

// P7.3: opened, written to, closed by a crash or not, and opened again, many times.
func TestSessions(t *testing.T) {
	for _, snapEvery := range []int{1, 3, 100} {
		for keep := range 2 * len(recFrame("0")) {
			d := disk.New()
			want := records()
			for session := range 12 {
				l := finds(t, d, want)
				rec := string(rune('a' + session))
				answers(t, "Append", l.Append([]byte(rec)), api.OK)
				want = want.with(rec)
				if session%snapEvery == 0 {
					want = snapshot(strings.Join(want.recs, ",") + want.snap)
					answers(t, "Compact", l.Compact([]byte(want.snap)), api.OK)
				}
				if session%3 == 0 {
					answers(t, "Sync", l.Sync(), api.OK)
				}
				if session%2 == 0 {
					synced := d.Synced()
					d.Crash(keep)
					want, _ = want.begin(synced + max(keep, 0))
					d.Start()
				}
				tells(t, opened(t, d), want)
			}
		}
	}
}
