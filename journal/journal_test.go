package journal_test

import (
	"encoding/binary"
	"fmt"
	"hash/crc32"
	"slices"
	"strings"
	"testing"

	"hanse/api"
	"hanse/disk"
	"hanse/journal"
)

const (
	leastInt = -1 << 63
	mostInt  = 1<<63 - 1

	headBytes = 8                  // of a frame, ahead of its payload
	mostBytes = api.MaxPayload - 1 // of a record, of a snapshot
)

// sealed is the frame of a payload, which may be longer than it may be.
func sealed(payload string) string {
	length := binary.BigEndian.AppendUint32(nil, uint32(len(payload)))
	sum := crc32.Checksum(append(slices.Clone(length), payload...), crc32.MakeTable(crc32.Castagnoli))
	return string(binary.BigEndian.AppendUint32(length, sum)) + payload
}

func recFrame(s string) string { return sealed("R" + s) }

func snapFrame(s string) string { return sealed("S" + s) }

// content is what a journal is to tell: it begins with a snapshot (which may have no byte), or with none.
type content struct {
	begins bool
	snap   string
	recs   []string
}

// records are a journal's without a snapshot.
func records(recs ...string) content {
	return content{recs: recs}
}

// snapshot is a journal with one, and records behind it.
func snapshot(snap string, recs ...string) content {
	return content{true, snap, recs}
}

// bytes are those of the journal.
func (c content) bytes() string {
	s := ""
	if c.begins {
		s = snapFrame(c.snap)
	}
	for _, r := range c.recs {
		s += recFrame(r)
	}
	return s
}

// begin is what is whole within the first n of its bytes, and how many bytes that has.
func (c content) begin(n int) (content, int) {
	if c.begins && len(snapFrame(c.snap)) > n {
		return content{}, 0
	}
	for len(c.bytes()) > n {
		c.recs = c.recs[:len(c.recs)-1]
	}
	return c, len(c.bytes())
}

// with has a record more.
func (c content) with(rec string) content {
	c.recs = append(slices.Clone(c.recs), rec)
	return c
}

// contents are journals of many kinds.
func contents() []content {
	return []content{
		records(),
		records("a"),
		records(""),
		records("a", "", "bcd", "R", "S", "\x00\xff"),
		records(snapFrame("x"), recFrame("y"), strings.Repeat("long", 500)),
		snapshot("snap"),
		snapshot(""),
		snapshot("", ""),
		snapshot("", "a", "bc"),
		snapshot("snap", "a", "", "bcd", "a"),
		snapshot(recFrame("y"), "S", strings.Repeat("long", 500), "R"),
	}
}

func answers(t *testing.T, what string, e, want api.Errno) {
	t.Helper()
	if e != want {
		t.Errorf("%s: %d; want %d", what, e, want)
	}
}

// laid is a disk with these bytes synced, and these behind them that are not.
func laid(t *testing.T, synced, rest string) *disk.Disk {
	t.Helper()
	d := disk.New()
	answers(t, "disk.Append", d.Append([]byte(synced)), api.OK)
	answers(t, "disk.Sync", d.Sync(), api.OK)
	answers(t, "disk.Append", d.Append([]byte(rest)), api.OK)
	return d
}

// opened is the log of a disk, which must have one.
func opened(t *testing.T, d *disk.Disk) *journal.Log {
	t.Helper()
	l, e := journal.Open(d)
	if l == nil || e != api.OK {
		t.Fatalf("Open: a log %v, %d; want one", l != nil, e)
	}
	return l
}

// holds tells a fault, unless the power is on and the disk has just these bytes, so many of them synced.
func holds(t *testing.T, d *disk.Disk, s string, synced int) {
	t.Helper()
	b, e := d.Read()
	if string(b) != s || e != api.OK || d.Synced() != synced || d.Off() {
		t.Errorf("the disk: %.60q (of %d), %d, synced %d, off %v; want %.60q (of %d), synced %d", b, len(b), e, d.Synced(), d.Off(), s, len(s), synced)
	}
}

// leaves tells a fault, unless the power is off, so many bytes are synced, and these are left behind a start.
func leaves(t *testing.T, d *disk.Disk, synced int, s string) {
	t.Helper()
	if !d.Off() || d.Synced() != synced {
		t.Errorf("off %v, synced %d; want the power off, synced %d", d.Off(), d.Synced(), synced)
	}
	d.Start()
	holds(t, d, s, len(s))
}

// tells tells a fault, unless the log has just this.
func tells(t *testing.T, l *journal.Log, c content) {
	t.Helper()
	if !same(l, c) {
		t.Errorf("%s; want %s", shown(l), c)
	}
}

// shown is what a log tells, or its beginning.
func shown(l *journal.Log) string {
	var recs []string
	for _, rec := range l.Recs() {
		recs = append(recs, string(rec))
	}
	return snapshot(string(l.Snap()), recs...).String()
}

func (c content) String() string {
	return fmt.Sprintf("Snap = %.40q, Recs (%d) = %.40q", c.snap, len(c.recs), c.recs[:min(len(c.recs), 9)])
}

func same(l *journal.Log, c content) bool {
	return string(l.Snap()) == c.snap && slices.EqualFunc(l.Recs(), c.recs, func(b []byte, s string) bool { return string(b) == s })
}

// finds opens the disk's journal, twice, and tells a fault, unless it is just this, and nothing else is left on the disk.
func finds(t *testing.T, d *disk.Disk, c content) *journal.Log {
	t.Helper()
	l := opened(t, d)
	synced := d.Synced()
	tells(t, l, c)
	holds(t, d, c.bytes(), synced)
	tells(t, opened(t, d), c)
	holds(t, d, c.bytes(), synced)
	return l
}

// refuses opens a disk, and tells a fault, unless that answers ErrOff and no log.
func refuses(t *testing.T, d *disk.Disk) {
	t.Helper()
	l, e := journal.Open(d)
	if l != nil || e != api.ErrOff {
		t.Errorf("Open: a log %v, %d; want none, %d", l != nil, e, api.ErrOff)
	}
}

// kept is what a crash leaves of bytes that are not synced.
func kept(rest string, keep int) string {
	return rest[:min(max(keep, 0), len(rest))]
}

// write is a call that lays bytes on the disk, and what the journal is then.
type write struct {
	name string
	do   func(l *journal.Log, b []byte) api.Errno
	then func(c content, s string) content
}

func writes() []write {
	return []write{
		{"Append", (*journal.Log).Append, content.with},
		{"Compact", (*journal.Log).Compact, func(_ content, s string) content { return snapshot(s) }},
	}
}

// P7.2: the records stand behind the snapshot, in their order, not synced.
func TestAppend(t *testing.T) {
	for _, c := range contents() {
		d := laid(t, c.bytes(), "")
		l := opened(t, d)
		synced := d.Synced()
		for _, rec := range []string{"x", "", "xyz", "x", "\x00", strings.Repeat("record", 300), recFrame("z"), snapFrame("z"), "R", "S"} {
			answers(t, "Append", l.Append([]byte(rec)), api.OK)
			c = c.with(rec)
			tells(t, l, c)
			holds(t, d, c.bytes(), synced)
		}
		finds(t, d, c)
	}
}

// P7.2: no byte, or nil, is a record too.
func TestAppendNothing(t *testing.T) {
	d := disk.New()
	l := opened(t, d)
	for _, rec := range [][]byte{nil, {}, []byte("x")[:0]} {
		answers(t, "Append", l.Append(rec), api.OK)
	}
	tells(t, l, records("", "", ""))
	holds(t, d, records("", "", "").bytes(), 0)
}

// P7.2: many small records are no burden.
func TestAppendMany(t *testing.T) {
	const many = 1 << 15
	d := disk.New()
	l := opened(t, d)
	var want []string
	for i := range many {
		rec := string(binary.BigEndian.AppendUint16(nil, uint16(i)))
		l.Append([]byte(rec))
		want = append(want, rec)
	}
	tells(t, l, records(want...))
	tells(t, opened(t, d), records(want...))
}

// P7.2: all is synced, and nothing else is changed.
func TestSync(t *testing.T) {
	for _, c := range contents() {
		d := laid(t, "", c.bytes())
		l := opened(t, d)
		for range 2 {
			answers(t, "Sync", l.Sync(), api.OK)
			tells(t, l, c)
			holds(t, d, c.bytes(), len(c.bytes()))
		}
		for _, rec := range []string{"x", "", "yz"} {
			was := len(c.bytes())
			c = c.with(rec)
			l.Append([]byte(rec))
			holds(t, d, c.bytes(), was)
			answers(t, "Sync", l.Sync(), api.OK)
			tells(t, l, c)
			holds(t, d, c.bytes(), len(c.bytes()))
		}
	}
}

// P7.2: whatever was there, there is the snapshot and no record, and all is synced.
func TestCompact(t *testing.T) {
	for _, c := range contents() {
		for _, snap := range []string{"snap", "", "s", "\x00\xff", strings.Repeat("snapshot", 300), recFrame("z"), snapFrame("z")} {
			d := laid(t, c.bytes(), "")
			l := opened(t, d)
			l.Append([]byte("not synced"))
			for range 2 {
				answers(t, "Compact", l.Compact([]byte(snap)), api.OK)
				tells(t, l, snapshot(snap))
				holds(t, d, snapFrame(snap), len(snapFrame(snap)))
			}
			finds(t, d, snapshot(snap))
		}
	}
}

// P7.2: no byte, or nil, is a snapshot too, and stands on the disk.
func TestCompactNothing(t *testing.T) {
	for _, snap := range [][]byte{nil, {}, []byte("x")[:0]} {
		d := laid(t, snapshot("old", "a").bytes(), "")
		l := opened(t, d)
		answers(t, "Compact", l.Compact(snap), api.OK)
		tells(t, l, snapshot(""))
		holds(t, d, snapFrame(""), headBytes+1)
	}
}

// P7.2: records go on behind a snapshot, and a later one takes the place of it all.
func TestCompactAndGoOn(t *testing.T) {
	d := disk.New()
	l := opened(t, d)
	c := records()
	synced := 0
	for _, snap := range []string{"one", "", "three is longer", "4"} {
		for _, rec := range []string{"a", "", snap} {
			answers(t, "Append", l.Append([]byte(rec)), api.OK)
			c = c.with(rec)
			tells(t, l, c)
			holds(t, d, c.bytes(), synced)
		}
		finds(t, d, c)
		answers(t, "Compact", l.Compact([]byte(snap)), api.OK)
		c = snapshot(snap)
		synced = len(c.bytes())
		tells(t, l, c)
		holds(t, d, c.bytes(), synced)
	}
}

// P7.2: how long a record, a snapshot may be.
func TestLengths(t *testing.T) {
	for _, w := range writes() {
		for _, size := range []int{0, 1, 2, mostBytes - 2, mostBytes - 1, mostBytes} {
			s := strings.Repeat("l", size)
			d := laid(t, snapshot("snap", "a").bytes(), "")
			l := opened(t, d)
			answers(t, w.name, w.do(l, []byte(s)), api.OK)
			want := w.then(snapshot("snap", "a"), s)
			tells(t, l, want)
			finds(t, d, want)
		}
	}
}

// P7.2: what is too long is refused, with the power on or off, and nothing has changed.
func TestTooLong(t *testing.T) {
	for _, w := range writes() {
		for _, size := range []int{mostBytes + 1, mostBytes + 2, mostBytes + 3, 2 * mostBytes, 1 << 20} {
			for _, c := range contents() {
				d := laid(t, c.bytes(), "")
				l := opened(t, d)
				l.Append([]byte("b"))
				synced := len(c.bytes())
				c = c.with("b")
				long := []byte(strings.Repeat("l", size))
				answers(t, w.name, w.do(l, long), api.ErrLong)
				tells(t, l, c)
				holds(t, d, c.bytes(), synced)
				d.Crash(mostInt)
				answers(t, w.name, w.do(l, long), api.ErrLong)
				tells(t, l, c)
				leaves(t, d, synced, c.bytes())
			}
		}
	}
}

// P7.2: what is too long is no stroke: a trip that waits is not used up by it.
func TestTooLongIsNotTripped(t *testing.T) {
	for _, w := range writes() {
		d := laid(t, recFrame("a"), "")
		l := opened(t, d)
		l.Append([]byte("b"))
		d.Trip(0)
		answers(t, w.name, w.do(l, make([]byte, mostBytes+1)), api.ErrLong)
		holds(t, d, records("a", "b").bytes(), len(recFrame("a")))
		answers(t, "Sync", l.Sync(), api.ErrOff)
		leaves(t, d, len(recFrame("a")), recFrame("a"))
	}
}

// P7.2: with the power off each call answers ErrOff, and Snap and Recs tell what they told.
func TestWithThePowerOff(t *testing.T) {
	for name, call := range map[string]func(l *journal.Log) api.Errno{
		"Append":          func(l *journal.Log) api.Errno { return l.Append([]byte("xyz")) },
		"Append nothing":  func(l *journal.Log) api.Errno { return l.Append(nil) },
		"Append most":     func(l *journal.Log) api.Errno { return l.Append(make([]byte, mostBytes)) },
		"Sync":            (*journal.Log).Sync,
		"Compact":         func(l *journal.Log) api.Errno { return l.Compact([]byte("xyz")) },
		"Compact nothing": func(l *journal.Log) api.Errno { return l.Compact(nil) },
		"Compact most":    func(l *journal.Log) api.Errno { return l.Compact(make([]byte, mostBytes)) },
	} {
		for _, c := range contents() {
			for _, keep := range []int{0, headBytes, mostInt} {
				d := laid(t, c.bytes(), "")
				l := opened(t, d)
				l.Append([]byte("b"))
				d.Crash(keep)
				for range 2 {
					answers(t, name, call(l), api.ErrOff)
					tells(t, l, c.with("b"))
				}
				leaves(t, d, len(c.bytes()), c.bytes()+kept(recFrame("b"), keep))
			}
		}
	}
}

// P7.2: what is done to the disk otherwise is not looked at by a log that is open.
func TestOthersAreNotLookedAt(t *testing.T) {
	c := snapshot("snap", "a", "bc")
	for name, call := range map[string]func(t *testing.T, d *disk.Disk){
		"Append":         func(_ *testing.T, d *disk.Disk) { d.Append([]byte(recFrame("x"))) },
		"Append no more": func(_ *testing.T, d *disk.Disk) { d.Append([]byte("x")) },
		"Sync":           func(_ *testing.T, d *disk.Disk) { d.Sync() },
		"Cut":            func(_ *testing.T, d *disk.Disk) { d.Cut(3) },
		"Cut all":        func(_ *testing.T, d *disk.Disk) { d.Cut(0) },
		"Swap":           func(_ *testing.T, d *disk.Disk) { d.Swap([]byte(snapFrame("x"))) },
		"Trip":           func(_ *testing.T, d *disk.Disk) { d.Trip(1) },
		"Crash":          func(_ *testing.T, d *disk.Disk) { d.Crash(1) },
		"Crash, Start": func(_ *testing.T, d *disk.Disk) {
			d.Crash(0)
			d.Start()
		},
		"another log": func(t *testing.T, d *disk.Disk) {
			other := opened(t, d)
			other.Append([]byte("x"))
			tells(t, other, c.with("x"))
			other.Compact([]byte("y"))
			other.Append([]byte("z"))
			tells(t, other, snapshot("y", "z"))
		},
	} {
		d := laid(t, snapshot("snap", "a").bytes(), recFrame("bc"))
		l := opened(t, d)
		call(t, d)
		if !same(l, c) {
			t.Errorf("%s: %s; want %s", name, shown(l), c)
		}
	}
}

// P7.2: two logs of one disk each tell what they found and did, and lay it on the same disk.
func TestTwoLogsOfOneDisk(t *testing.T) {
	d := laid(t, recFrame("a"), "")
	one, other := opened(t, d), opened(t, d)
	one.Append([]byte("b"))
	other.Append([]byte("c"))
	one.Append([]byte("d"))
	tells(t, one, records("a", "b", "d"))
	tells(t, other, records("a", "c"))
	tells(t, opened(t, d), records("a", "b", "c", "d"))
	holds(t, d, records("a", "b", "c", "d").bytes(), len(recFrame("a")))
	answers(t, "Sync", other.Sync(), api.OK)
	holds(t, d, records("a", "b", "c", "d").bytes(), 4*len(recFrame("a")))
	answers(t, "Compact", one.Compact([]byte("s")), api.OK)
	tells(t, one, snapshot("s"))
	tells(t, other, records("a", "c"))
	other.Append([]byte("e"))
	tells(t, one, snapshot("s"))
	tells(t, other, records("a", "c", "e"))
	finds(t, d, snapshot("s", "e"))
}

// P7.2: bytes that were laid on the disk otherwise are ahead of the next record there, and Open finds what there is.
func TestRecordBehindOtherBytes(t *testing.T) {
	d := laid(t, recFrame("a"), "")
	l := opened(t, d)
	d.Append([]byte("no frame"))
	answers(t, "Append", l.Append([]byte("b")), api.OK)
	tells(t, l, records("a", "b"))
	holds(t, d, recFrame("a")+"no frame"+recFrame("b"), len(recFrame("a")))
	finds(t, d, records("a"))
	tells(t, l, records("a", "b"))
}

// The example of the chapter.
func TestExample(t *testing.T) {
	d := disk.New()
	l := opened(t, d)
	l.Append([]byte("a"))
	l.Sync()
	l.Append([]byte("b"))
	d.Crash(5)
	d.Start()
	finds(t, d, records("a"))
}
