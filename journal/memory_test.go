package journal_test

import (
	"bytes"
	"reflect"
	"slices"
	"strings"
	"testing"

	"hanse/api"
	"hanse/disk"
	"hanse/journal"
)

// overwrite changes b and its spare room.
func overwrite(b []byte) {
	b = b[:cap(b)]
	for i := range b {
		b[i] ^= 0xff
	}
}

// block is the memory of a list: from which address on, up to which one.
type block struct{ from, to uintptr }

// blockOf is a list's memory, its spare room too.
func blockOf[T any](l []T) block {
	from := reflect.ValueOf(l).Pointer()
	return block{from, from + uintptr(cap(l))*reflect.TypeFor[T]().Size()}
}

// apart tells a fault, unless no two of these share memory.
func apart(t *testing.T, blocks ...block) {
	t.Helper()
	for i, one := range blocks {
		for _, other := range blocks[:i] {
			if one.from < one.to && other.from < other.to && one.from < other.to && other.from < one.to {
				t.Error("two lists share memory")
			}
		}
	}
}

// blocks are the memory of all that a log answers.
func blocks(l *journal.Log) []block {
	recs := l.Recs()
	all := []block{blockOf(l.Snap()), blockOf(recs)}
	for _, rec := range recs {
		all = append(all, blockOf(rec))
	}
	return all
}

// R2: what is answered shares nothing with another element of it, nor with another answer.
func TestAnswersAreNewMemory(t *testing.T) {
	for _, c := range contents() {
		d := laid(t, c.bytes(), "")
		l := opened(t, d)
		l.Append([]byte("x"))
		l.Append([]byte(strings.Repeat("y", 33)))
		apart(t, slices.Concat(blocks(l), blocks(l), blocks(opened(t, d)))...)
	}
}

// R2: nor with what was handed in, spare room too.
func TestAnswersShareNothingWithArguments(t *testing.T) {
	for _, size := range []int{0, 1, 2, 15, 16, 17, 33} {
		rec, snap := make([]byte, size, 2*size+3), make([]byte, size, 2*size+3)
		d := disk.New()
		l := opened(t, d)
		l.Compact(snap)
		l.Append(rec)
		l.Append(rec)
		read, _ := d.Read()
		apart(t, append(blocks(l), blockOf(rec), blockOf(snap), blockOf(read))...)
		apart(t, append(blocks(opened(t, d)), blockOf(rec), blockOf(snap), blockOf(read))...)
	}
}

// R2: what is handed in stays as it was, its spare room too, whatever is done then, and is not kept.
func TestArgumentsStayAsTheyWere(t *testing.T) {
	const s = "abcdefgh"
	for _, w := range writes() {
		for n := range len(s) + 1 {
			d := laid(t, snapshot("snap", "a").bytes(), "")
			l := opened(t, d)
			given := []byte(s + "and spare room")
			answers(t, w.name, w.do(l, given[:n]), api.OK)
			want := w.then(snapshot("snap", "a"), s[:n])
			overwrite(given)
			tells(t, l, want)
			finds(t, d, want)
			overwrite(given)
			l.Append([]byte("more"))
			for _, rec := range l.Recs() {
				overwrite(rec)
			}
			overwrite(l.Snap())
			l.Sync()
			l.Compact([]byte("all other"))
			l.Append([]byte("yet more"))
			opened(t, d).Append([]byte("and more"))
			d.Crash(0)
			d.Start()
			if string(given) != s+"and spare room" {
				t.Errorf("%s of %d bytes: what was handed in is %q", w.name, n, given)
			}
		}
	}
}

// R2: likewise where it is refused: too long, with the power off, tripped.
func TestRefusedArgumentsStayAsTheyWere(t *testing.T) {
	for _, w := range writes() {
		for _, size := range []int{0, 3, mostBytes, mostBytes + 1, mostBytes + 9} {
			for name, spoil := range map[string]func(d *disk.Disk){
				"on":      func(*disk.Disk) {},
				"off":     func(d *disk.Disk) { d.Crash(1) },
				"tripped": func(d *disk.Disk) { d.Trip(1) },
			} {
				d := laid(t, recFrame("a"), "")
				l := opened(t, d)
				spoil(d)
				given := []byte(strings.Repeat("g", size) + "spare room")
				was := bytes.Clone(given)
				w.do(l, given[:size])
				if !bytes.Equal(given, was) {
					t.Errorf("%s of %d bytes, %s: what was handed in is changed", w.name, size, name)
				}
			}
		}
	}
}

// R2: one list that is handed in again and again, with other bytes each time.
func TestOneArgumentManyTimes(t *testing.T) {
	d := disk.New()
	l := opened(t, d)
	want := records()
	given := make([]byte, 40)
	for i := range given {
		given[i] = byte(i)
		answers(t, "Append", l.Append(given[:i]), api.OK)
		want = want.with(string(given[:i]))
	}
	tells(t, l, want)
	answers(t, "Compact", l.Compact(given), api.OK)
	want = snapshot(string(given))
	answers(t, "Append", l.Append(given[3:7]), api.OK)
	want = want.with(string(given[3:7]))
	overwrite(given)
	tells(t, l, want)
	finds(t, d, want)
}

// R2: what is done with an answer touches neither the log, the disk, nor another answer.
func TestAnswersAreTheCallers(t *testing.T) {
	for _, c := range contents() {
		d := laid(t, c.bytes(), "")
		l := opened(t, d)
		for range 2 {
			l.Append([]byte("x"))
			c = c.with("x")
			snap, recs := l.Snap(), l.Recs()
			other := l.Recs()
			overwrite(snap)
			_ = append(recs[0][:0], strings.Repeat("overwritten", 9)...)
			for _, rec := range recs {
				overwrite(rec)
			}
			clear(recs[:cap(recs)])
			_ = append(recs[:0], []byte("another"), nil, []byte("third"))
			if !slices.EqualFunc(other, c.recs, func(b []byte, s string) bool { return string(b) == s }) {
				t.Errorf("one answer changed another one: %.40q; want %.40q", other, c.recs)
			}
			tells(t, l, c)
			tells(t, opened(t, d), c)
		}
	}
}

// R2: an element that is made longer does not run into the next one.
func TestElementsAreApart(t *testing.T) {
	l := opened(t, laid(t, records("a", "", "bcd", "e").bytes(), ""))
	recs := l.Recs()
	for i := range recs {
		recs[i] = append(recs[i], "longer than it was"...)
	}
	want := []string{"alonger than it was", "longer than it was", "bcdlonger than it was", "elonger than it was"}
	if !slices.EqualFunc(recs, want, func(b []byte, s string) bool { return string(b) == s }) {
		t.Errorf("%q", recs)
	}
	tells(t, l, records("a", "", "bcd", "e"))
}

// changes is what may be done to a log, or to its disk.
func changes() map[string]func(d *disk.Disk, l *journal.Log) {
	return map[string]func(d *disk.Disk, l *journal.Log){
		"Append":         func(_ *disk.Disk, l *journal.Log) { l.Append([]byte("x")) },
		"Append nothing": func(_ *disk.Disk, l *journal.Log) { l.Append(nil) },
		"Append much": func(_ *disk.Disk, l *journal.Log) {
			for range 20 {
				l.Append([]byte("xyz"))
			}
		},
		"Sync":    func(_ *disk.Disk, l *journal.Log) { l.Sync() },
		"Compact": func(_ *disk.Disk, l *journal.Log) { l.Compact([]byte("x")) },
		"Compact and Append": func(_ *disk.Disk, l *journal.Log) {
			l.Compact([]byte("xyzx"))
			l.Append([]byte("x"))
			l.Append([]byte("y"))
		},
		"Trip and Sync": func(d *disk.Disk, l *journal.Log) {
			d.Trip(3)
			l.Sync()
		},
		"Crash":     func(d *disk.Disk, _ *journal.Log) { d.Crash(0) },
		"disk.Swap": func(d *disk.Disk, _ *journal.Log) { d.Swap([]byte("x")) },
	}
}

// R2: what was answered stays as it is, whatever is done to the log, or to its disk, then.
func TestAnswersStay(t *testing.T) {
	for name, call := range changes() {
		d := laid(t, snapshot("snap", "a", "bc").bytes(), "")
		l := opened(t, d)
		l.Append([]byte("d"))
		snap, recs := l.Snap(), l.Recs()
		spare := bytes.Clone(snap[:cap(snap)])
		all := slices.Clone(recs[:cap(recs)])
		call(d, l)
		if string(snap) != "snap" || !bytes.Equal(snap[:cap(snap)], spare) {
			t.Errorf("%s changed a snapshot that was answered: %q", name, snap)
		}
		if string(bytes.Join(recs, []byte(","))) != "a,bc,d" || !slices.EqualFunc(recs[:cap(recs)], all, bytes.Equal) {
			t.Errorf("%s changed records that were answered: %q", name, recs)
		}
	}
}

// R3: two logs over two disks have nothing in common, though they were told the same lists.
func TestLogsHaveNothingInCommon(t *testing.T) {
	c := snapshot("snap", "a", "bc")
	for name, call := range changes() {
		one, other := disk.New(), disk.New()
		l, m := opened(t, one), opened(t, other)
		for _, log := range []*journal.Log{l, m} {
			log.Compact([]byte("snap"))
			log.Append([]byte("a"))
			log.Append([]byte("bc"))
		}
		call(one, l)
		tells(t, m, c)
		holds(t, other, c.bytes(), len(snapFrame("snap")))
		answers(t, name, m.Append([]byte("d")), api.OK)
		answers(t, name, m.Sync(), api.OK)
		tells(t, m, c.with("d"))
		finds(t, other, c.with("d"))
	}
}

// R3: what one log answers may be told to another one.
func TestRecordsThatAreHandedOn(t *testing.T) {
	one, other := disk.New(), laid(t, snapshot("snap", "a", "bc").bytes(), "")
	l, m := opened(t, one), opened(t, other)
	snap, recs := m.Snap(), m.Recs()
	l.Compact(snap)
	for _, rec := range recs {
		l.Append(rec)
		overwrite(rec)
	}
	overwrite(snap)
	tells(t, l, snapshot("snap", "a", "bc"))
	tells(t, m, snapshot("snap", "a", "bc"))
	finds(t, one, snapshot("snap", "a", "bc"))
}
