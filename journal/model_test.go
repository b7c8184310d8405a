package journal_test

import (
	"encoding/binary"
	"strings"
	"testing"

	"hanse/api"
	"hanse/disk"
	"hanse/journal"
)

// model is a log as the chapter tells it, over a disk of its own, whose frames are laid by hand.
type model struct {
	disk *disk.Disk
	c    content
	dead bool // its disk was off since it was opened: of no more use, until the power is on and it is opened anew
}

// table is a disk with its log, and the model of both.
type table struct {
	disk *disk.Disk
	log  *journal.Log
	model
}

// act is a call on both; a log's own one is not played while the log is of no more use, but for the answer that the power is off.
type act struct {
	name  string
	ofLog bool
	call  func(x *table) api.Errno
	model func(m *model) api.Errno
}

// found is what bytes begin with, and where that ends.
func found(s string) (c content, end int) {
	for {
		rest := s[end:]
		if len(rest) < headBytes {
			return c, end
		}
		size := int(binary.BigEndian.Uint32([]byte(rest)))
		if size == 0 || size > api.MaxPayload || headBytes+size > len(rest) {
			return c, end
		}
		payload := rest[headBytes:][:size]
		switch {
		case sealed(payload) != rest[:headBytes+size]:
			return c, end
		case payload[0] == 'R':
			c = c.with(payload[1:])
		case payload[0] == 'S' && end == 0:
			c = snapshot(payload[1:])
		default:
			return c, end
		}
		end += headBytes + size
	}
}

func appended(s string) act {
	return act{"Append " + s[:min(len(s), 9)], true, func(x *table) api.Errno { return x.log.Append([]byte(s)) }, func(m *model) api.Errno {
		if len(s) > mostBytes {
			return api.ErrLong
		}
		e := m.disk.Append([]byte(recFrame(s)))
		if e == api.OK {
			m.c = m.c.with(s)
		}
		return e
	}}
}

func compacted(s string) act {
	return act{"Compact " + s[:min(len(s), 9)], true, func(x *table) api.Errno { return x.log.Compact([]byte(s)) }, func(m *model) api.Errno {
		if len(s) > mostBytes {
			return api.ErrLong
		}
		e := m.disk.Swap([]byte(snapFrame(s)))
		if e == api.OK {
			m.c = snapshot(s)
		}
		return e
	}}
}

func synced() act {
	return act{"Sync", true, func(x *table) api.Errno { return x.log.Sync() }, func(m *model) api.Errno { return m.disk.Sync() }}
}

func reopened() act {
	return act{"Open", false, func(x *table) api.Errno {
		l, e := journal.Open(x.disk)
		if (l == nil) != (e != api.OK) {
			return -1
		}
		if l != nil {
			x.log = l
		}
		return e
	}, (*model).open}
}

func (m *model) open() api.Errno {
	b, e := m.disk.Read()
	if e != api.OK {
		return e
	}
	c, end := found(string(b))
	if end < len(b) {
		if e := m.disk.Cut(end); e != api.OK {
			return e
		}
	}
	m.c, m.dead = c, false
	return api.OK
}

// ofDisk is a call on the disk alone, which no open log looks at.
func ofDisk(name string, do func(d *disk.Disk) api.Errno) act {
	return act{name, false, func(x *table) api.Errno { return do(x.disk) }, func(m *model) api.Errno { return do(m.disk) }}
}

func tripped(keep int) act {
	return ofDisk("Trip "+strings.Repeat("+", max(keep, 0)), func(d *disk.Disk) api.Errno {
		d.Trip(keep)
		return api.OK
	})
}

func crashed(keep int) act {
	return ofDisk("Crash "+strings.Repeat("+", max(keep, 0)), func(d *disk.Disk) api.Errno {
		d.Crash(keep)
		return api.OK
	})
}

func started() act {
	return ofDisk("Start", func(d *disk.Disk) api.Errno {
		d.Start()
		return api.OK
	})
}

func laidBeside(s string) act {
	return ofDisk("disk.Append "+s, func(d *disk.Disk) api.Errno { return d.Append([]byte(s)) })
}

// cutShort cuts so many bytes away at the end.
func cutShort(n int) act {
	return ofDisk("disk.Cut "+strings.Repeat("+", n), func(d *disk.Disk) api.Errno {
		b, _ := d.Read()
		return d.Cut(max(len(b)-n, 0))
	})
}

// agree tells whether both disks have the same, and the log tells what the model does.
func (x *table) agree() bool {
	b, e := x.disk.Read()
	want, f := x.model.disk.Read()
	if string(b) != string(want) || e != f || x.disk.Synced() != x.model.disk.Synced() {
		return false
	}
	return x.model.dead && !x.model.disk.Off() || same(x.log, x.c)
}

// play plays an act on both, and tells a fault, unless they answer alike and have the same then.
func (x *table) play(t *testing.T, a act, script []string) {
	t.Helper()
	if a.ofLog && x.dead && !x.model.disk.Off() {
		return
	}
	wasOff := x.model.disk.Off()
	e, want := a.call(x), a.model(&x.model)
	if e != want || !x.agree() {
		t.Fatalf("%q, then %s: %d, %s; want %d, %s", script, a.name, e, shown(x.log), want, x.c)
	}
	if x.model.disk.Off() || wasOff && a.name != "Open" {
		x.model.dead = true
	}
}

// newTable is a log of a disk without bytes.
func newTable(t *testing.T) *table {
	t.Helper()
	d := disk.New()
	return &table{d, opened(t, d), model{disk: disk.New()}}
}

// P7.1 to P7.3: all scripts of so many acts.
func TestAllShortScripts(t *testing.T) {
	torn := len(recFrame("ab")) + 3
	acts := []act{
		appended("ab"), appended(""), compacted("xyz"), compacted(""), synced(), reopened(),
		tripped(torn), tripped(0), crashed(torn), crashed(0), started(), laidBeside(snapFrame("q")), laidBeside("q"), cutShort(1),
	}
	const most = 5
	script := make([]int, most)
	for {
		x := newTable(t)
		var names []string
		for _, place := range script {
			x.play(t, acts[place], names)
			names = append(names, acts[place].name)
		}
		place := most - 1
		for place >= 0 && script[place] == len(acts)-1 {
			script[place] = 0
			place--
		}
		if place < 0 {
			return
		}
		script[place]++
	}
}

// P7.1 to P7.3: scripts of many acts, which have no rule to be seen.
func TestLongScripts(t *testing.T) {
	tooLong := strings.Repeat("l", mostBytes+1)
	for seed := range uint32(200) {
		r := seed
		next := func(below int) int {
			r = r*1664525 + 1013904223
			return int(r>>8) % below
		}
		x := newTable(t)
		for range 300 {
			fresh := strings.Repeat(string(rune('a'+next(26))), next(40))
			acts := []act{
				appended(fresh), appended(fresh), appended(fresh[:len(fresh)/9]), compacted(fresh), synced(), synced(),
				reopened(), reopened(), reopened(), started(), started(), started(), tripped(next(90)), crashed(next(90)),
				laidBeside(fresh), laidBeside(sealed(fresh)), laidBeside(recFrame(fresh)), cutShort(next(50)),
				appended(tooLong), compacted(tooLong),
			}
			x.play(t, acts[next(len(acts))], nil)
		}
	}
}
