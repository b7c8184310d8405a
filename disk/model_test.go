package disk_test

import (
	"strings"
	"testing"

	"hanse/api"
	"hanse/disk"
)

// model is a disk as the chapter tells it: what is synced, and what is not.
type model struct {
	synced, rest string
	off          bool
	trips        []int // what is tripped: none, or one keep
}

// act is a call on a disk, and on the model of it.
type act struct {
	name  string
	call  func(d *disk.Disk) api.Errno
	model func(m *model) api.Errno
}

func (m *model) crash(keep int) {
	if !m.off {
		m.rest, m.off, m.trips = kept(m.rest, keep), true, nil
	}
}

// struck does what a stroke does, unless it is tripped.
func (m *model) struck(synced string) api.Errno {
	if len(m.trips) > 0 {
		m.crash(m.trips[0])
		return api.ErrOff
	}
	m.synced, m.rest = synced, ""
	return api.OK
}

func appended(s string) act {
	return act{"Append " + s, func(d *disk.Disk) api.Errno { return d.Append([]byte(s)) }, func(m *model) api.Errno {
		if m.off {
			return api.ErrOff
		}
		m.rest += s
		return api.OK
	}}
}

func synced() act {
	return act{"Sync", (*disk.Disk).Sync, func(m *model) api.Errno {
		if m.off {
			return api.ErrOff
		}
		return m.struck(m.synced + m.rest)
	}}
}

func cut(n int) act {
	return act{"Cut " + strings.Repeat("+", max(n, 0)), func(d *disk.Disk) api.Errno { return d.Cut(n) }, func(m *model) api.Errno {
		switch whole := m.synced + m.rest; {
		case m.off:
			return api.ErrOff
		case n < 0 || n > len(whole):
			return api.ErrSpan
		default:
			return m.struck(whole[:n])
		}
	}}
}

func swapped(s string) act {
	return act{"Swap " + s, func(d *disk.Disk) api.Errno { return d.Swap([]byte(s)) }, func(m *model) api.Errno {
		if m.off {
			return api.ErrOff
		}
		return m.struck(s)
	}}
}

func tripped(keep int) act {
	return act{"Trip " + strings.Repeat("+", max(keep, 0)), func(d *disk.Disk) api.Errno {
		d.Trip(keep)
		return api.OK
	}, func(m *model) api.Errno {
		if !m.off {
			m.trips = []int{keep}
		}
		return api.OK
	}}
}

func crashed(keep int) act {
	return act{"Crash " + strings.Repeat("+", max(keep, 0)), func(d *disk.Disk) api.Errno {
		d.Crash(keep)
		return api.OK
	}, func(m *model) api.Errno {
		m.crash(keep)
		return api.OK
	}}
}

func started() act {
	return act{"Start", func(d *disk.Disk) api.Errno {
		d.Start()
		return api.OK
	}, func(m *model) api.Errno {
		if m.off {
			m.synced, m.rest, m.off = m.synced+m.rest, "", false
		}
		return api.OK
	}}
}

// agree tells whether the disk shows what the model has.
func agree(d *disk.Disk, m *model) bool {
	b, e := d.Read()
	if d.Off() != m.off || d.Synced() != len(m.synced) {
		return false
	}
	if m.off {
		return b == nil && e == api.ErrOff
	}
	return string(b) == m.synced+m.rest && e == api.OK
}

// same plays an act on both, and tells a fault, unless they answer alike and show the same then.
func same(t *testing.T, d *disk.Disk, m *model, a act, script []string) {
	t.Helper()
	was := *m
	e, want := a.call(d), a.model(m)
	if e != want || !agree(d, m) {
		b, x := d.Read()
		t.Fatalf("%q, then %s: %d, %q, %d, synced %d, off %v; want %d, %+v (was %+v)", script, a.name, e, b, x, d.Synced(), d.Off(), want, *m, was)
	}
	stays(t, &was, m, a.name, script)
}

// P6.4: where the power goes, or is off, what was synced stays, and of the rest a beginning.
func stays(t *testing.T, was, now *model, name string, script []string) {
	t.Helper()
	if !was.off && !now.off {
		return
	}
	whole := now.synced + now.rest
	if !strings.HasPrefix(whole, was.synced) || !strings.HasPrefix(was.synced+was.rest, whole) {
		t.Fatalf("%q, then %s: %+v; was %+v", script, name, *now, *was)
	}
}

// P6.1 to P6.4: all scripts of so many acts.
func TestAllShortScripts(t *testing.T) {
	acts := []act{
		appended("ab"), appended(""), synced(), cut(-1), cut(0), cut(1), cut(3), swapped("xyz"), swapped(""),
		tripped(1), tripped(-1), crashed(0), crashed(1), crashed(9), started(),
	}
	const most = 5
	script := make([]int, most)
	for {
		play(t, acts, script)
		place := most - 1
		for place >= 0 && script[place] == len(acts)-1 {
			script[place] = 0
			place--
		}
		if place < 0 {
			return
		}
		script[place]++
	}
}

// play plays the acts of these places on a new disk.
func play(t *testing.T, acts []act, script []int) {
	t.Helper()
	d, m := disk.New(), new(model)
	var names []string
	for _, place := range script {
		same(t, d, m, acts[place], names)
		names = append(names, acts[place].name)
	}
}

// P6.1 to P6.4: scripts of many acts, which have no rule to be seen.
func TestLongScripts(t *testing.T) {
	for seed := range uint32(300) {
		x := seed
		next := func(below int) int {
			x = x*1664525 + 1013904223
			return int(x>>8) % below
		}
		d, m := disk.New(), new(model)
		for range 400 {
			size, keep := next(70), next(140)-30
			fresh := strings.Repeat(string(rune('a'+next(26))), size)
			whole := len(m.synced + m.rest)
			acts := []act{
				appended(fresh), appended(fresh[:size/8]), appended(fresh[:size/40]), appended("z"),
				synced(), started(), started(), tripped(keep), crashed(keep),
				cut(next(whole + 2)), cut(max(whole-size/8, 0)), swapped(fresh),
			}
			same(t, d, m, acts[next(len(acts))], nil)
		}
	}
}
