package disk_test

import (
	"bytes"
	"reflect"
	"testing"

	"hanse/api"
	"hanse/disk"
)

// overwrite changes b and its spare room.
func overwrite(b []byte) {
	b = b[:cap(b)]
	for i := range b {
		b[i] ^= 0xff
	}
}

// apart tells a fault, unless no two of these lists share memory, spare room too.
func apart(t *testing.T, lists ...[]byte) {
	t.Helper()
	for i, one := range lists {
		for _, other := range lists[:i] {
			if cap(one) == 0 || cap(other) == 0 {
				continue
			}
			a, b := reflect.ValueOf(one).Pointer(), reflect.ValueOf(other).Pointer()
			if a < b+uintptr(cap(other)) && b < a+uintptr(cap(one)) {
				t.Error("two lists share memory")
			}
		}
	}
}

// readAll answers the disk's bytes, which must be there.
func readAll(t *testing.T, d *disk.Disk) []byte {
	t.Helper()
	b, e := d.Read()
	answers(t, "Read", e, api.OK)
	return b
}

// writes is what hands bytes in.
func writes() map[string]func(d *disk.Disk, b []byte) api.Errno {
	return map[string]func(d *disk.Disk, b []byte) api.Errno{
		"Append": (*disk.Disk).Append,
		"Swap":   (*disk.Disk).Swap,
	}
}

// R2: what is handed in stays as it was, its spare room too, and is not kept, whatever is done then.
func TestArgumentsStayAsTheyWere(t *testing.T) {
	const s = "abcdefgh"
	for name, write := range writes() {
		for n := range len(s) + 1 {
			for _, first := range []string{"", "x", "0123456789"} {
				d := disk.New()
				d.Append([]byte(first))
				given := []byte(s + "spare room")
				answers(t, name, write(d, given[:n]), api.OK)
				want := string(readAll(t, d))
				overwrite(given)
				if got := string(readAll(t, d)); got != want {
					t.Errorf("%s: %q, when what was handed in is changed; was %q", name, got, want)
				}
				overwrite(given)
				d.Append([]byte("more"))
				d.Cut(1)
				d.Append([]byte("yet more"))
				overwrite(readAll(t, d))
				d.Swap([]byte("all other"))
				d.Crash(0)
				d.Start()
				if string(given) != s+"spare room" {
					t.Errorf("%s of %d bytes: what was handed in is %q", name, n, given)
				}
			}
		}
	}
}

// R2: likewise where it is refused, or tripped.
func TestRefusedArgumentsStayAsTheyWere(t *testing.T) {
	for name, write := range writes() {
		for what, spoil := range map[string]func(d *disk.Disk){
			"off":     func(d *disk.Disk) { d.Crash(1) },
			"tripped": func(d *disk.Disk) { d.Trip(1) },
		} {
			d := laid(t, "ab", "cd")
			spoil(d)
			given := []byte("xyz and spare room")
			write(d, given[:3])
			if string(given) != "xyz and spare room" {
				t.Errorf("%s, %s: %q", name, what, given)
			}
		}
	}
}

// R2: what is read shares nothing with the disk, with another answer, nor with what was handed in.
func TestReadIsNewMemory(t *testing.T) {
	for name, write := range writes() {
		for _, later := range []string{"", "c", "cdefghijkl"} {
			d := disk.New()
			given, more := append(make([]byte, 0, 40), "ab"...), append(make([]byte, 0, 40), later...)
			answers(t, name, write(d, given), api.OK)
			answers(t, "Append", d.Append(more), api.OK)
			want := "ab" + later
			one, other := readAll(t, d), readAll(t, d)
			apart(t, one, other, given, more)
			overwrite(one)
			if string(other) != want || string(readAll(t, d)) != want {
				t.Errorf("%s: one answer changed another one, or the disk", name)
			}
			_ = append(other[:1], "overwritten, and its spare room"...)
			if string(readAll(t, d)) != want || string(given) != "ab" || string(more) != later {
				t.Errorf("%s: an answer's spare room is not its own", name)
			}
		}
	}
}

// R2: what was read stays as it is, whatever is done to the disk then.
func TestReadStays(t *testing.T) {
	for name, call := range map[string]func(d *disk.Disk){
		"Append":      func(d *disk.Disk) { d.Append([]byte("z")) },
		"Append more": func(d *disk.Disk) { d.Append([]byte("zzzzzzzzzzzzzzzz")) },
		"Sync":        func(d *disk.Disk) { d.Sync() },
		"Cut": func(d *disk.Disk) {
			d.Cut(1)
			d.Append([]byte("zzz"))
		},
		"Swap": func(d *disk.Disk) { d.Swap([]byte("zzzz")) },
		"Crash": func(d *disk.Disk) {
			d.Crash(1)
			d.Start()
			d.Append([]byte("zzz"))
		},
	} {
		d := laid(t, "ab", "cd")
		b := readAll(t, d)
		spare := bytes.Clone(b[:cap(b)])
		call(d)
		if string(b) != "abcd" || !bytes.Equal(b[:cap(b)], spare) {
			t.Errorf("%s changed what was read: %q", name, b)
		}
	}
}

// R2, R3: a list that is handed to two disks, or twice to one, and what one disk answers to another.
func TestListsThatAreHandedOn(t *testing.T) {
	one, other := disk.New(), disk.New()
	given := []byte("abcd")
	one.Append(given[:2])
	other.Append(given[:2])
	one.Append(given[2:])
	other.Append(given[:2])
	b := readAll(t, one)
	other.Swap(b)
	overwrite(b)
	overwrite(given)
	holds(t, one, "abcd", 0)
	holds(t, other, "abcd", 4)
}

// R3: two disks have nothing in common: bytes, power, trips.
func TestDisksHaveNothingInCommon(t *testing.T) {
	for name, call := range changes() {
		one, other := laid(t, "ab", "cd"), laid(t, "ab", "cd")
		call(one)
		holds(t, other, "abcd", 2)
		answers(t, name, other.Sync(), api.OK)
		holds(t, other, "abcd", 4)
	}
}

// changes is what may be done to a disk.
func changes() map[string]func(d *disk.Disk) {
	return map[string]func(d *disk.Disk){
		"Append": func(d *disk.Disk) { d.Append([]byte("x")) },
		"Append much": func(d *disk.Disk) {
			for range 20 {
				d.Append([]byte("xyz"))
			}
		},
		"Sync":    func(d *disk.Disk) { d.Sync() },
		"Cut":     func(d *disk.Disk) { d.Cut(1) },
		"Cut all": func(d *disk.Disk) { d.Cut(0) },
		"Cut and Append": func(d *disk.Disk) {
			d.Cut(3)
			d.Append([]byte("x"))
		},
		"Swap":  func(d *disk.Disk) { d.Swap([]byte("xyzx")) },
		"Trip":  func(d *disk.Disk) { d.Trip(0) },
		"Crash": func(d *disk.Disk) { d.Crash(0) },
		"Crash and Append": func(d *disk.Disk) {
			d.Crash(1)
			d.Start()
			d.Append([]byte("xyz"))
		},
		"Trip, Sync": func(d *disk.Disk) {
			d.Trip(0)
			d.Sync()
		},
	}
}

// R3: a copy of a disk is a disk of its own, and neither of both touches the other one.
func TestCopiesHaveNothingInCommon(t *testing.T) {
	for name, call := range changes() {
		one := laid(t, "ab", "cd")
		other := *one
		call(one)
		holds(t, &other, "abcd", 2)
		other.Append([]byte("ef"))
		holds(t, &other, "abcdef", 2)

		one = laid(t, "ab", "cd")
		other = *one
		call(&other)
		holds(t, one, "abcd", 2)
		one.Append([]byte("ef"))
		holds(t, one, "abcdef", 2)
		answers(t, name, one.Sync(), api.OK)
	}
}

// R3: both go on from where the copy was made, also with a trip, or with the power off.
func TestCopiesGoOn(t *testing.T) {
	one := laid(t, "ab", "cd")
	one.Trip(1)
	other := *one
	answers(t, "Sync", one.Sync(), api.ErrOff)
	off := *one
	leaves(t, one, 2, "abc")
	one.Append([]byte("x"))
	holds(t, &other, "abcd", 2)
	answers(t, "Swap", other.Swap([]byte("y")), api.ErrOff)
	other.Start()
	other.Append([]byte("y"))
	leaves(t, &off, 2, "abc")
	off.Append([]byte("z"))
	holds(t, one, "abcx", 3)
	holds(t, &other, "abcy", 3)
	holds(t, &off, "abcz", 3)
}

// R3: a disk may be set back to an earlier copy of itself, and a later copy stays as it is.
func TestDiskIsSetBack(t *testing.T) {
	for _, s := range []string{"", "a", "abcdefgh", "abcdefghijklmnopqrstuvwxyz"} {
		d := laid(t, s, "12")
		early := *d
		d.Append([]byte("3"))
		d.Append([]byte("45"))
		late := *d
		*d = early
		d.Append([]byte("x"))
		d.Append([]byte("yz"))
		holds(t, &early, s+"12", len(s))
		holds(t, &late, s+"12345", len(s))
		holds(t, d, s+"12xyz", len(s))
		d.Cut(len(s) + 1)
		d.Append([]byte("0"))
		holds(t, &early, s+"12", len(s))
		holds(t, &late, s+"12345", len(s))
	}
}
