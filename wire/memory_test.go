package wire_test

import (
	"bytes"
	"cmp"
	"reflect"
	"slices"
	"testing"

	"hanse/api"
)

// overwrite changes b and its spare room.
func overwrite(b []byte) {
	b = b[:cap(b)]
	for i := range b {
		b[i] ^= 0xff
	}
}

// change changes all that x holds, in its place, the spare room of its lists too.
func change(x reflect.Value) {
	switch x.Kind() {
	case reflect.Int:
		x.SetInt(^x.Int())
	case reflect.Uint8:
		x.SetUint(x.Uint() ^ 0xff)
	case reflect.Bool:
		x.SetBool(!x.Bool())
	case reflect.Complex128:
		x.SetComplex(x.Complex() + 1)
	case reflect.Slice:
		for i := range x.Cap() {
			change(x.Slice(0, x.Cap()).Index(i))
		}
	case reflect.Struct:
		for i := range x.NumField() {
			change(x.Field(i))
		}
	}
}

// toldWhole is all lists of x with their spare room, as texts.
func toldWhole(k kind, x reflect.Value) []string {
	l := []string{told(x)}
	each(k.name, x, func(_ string, part reflect.Value) {
		if part.Kind() == reflect.Slice {
			l = append(l, told(part.Slice(0, part.Cap())))
		}
	})
	return l
}

// R2: what is handed in stays as it was, its spare room too; it is written, or it is not.
func TestArgumentsStayAsTheyWere(t *testing.T) {
	for _, k := range kinds() {
		for elements := range 4 {
			x := k.filled(elements)
			was := toldWhole(k, x)
			if _, e := k.write(x); e != api.OK {
				t.Errorf("%s: %d", k.name, e)
			}
			if !slices.Equal(toldWhole(k, x), was) {
				t.Errorf("%s: was changed", k.name)
			}
		}
		x := k.filled(9)
		was := toldWhole(k, x)
		k.write(x)
		if !slices.Equal(toldWhole(k, x), was) {
			t.Errorf("%s: that is too long was changed", k.name)
		}
		x = k.filled(2)
		each(k.name, x, func(_ string, part reflect.Value) {
			if part.Kind() == reflect.Complex128 {
				part.SetComplex(complex(minusZero(), minusZero()))
			}
		})
		was = toldWhole(k, x)
		k.write(x)
		if !slices.Equal(toldWhole(k, x), was) {
			t.Errorf("%s: of -0 was changed", k.name)
		}
	}
}

// R2: bytes that are handed in stay as they were, their spare room too, and are not kept.
func TestBytesStayAsTheyWere(t *testing.T) {
	for _, k := range kinds() {
		x := k.filled(3)
		s := k.model(x)
		for _, n := range []int{len(s), len(s) - 1, 1, 0} {
			given := []byte(s + "spare room")
			y, e := k.read(given[:n])
			if string(given) != s+"spare room" {
				t.Errorf("%s: bytes were changed", k.name)
			}
			was := told(y)
			overwrite(given)
			if told(y) != was || (n == len(s)) != (e == api.OK) {
				t.Errorf("%s: %s, %d; was %s", k.name, told(y), e, was)
			}
		}
	}
}

// R2: what was written shares nothing with what was handed in, nor with what is written otherwise.
func TestBytesAreNewMemory(t *testing.T) {
	for _, k := range kinds() {
		for _, elements := range []int{0, 1, 3, 7} {
			x := k.filled(elements)
			want, was := k.model(x), toldWhole(k, x)
			one, _ := k.write(x)
			other, _ := k.write(x)
			apart(t, k.name, append([]room{roomOf(reflect.ValueOf(one)), roomOf(reflect.ValueOf(other))}, rooms(k, x)...))
			overwrite(one)
			if string(other) != want || !slices.Equal(toldWhole(k, x), was) {
				t.Errorf("%s: one answer changed another one, or what was handed in", k.name)
			}
			if last, _ := k.write(x); string(last) != want {
				t.Errorf("%s: an answer changed a later one", k.name)
			}
		}
	}
}

// R2: likewise of what was read: no two of its lists share any, with or without elements.
func TestListsAreNewMemory(t *testing.T) {
	for _, k := range kinds() {
		for _, elements := range []int{0, 1, 2, 3, 5, 7} {
			b := append([]byte(k.model(k.filled(elements))), "spare room"...)
			s := b[:len(b)-len("spare room")]
			one, _ := k.read(s)
			other, _ := k.read(bytes.Clone(s))
			again, _ := k.read(s)
			want := told(one)
			l := append(rooms(k, one), rooms(k, other)...)
			apart(t, k.name, append(append(l, rooms(k, again)...), roomOf(reflect.ValueOf(s))))
			change(one)
			if told(other) != want || told(again) != want {
				t.Errorf("%s: one answer changed another one", k.name)
			}
		}
	}
}

// room is where a list lies, with its spare room.
type room struct{ from, to uintptr }

func roomOf(list reflect.Value) room {
	from := list.Pointer()
	return room{from, from + uintptr(list.Cap())*list.Type().Elem().Size()}
}

func rooms(k kind, x reflect.Value) []room {
	var l []room
	for _, lists := range lists(k, x) {
		for _, list := range lists {
			l = append(l, roomOf(list))
		}
	}
	return l
}

// apart tells a fault, unless no two rooms have anything in common.
func apart(t *testing.T, what string, l []room) {
	t.Helper()
	l = slices.DeleteFunc(l, func(r room) bool { return r.from == r.to })
	slices.SortFunc(l, func(a, b room) int { return cmp.Compare(a.from, b.from) })
	for i := range len(l) - 1 {
		if l[i].to > l[i+1].from {
			t.Errorf("%s: two lists share memory", what)
		}
	}
}
