package wire_test

import (
	"bytes"
	"math"
	"math/rand"
	"reflect"
	"slices"
	"strings"
	"testing"

	"hanse/api"
	"hanse/wire"
)

// bytesAre tells a fault, unless a call answered these bytes.
func bytesAre(t *testing.T, what string, want string, b []byte, e api.Errno) {
	t.Helper()
	if string(b) != want || e != api.OK {
		t.Errorf("%s: %x, %d; want %x", what, b, e, want)
	}
}

// P5.1: both examples, and the shortest of each.
func TestExamples(t *testing.T) {
	b, e := wire.Reply(api.Reply{})
	bytesAre(t, "Reply", "\x00\x00\x00\x00\x00\x00\x00", b, e)
	b, e = wire.Bundle()
	bytesAre(t, "Bundle", "\x00", b, e)
	b, e = wire.Rec(api.Rec{})
	bytesAre(t, "Rec", strings.Repeat("\x00", 26), b, e)
	b, e = wire.Cmd(api.Cmd{})
	bytesAre(t, "Cmd", strings.Repeat("\x00", 20), b, e)
	b, e = wire.Frame(api.Frame{})
	bytesAre(t, "Frame", strings.Repeat("\x00", 7), b, e)
	b, e = wire.State(api.State{})
	bytesAre(t, "State", strings.Repeat("\x00", 13), b, e)
	b, e = wire.Bundle(api.Msg{}, api.Msg{})
	bytesAre(t, "Bundle of two", "\x02"+strings.Repeat("\x00", 2*19), b, e)
}

// P5.1: lengths are numbers, all else that is an int is a whole number.
func TestKnownBytes(t *testing.T) {
	job := api.Job{ID: api.ID{At: 1, N: -1}, User: 64, Need: 3 + 128i, Wall: -64, Run: -65, Base: 4, After: 5, Sites: []int{6, -7}, Pact: true}
	const jobBytes = "\x02\x01\x80\x01\x03\x80\x01\x7f\x81\x01\x08\x0a\x02\x0c\x0d\x01"
	b, e := wire.Cmd(api.Cmd{Kind: 1, ID: api.ID{At: 2, N: 3}, N: -4, On: true, Job: job, Busy: api.Busy{From: 5, To: 6, Need: 7i}})
	bytesAre(t, "Cmd", "\x02\x04\x06\x07\x01"+jobBytes+"\x0a\x0c\x00\x07", b, e)
	b, e = wire.Bundle(api.Msg{Kind: 1, ID: api.ID{At: 2, N: 3}, Token: 4, Tick: 5, How: 6, On: true, Job: job, Spans: []api.Span{{From: 7, To: 8}, {From: 9, To: 10}}})
	bytesAre(t, "Bundle", "\x01\x02\x04\x06\x08\x0a\x0c\x01"+jobBytes+"\x02\x0e\x10\x12\x14", b, e)
	b, e = wire.Reply(api.Reply{Code: -1, ID: api.ID{At: 2, N: 3}, N: 4, Phase: 5, How: 6, Holder: -1})
	bytesAre(t, "Reply", "\x01\x04\x06\x08\x0a\x0c\x01", b, e)
	b, e = wire.Frame(api.Frame{From: 1, To: 2, Epoch: 3, Peer: 4, Seq: 5, Ack: 6, Body: bytes.Repeat([]byte{0xee}, 128)})
	bytesAre(t, "Frame", "\x02\x04\x06\x08\x0a\x0c\x80\x01"+strings.Repeat("\xee", 128), b, e)
	b, e = wire.Rec(api.Rec{Slots: make([]api.Slot, 128)})
	bytesAre(t, "Rec", strings.Repeat("\x00", 25)+"\x80\x01"+strings.Repeat("\x00", 3*128), b, e)
}

// P5.1, P5.2: by each field, each element of each list, some of each or none.
func TestEachPart(t *testing.T) {
	for _, k := range kinds() {
		k.right(t, "zero", k.zero())
		for elements := range 4 {
			k.right(t, "filled", k.filled(elements))
		}
		x := k.filled(2)
		each(k.name, x, func(path string, part reflect.Value) {
			switch part.Kind() {
			case reflect.Int:
				was := part.Int()
				for _, n := range ints() {
					part.SetInt(int64(n))
					k.right(t, path, x)
				}
				part.SetInt(was)
			case reflect.Bool:
				part.SetBool(false)
				k.right(t, path, x)
				part.SetBool(true)
			case reflect.Complex128:
				was := part.Complex()
				for _, n := range amounts() {
					part.SetComplex(n)
					k.right(t, path, x)
				}
				part.SetComplex(was)
			}
		})
	}
}

// P5.1, P5.2: each list with no element (nil, or not), one, as many as may be, one less; with one more it is not right.
func TestEachList(t *testing.T) {
	places := most()
	for _, k := range kinds() {
		x := k.filled(2)
		for path, l := range lists(k, x) {
			many, ok := places[path]
			if !ok {
				t.Errorf("%s: no such list", path)
			}
			delete(places, path)
			for _, list := range l {
				was := reflect.ValueOf(list.Interface())
				list.SetZero()
				k.right(t, path+": nil", x)
				for _, n := range []int{0, 1, many - 1, many} {
					list.Set(resized(was, n))
					k.right(t, path, x)
				}
				for _, n := range []int{many + 1, many + 2, 2*many + 1, many + 256} {
					list.Set(resized(was, n))
					k.unwritten(t, path+": too long", x)
					k.unread(t, path+": too long", k.model(x))
				}
				list.Set(was)
			}
		}
	}
	for path := range places {
		t.Errorf("%s: not tried", path)
	}
}

// resized answers a list of n elements: those of l, over and over.
func resized(l reflect.Value, n int) reflect.Value {
	long := reflect.MakeSlice(l.Type(), n, n)
	for i := range n {
		long.Index(i).Set(l.Index(i % l.Len()))
	}
	return long
}

// P5.1, P5.2: a list that is far too long is not right, whatever follows it.
func TestMuchTooLong(t *testing.T) {
	many := make([]int, 1<<21)
	job := api.Job{Sites: many}
	for i, e := range []api.Errno{
		errorOf(wire.Rec(api.Rec{Job: job})),
		errorOf(wire.Cmd(api.Cmd{Job: job})),
		errorOf(wire.Bundle(api.Msg{Job: job})),
		errorOf(wire.Bundle(make([]api.Msg, 1<<12)...)),
		errorOf(wire.Frame(api.Frame{Body: make([]byte, 1<<21)})),
		errorOf(wire.State(api.State{Owns: []api.Own{{Marks: many}}})),
		errorOf(wire.State(api.State{Copies: make([]api.Copy, 1<<12), Recs: 5})),
		errorOf(wire.State(api.State{Owns: make([]api.Own, 1025), Copies: make([]api.Copy, 1025)})),
	} {
		if e != api.ErrWire {
			t.Errorf("%d: %d", i, e)
		}
	}
}

func errorOf(_ []byte, e api.Errno) api.Errno {
	return e
}

// P5.1, P5.2: both wherever an amount may stand.
func TestNoAmounts(t *testing.T) {
	for _, k := range kinds() {
		for _, elements := range []int{1, 3} {
			x := k.filled(elements)
			each(k.name, x, func(path string, part reflect.Value) {
				if part.Kind() != reflect.Complex128 {
					return
				}
				was := part.Complex()
				for _, n := range noAmounts() {
					part.SetComplex(n)
					k.unwritten(t, path, x)
				}
				part.SetComplex(was)
			})
		}
	}
}

// P5.2, R5: a part that is -0 is written like 0, and read as 0.
func TestMinusZero(t *testing.T) {
	zero := minusZero()
	for _, k := range kinds() {
		x := k.filled(2)
		each(k.name, x, func(path string, part reflect.Value) {
			if part.Kind() != reflect.Complex128 {
				return
			}
			was := part.Complex()
			for _, c := range []struct{ given, read complex128 }{
				{complex(zero, zero), 0}, {complex(zero, 0), 0}, {complex(0, zero), 0}, {complex(zero, 3), 3i}, {complex(3, zero), 3}, {complex(great, zero), great},
			} {
				part.SetComplex(c.given)
				b, e := k.write(x)
				part.SetComplex(c.read)
				if string(b) != k.model(x) || e != api.OK {
					t.Errorf("%s: %v: %s, %d", path, c.given, short(b), e)
				}
				if y, e := k.read(b); told(y) != told(x) || e != api.OK {
					t.Errorf("%s: %v: read: %s, %d", path, c.given, told(y), e)
				}
			}
			part.SetComplex(was)
		})
	}
	b, _ := wire.State(api.State{Cap: complex(zero, zero)})
	s, e := wire.ReadState(b)
	if s.Cap != 0 || math.Signbit(real(s.Cap)) || math.Signbit(imag(s.Cap)) || e != api.OK {
		t.Errorf("%v, %d", s.Cap, e)
	}
}

// P5.1: an element that is not right, ahead of, among and behind others that are, as many as may be.
func TestWrongElements(t *testing.T) {
	long := api.Job{Sites: make([]int, 9)}
	no := api.Job{Need: 0.5}
	late := []api.Offer{{}, {}, {}, {}, {}, {}, {}, {Spans: make([]api.Span, 9)}}
	for i := range 16 {
		for _, m := range []api.Msg{{Job: long}, {Job: no}, {Spans: make([]api.Span, 9)}} {
			l := make([]api.Msg, 16)
			l[i] = m
			if b, e := wire.Bundle(l...); len(b) != 0 || e != api.ErrWire {
				t.Errorf("message %d: %s, %d", i, short(b), e)
			}
		}
	}
	for _, i := range []int{0, 1, 511, 1022, 1023} {
		for _, o := range []api.Own{{Job: long}, {Job: no}, {Marks: make([]int, 9)}, {Offers: make([]api.Offer, 9)}, {Parts: make([]api.Part, 9)}, {Offers: late}} {
			s := api.State{Owns: make([]api.Own, 1024)}
			s.Owns[i] = o
			if b, e := wire.State(s); len(b) != 0 || e != api.ErrWire {
				t.Errorf("own job %d: %s, %d", i, short(b), e)
			}
		}
		for _, c := range []api.Copy{{Job: long}, {Job: no}} {
			s := api.State{Copies: make([]api.Copy, 1024)}
			s.Copies[i] = c
			if b, e := wire.State(s); len(b) != 0 || e != api.ErrWire {
				t.Errorf("copy %d: %s, %d", i, short(b), e)
			}
		}
		s := api.State{Resvs: make([]api.Resv, 1024)}
		s.Resvs[i].Busy.Need = -1i
		if b, e := wire.State(s); len(b) != 0 || e != api.ErrWire {
			t.Errorf("reservation %d: %s, %d", i, short(b), e)
		}
	}
}

// P5.2, P5.3: no strict beginning is read, nor anything longer; what lies behind b's length is not looked at.
func TestReadNeitherLessNorMore(t *testing.T) {
	for _, k := range kinds() {
		k.unread(t, "nothing", "")
		for elements := range 3 {
			s := k.model(k.filled(elements))
			given := []byte(s)
			for n := range len(given) {
				if x, e := k.read(given[:n]); told(x) != told(k.zero()) || e != api.ErrWire {
					t.Errorf("%s: cut off at %d: %s, %d", k.name, n, told(x), e)
				}
			}
			if string(given) != s {
				t.Errorf("%s: bytes were changed", k.name)
			}
			for b := range 256 {
				k.unread(t, "a byte more", s+string([]byte{byte(b)}))
			}
			k.unread(t, "twice", s+s)
			k.unread(t, "a byte ahead", "\x00"+s)
		}
	}
}

// P5.2: numbers that are not written in as few bytes as can be, or are too great; no marks; no amounts; lengths that may not be, whether so many bytes are there or not.
func TestReadWrongBytes(t *testing.T) {
	for _, k := range kinds() {
		for elements := range 3 {
			l := model(k.name, k.filled(elements))
			for i, token := range l {
				for _, b := range wrong(token) {
					bad := slices.Clone(l)
					bad[i].b = b
					s := joined(bad)
					k.unread(t, token.path+": wrong "+token.what, s)
					k.unread(t, token.path+": wrong "+token.what+" and more", s+strings.Repeat("\x00", 40))
				}
			}
		}
	}
}

// wrong answers bytes that may not stand where those of t do.
func wrong(t token) []string {
	const ff = "\xff\xff\xff\xff\xff\xff\xff\xff\xff"
	if t.what == "text" {
		return nil
	}
	last := len(t.b) - 1
	wide := t.b[:last] + string([]byte{t.b[last] | 0x80}) + "\x00"
	l := []string{wide, ff + "\x02", ff + "\x7f", ff + "\xff\x01"}
	switch t.what {
	case "mark":
		l = append(l, "\x02", "\x03", "\x7f", "\x80\x01", "\x81\x01", number(1<<32), number(1<<63), number(1<<64-1))
	case "part":
		l = append(l, number(great+1), number(1<<32), number(1<<63), number(1<<64-1))
	case "length":
		many := uint64(most()[t.path])
		for _, n := range []uint64{many + 1, many + 2, 2 * many, 1 << 31, 1 << 32, 1<<32 + 1, 1 << 63, 1<<63 + 1, 1<<64 - 1} {
			l = append(l, number(n))
		}
	}
	return l
}

// P5.2: a length above what may be is told, where just so many elements are there and where none is.
func TestReadTooLong(t *testing.T) {
	zeros := func(n int) string { return strings.Repeat("\x00", n) }
	for _, k := range kinds() {
		l := model(k.name, k.zero())
		for i, token := range l {
			if token.what != "length" {
				continue
			}
			for _, n := range []int{0, 1, 8, 9, 1 << 12, 1<<17 + 1, 1 << 18} {
				bad := slices.Clone(l)
				bad[i].b = number(uint64(most()[token.path]+1)) + zeros(n)
				k.unread(t, token.path+": too long", joined(bad))
			}
		}
	}
}

// P5.3: what is read is written in just these bytes, whatever they are.
func TestWriteWhatWasRead(t *testing.T) {
	random := rand.New(rand.NewSource(1))
	for _, k := range kinds() {
		var all []string
		for elements := range 4 {
			all = append(all, k.model(k.filled(elements)))
		}
		good := 0
		for range 5000 {
			b := []byte(all[random.Intn(len(all))])
			for range random.Intn(4) {
				b[random.Intn(len(b))] = []byte{0, 1, 2, 3, 8, 9, 0x7f, 0x80, 0x81, 0xff, byte(random.Intn(256))}[random.Intn(11)]
			}
			x, e := k.read(b)
			if e != api.OK {
				if told(x) != told(k.zero()) || e != api.ErrWire {
					t.Errorf("%s: %x: %s, %d", k.name, b, told(x), e)
				}
				continue
			}
			good++
			if again, e := k.write(x); !bytes.Equal(again, b) || e != api.OK {
				t.Errorf("%s: %x is written as %x, %d", k.name, b, again, e)
			}
		}
		if good < 1000 {
			t.Errorf("%s: no more than %d could be read", k.name, good)
		}
	}
}

// P5.3: all of as few bytes as make a reply or an empty bundle.
func TestReadFewBytes(t *testing.T) {
	for b := range 256 {
		l, e := wire.ReadBundle([]byte{byte(b)})
		if b == 0 && (len(l) != 0 || e != api.OK) || b != 0 && e != api.ErrWire {
			t.Errorf("bundle %x: %v, %d", b, l, e)
		}
		for i := range 7 {
			s := make([]byte, 7)
			s[i] = byte(b)
			r, e := wire.ReadReply(s)
			if (b < 0x80) != (e == api.OK) {
				t.Errorf("reply %x: %v, %d", s, r, e)
			}
			if again, _ := wire.Reply(r); e == api.OK && !bytes.Equal(again, s) {
				t.Errorf("reply %x is written as %x", s, again)
			}
		}
	}
}

// P5.3: as much as may be in every place at once.
func TestGreatest(t *testing.T) {
	fields := func(k kind, elements func(path string) int) reflect.Value {
		x, last := k.zero(), 0
		each(k.name, x, func(path string, part reflect.Value) {
			switch {
			case part.Kind() == reflect.Slice && part.Type().Elem().Kind() == reflect.Uint8:
				part.SetBytes(bytes.Repeat([]byte{0xff}, elements(path)))
			case part.Kind() == reflect.Slice:
				part.Set(reflect.MakeSlice(part.Type(), elements(path), elements(path)))
			case part.Kind() != reflect.Struct:
				fill(part, 0, &last)
			}
		})
		return x
	}
	for _, k := range kinds() {
		k.right(t, "greatest", fields(k, func(path string) int { return most()[path] }))
	}
}

// P5.1, P5.2, R3: to ask again is to be told the same.
func TestAskedAgain(t *testing.T) {
	for _, k := range kinds() {
		x := k.filled(2)
		bad := k.zero()
		for range 3 {
			k.right(t, "again", x)
			k.unread(t, "again", "\xff")
			k.right(t, "zero again", bad)
		}
	}
}
