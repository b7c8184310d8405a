package wire_test

import (
	"encoding/binary"
	"fmt"
	"math"
	"reflect"
	"strings"
	"testing"

	"hanse/api"
	"hanse/wire"
)

const (
	great    = 1 << 20
	longest  = 1 << 17
	leastInt = -1 << 63
	mostInt  = 1<<63 - 1
)

// kind is one of those that have bytes.
type kind struct {
	name  string
	zero  func() reflect.Value // that can be set
	write func(x reflect.Value) ([]byte, api.Errno)
	read  func(b []byte) (reflect.Value, api.Errno)
}

func kindOf[T any](name string, write func(x T) ([]byte, api.Errno), read func(b []byte) (T, api.Errno)) kind {
	return kind{
		name: name,
		zero: func() reflect.Value { return reflect.ValueOf(new(T)).Elem() },
		write: func(x reflect.Value) ([]byte, api.Errno) {
			return write(x.Interface().(T))
		},
		read: func(b []byte) (reflect.Value, api.Errno) {
			x, e := read(b)
			return reflect.ValueOf(&x).Elem(), e
		},
	}
}

func kinds() []kind {
	return []kind{
		kindOf("Rec", wire.Rec, wire.ReadRec),
		kindOf("Bundle", func(l []api.Msg) ([]byte, api.Errno) { return wire.Bundle(l...) }, wire.ReadBundle),
		kindOf("Cmd", wire.Cmd, wire.ReadCmd),
		kindOf("Reply", wire.Reply, wire.ReadReply),
		kindOf("Frame", wire.Frame, wire.ReadFrame),
		kindOf("State", wire.State, wire.ReadState),
	}
}

// most is how many elements each list may have.
func most() map[string]int {
	return map[string]int{
		"Rec.Job.Sites": 8, "Rec.Spans": 8, "Rec.Slots": 256,
		"Bundle": 16, "Bundle.Job.Sites": 8, "Bundle.Spans": 8,
		"Cmd.Job.Sites": 8,
		"Frame.Body":    longest,
		"State.Owns":    1024, "State.Copies": 1024, "State.Resvs": 1024, "State.Plan": 1024, "State.Uses": 1024,
		"State.Owns.Job.Sites": 8, "State.Copies.Job.Sites": 8,
		"State.Owns.Marks": 8, "State.Owns.Offers": 8, "State.Owns.Parts": 8, "State.Owns.Offers.Spans": 8,
	}
}

// token is what is written for one number, one mark, one length or one part of an amount.
type token struct {
	path string
	what string // "number", "mark", "length", "part", "text" (the bytes themselves)
	b    string
}

// model tells what the chapter says of x, by the fields as api declares them.
func model(path string, x reflect.Value) []token {
	switch x.Kind() {
	case reflect.Int:
		return []token{{path, "number", string(binary.AppendVarint(nil, x.Int()))}}
	case reflect.Bool:
		if x.Bool() {
			return []token{{path, "mark", "\x01"}}
		}
		return []token{{path, "mark", "\x00"}}
	case reflect.Complex128:
		return []token{{path, "part", number(uint64(real(x.Complex())))}, {path, "part", number(uint64(imag(x.Complex())))}}
	case reflect.Slice:
		l := []token{{path, "length", number(uint64(x.Len()))}}
		if x.Type().Elem().Kind() == reflect.Uint8 {
			return append(l, token{path, "text", string(x.Bytes())})
		}
		for i := range x.Len() {
			l = append(l, model(path, x.Index(i))...)
		}
		return l
	case reflect.Struct:
		var l []token
		for i := range x.NumField() {
			l = append(l, model(path+"."+x.Type().Field(i).Name, x.Field(i))...)
		}
		return l
	}
	panic("no such field: " + path)
}

// number tells a number as chapter 3 writes it.
func number(v uint64) string {
	return string(binary.AppendUvarint(nil, v))
}

func joined(l []token) string {
	var s strings.Builder
	for _, t := range l {
		s.WriteString(t.b)
	}
	return s.String()
}

func (k kind) model(x reflect.Value) string {
	return joined(model(k.name, x))
}

// fill gives each part of x another value, and each list that many elements, with spare room that is filled too.
func fill(x reflect.Value, elements int, last *int) {
	*last++
	n := *last
	switch x.Kind() {
	case reflect.Int:
		x.SetInt(int64(n * (1 - n%2*2))) // one in two is below 0
	case reflect.Uint8:
		x.SetUint(uint64(n % 251))
	case reflect.Bool:
		x.SetBool(true)
	case reflect.Complex128:
		x.SetComplex(complex(float64(n%great), float64(2*n%great)))
	case reflect.Slice:
		x.Set(reflect.MakeSlice(x.Type(), elements+2, elements+3))
		for i := range x.Len() {
			fill(x.Index(i), elements, last)
		}
		x.SetLen(elements)
	case reflect.Struct:
		for i := range x.NumField() {
			fill(x.Field(i), elements, last)
		}
	}
}

func (k kind) filled(elements int) reflect.Value {
	x, last := k.zero(), 0
	fill(x, elements, &last)
	return x
}

// each calls f with each part of x, lists and elements and fields, and with where it is.
func each(path string, x reflect.Value, f func(path string, x reflect.Value)) {
	f(path, x)
	switch x.Kind() {
	case reflect.Slice:
		if x.Type().Elem().Kind() != reflect.Uint8 {
			for i := range x.Len() {
				each(path, x.Index(i), f)
			}
		}
	case reflect.Struct:
		for i := range x.NumField() {
			each(path+"."+x.Type().Field(i).Name, x.Field(i), f)
		}
	}
}

// lists answers each list in x whose elements are to be told, by where it is.
func lists(k kind, x reflect.Value) map[string][]reflect.Value {
	m := map[string][]reflect.Value{}
	each(k.name, x, func(path string, x reflect.Value) {
		if x.Kind() == reflect.Slice {
			m[path] = append(m[path], x)
		}
	})
	return m
}

// told is x as a text, in which nil is like an empty list, but 0 not like -0.
func told(x reflect.Value) string {
	return fmt.Sprintf("%+v", x.Interface())
}

// short is b for a message.
func short(b []byte) string {
	return fmt.Sprintf("%.80x (of %d)", b, len(b))
}

// right tells a fault, unless x is written as these bytes, and is read again.
func (k kind) right(t *testing.T, what string, x reflect.Value) {
	t.Helper()
	want := k.model(x)
	b, e := k.write(x)
	if string(b) != want || e != api.OK {
		t.Errorf("%s: %s: written: %s, %d; want %s", k.name, what, short(b), e, short([]byte(want)))
	}
	y, e := k.read([]byte(want))
	if told(y) != told(x) || e != api.OK {
		t.Errorf("%s: %s: read: %.800s, %d; want %.800s", k.name, what, told(y), e, told(x))
	}
}

// unwritten tells a fault, unless x is not written.
func (k kind) unwritten(t *testing.T, what string, x reflect.Value) {
	t.Helper()
	if b, e := k.write(x); len(b) != 0 || e != api.ErrWire {
		t.Errorf("%s: %s: written: %s, %d; want ErrWire", k.name, what, short(b), e)
	}
}

// unread tells a fault, unless s is not read.
func (k kind) unread(t *testing.T, what, s string) {
	t.Helper()
	if x, e := k.read([]byte(s)); told(x) != told(k.zero()) || e != api.ErrWire {
		t.Errorf("%s: %s: read: %.800s, %d; want ErrWire", k.name, what, told(x), e)
	}
}

func minusZero() float64 {
	return math.Copysign(0, -1)
}

func ints() []int {
	return []int{leastInt, leastInt + 1, -1 << 40, -65, -64, -2, -1, 0, 1, 2, 63, 64, 1<<32 + 1, 1 << 40, mostInt - 1, mostInt}
}

func amounts() []complex128 {
	return []complex128{0, 1, 1i, 127 + 128i, 128 + 127i, great - 1 + 1i, great, great * 1i, great + great*1i}
}

func noAmounts() []complex128 {
	var l []complex128
	for _, p := range []float64{
		0.5, 1.5, great - 0.5, math.SmallestNonzeroFloat64, math.Nextafter(great, 0),
		-1, -0.5, -great, -math.SmallestNonzeroFloat64, -math.MaxFloat64,
		math.Nextafter(great, 2*great), great + 1, 1 << 32, 1 << 64, math.MaxFloat64,
		math.NaN(), math.Inf(1), math.Inf(-1),
	} {
		l = append(l, complex(p, 5), complex(5, p), complex(p, minusZero()), complex(p, p))
	}
	return l
}
