package pack

import (
	"bytes"

	"hanse/amount"
	"hanse/api"
)

// Writer keeps what was written; its zero value has written nothing.
type Writer struct {
	b    []byte
	e    api.Errno
	room *room
}

// room is the memory behind a writer's bytes: only its owner may write there, and only from that place on.
type room struct {
	owner *Writer
	from  int
}

// Uint writes a number.
func (w *Writer) Uint(v uint64) {
	for v >= more {
		w.put(byte(v) | more)
		v >>= groupBits
	}
	w.put(byte(v))
}

// Int writes a whole number.
func (w *Writer) Int(n int) {
	w.Uint(folded(n))
}

// Mark writes a mark.
func (w *Writer) Mark(is bool) {
	if is {
		w.Uint(1)
	} else {
		w.Uint(0)
	}
}

// Text writes a text, of MaxPayload bytes at most.
func (w *Writer) Text(b []byte) {
	if len(b) > api.MaxPayload {
		w.fail(api.ErrLong)
		return
	}
	w.Uint(uint64(len(b)))
	w.put(b...)
}

// Amount writes an amount.
func (w *Writer) Amount(x complex128) {
	nodes, lics, e := amount.Parts(x)
	if e != api.OK {
		w.fail(e)
		return
	}
	w.Uint(uint64(nodes))
	w.Uint(uint64(lics))
}

// Bytes answers all that was written, or the error that came first.
func (w *Writer) Bytes() ([]byte, api.Errno) {
	if w.e != api.OK {
		return nil, w.e
	}
	return bytes.Clone(w.b), api.OK
}

func (w *Writer) put(b ...byte) {
	if w.e != api.OK {
		return
	}
	// A Writer that was copied as a value, or set back to a copy, must not write over the other one's bytes.
	if w.room == nil || w.room.owner != w || w.room.from != len(w.b) {
		w.b, w.room = bytes.Clone(w.b), &room{owner: w}
	}
	w.b = append(w.b, b...)
	w.room.from = len(w.b)
}

// fail keeps the first error; what was written is never told again.
func (w *Writer) fail(e api.Errno) {
	if w.e == api.OK {
		*w = Writer{e: e}
	}
}
