package pack_test

import (
	"bytes"
	"math"
	"strings"
	"testing"

	"hanse/api"
	"hanse/pack"
)

const (
	great    = 1 << 20
	longest  = 1 << 17
	leastInt = -1 << 63
	mostInt  = 1<<63 - 1
	mostUint = 1<<64 - 1
)

// ff is what a number of ten bytes has ahead of its last one, if all bits of it are set.
const ff = "\xff\xff\xff\xff\xff\xff\xff\xff\xff"

// zeros is likewise, if none is.
const zeros = "\x80\x80\x80\x80\x80\x80\x80\x80\x80"

// written is what numbers look like, at both ends of each length.
func written() map[uint64]string {
	return map[uint64]string{
		0: "\x00", 1: "\x01", 2: "\x02", 126: "\x7e", 127: "\x7f",
		128: "\x80\x01", 129: "\x81\x01", 255: "\xff\x01", 256: "\x80\x02", 300: "\xac\x02",
		1<<14 - 1: "\xff\x7f", 1 << 14: "\x80\x80\x01", 1<<14 + 1: "\x81\x80\x01",
		1<<21 - 1: ff[:2] + "\x7f", 1 << 21: zeros[:3] + "\x01",
		1<<28 - 1: ff[:3] + "\x7f", 1 << 28: zeros[:4] + "\x01",
		1<<32 - 1: ff[:4] + "\x0f", 1 << 32: zeros[:4] + "\x10",
		1<<35 - 1: ff[:4] + "\x7f", 1 << 35: zeros[:5] + "\x01",
		1<<42 - 1: ff[:5] + "\x7f", 1 << 42: zeros[:6] + "\x01",
		1<<49 - 1: ff[:6] + "\x7f", 1 << 49: zeros[:7] + "\x01",
		1<<56 - 1: ff[:7] + "\x7f", 1 << 56: zeros[:8] + "\x01",
		1<<63 - 1: ff[:8] + "\x7f", 1 << 63: zeros + "\x01", 1<<63 + 1: "\x81" + zeros[1:] + "\x01",
		mostUint - 1: "\xfe" + ff[1:] + "\x01", mostUint: ff + "\x01",
	}
}

// writtenInts is what whole numbers look like.
func writtenInts() map[int]string {
	return map[int]string{
		0: "\x00", -1: "\x01", 1: "\x02", -2: "\x03", 2: "\x04", 63: "\x7e", -64: "\x7f", 64: "\x80\x01", -65: "\x81\x01",
		1 << 40: zeros[:5] + "\x40", -1 << 40: ff[:5] + "\x3f",
		1<<62 - 1: "\xfe" + ff[:7] + "\x7f", -1 << 62: ff[:8] + "\x7f", 1 << 62: zeros + "\x01", -1<<62 - 1: "\x81" + zeros[1:] + "\x01",
		mostInt: "\xfe" + ff[1:] + "\x01", leastInt: ff + "\x01",
	}
}

// noNumbers is what no number begins with.
func noNumbers() []string {
	l := []string{
		"", "\x80", "\xff", "\x80\x80", zeros, ff, // too early an end
		"\x80\x00", "\x81\x00", "\xff\x00", "\x80\x80\x00", "\xff\x80\x00", "\x80\x00\x01", ff[:8] + "\x00", zeros[:8] + "\x00", zeros + "\x00", ff + "\x00", // an empty last group
		zeros + "\x02", zeros + "\x03", zeros + "\x7f", ff + "\x02", ff + "\x03", ff + "\x7f", // above 2^64 - 1
		zeros + "\x80", zeros + "\x80\x00", zeros + "\x80\x01", zeros + "\x81\x00", zeros + "\x81\x01", ff + "\x81", ff + "\x81\x00", ff + "\xff\x01", ff + ff + "\x01", zeros + zeros + "\x01", // eleven bytes and more
	}
	for _, s := range written() {
		l = append(l, s[:len(s)-1])
	}
	return l
}

func noAmounts() []complex128 {
	l := []complex128{great + 1 + great*1i + 1i}
	for _, p := range []float64{-1, -0.5, 0.5, 1.5, great - 0.5, great + 0.5, great + 1, 1 << 32, 1 << 53, 1 << 63, 1 << 64, 1e300, -1e300, math.NaN(), math.Inf(1), math.Inf(-1)} {
		l = append(l, complex(p, 0), complex(0, p), complex(p, 5), complex(5, p), complex(p, p))
	}
	return l
}

func minusZero() float64 {
	return math.Copysign(0, -1)
}

// holds tells a fault, unless the writer answers these bytes.
func holds(t *testing.T, w *pack.Writer, want string) {
	t.Helper()
	if b, e := w.Bytes(); string(b) != want || e != api.OK {
		t.Errorf("Bytes() = %.40x (of %d), %d; want %.40x (of %d)", b, len(b), e, want, len(want))
	}
}

// failed tells a fault, unless the writer answers that error and nothing beside it.
func failed(t *testing.T, w *pack.Writer, want api.Errno) {
	t.Helper()
	if b, e := w.Bytes(); len(b) != 0 || e != want {
		t.Errorf("Bytes() = %.40x (of %d), %d; want error %d", b, len(b), e, want)
	}
}

// done tells a fault, unless Done answers that, however often it is asked.
func done(t *testing.T, what string, r *pack.Reader, want api.Errno) {
	t.Helper()
	for range 2 {
		if e := r.Done(); e != want {
			t.Errorf("%.40x: Done() = %d; want %d", what, e, want)
		}
	}
}

// dead tells a fault, unless each call answers its zero value, and Done that error.
func dead(t *testing.T, what string, r *pack.Reader, want api.Errno) {
	t.Helper()
	for range 2 {
		if v, n, is, b, x := r.Uint(), r.Int(), r.Mark(), r.Text(), r.Amount(); v != 0 || n != 0 || is || b != nil || x != 0 {
			t.Errorf("%.40x: behind the error: %d, %d, %v, %x, %v", what, v, n, is, b, x)
		}
		done(t, what, r, want)
	}
}

func write(f func(w *pack.Writer)) *pack.Writer {
	w := new(pack.Writer)
	f(w)
	return w
}

func read(s string) *pack.Reader {
	return pack.NewReader([]byte(s))
}

// P3.1
func TestWriteNothing(t *testing.T) {
	var w pack.Writer
	holds(t, &w, "")
	holds(t, &w, "")
	w.Uint(7)
	holds(t, &w, "\x07")
}

// P3.1
func TestWriteNumbers(t *testing.T) {
	for v, s := range written() {
		holds(t, write(func(w *pack.Writer) { w.Uint(v) }), s)
	}
	for n, s := range writtenInts() {
		holds(t, write(func(w *pack.Writer) { w.Int(n) }), s)
	}
}

// P3.1
func TestWriteMarks(t *testing.T) {
	holds(t, write(func(w *pack.Writer) { w.Mark(true) }), "\x01")
	holds(t, write(func(w *pack.Writer) { w.Mark(false) }), "\x00")
}

// P3.1
func TestWriteTexts(t *testing.T) {
	long := strings.Repeat("ab", longest/2)
	for _, c := range []struct{ text, s string }{
		{"", "\x00"},
		{"ab", "\x02ab"},
		{"\x00", "\x01\x00"},
		{"\x80\xff\xc3", "\x03\x80\xff\xc3"},
		{long[:127], "\x7f" + long[:127]},
		{long[:128], "\x80\x01" + long[:128]},
		{long[1:], "\xff\xff\x07" + long[1:]},
		{long, "\x80\x80\x08" + long},
	} {
		holds(t, write(func(w *pack.Writer) { w.Text([]byte(c.text)) }), c.s)
	}
	holds(t, write(func(w *pack.Writer) { w.Text(nil) }), "\x00")
}

// P3.1, R5: a part that is -0 counts as 0.
func TestWriteAmounts(t *testing.T) {
	zero := minusZero()
	for _, c := range []struct {
		x complex128
		s string
	}{
		{0, "\x00\x00"},
		{3 + 2i, "\x03\x02"},
		{300, "\xac\x02\x00"},
		{128i, "\x00\x80\x01"},
		{great, "\x80\x80\x40\x00"},
		{great * 1i, "\x00\x80\x80\x40"},
		{great + great*1i, "\x80\x80\x40\x80\x80\x40"},
		{great - 1 + (great-1)*1i, "\xff\xff\x3f\xff\xff\x3f"},
		{complex(zero, zero), "\x00\x00"},
		{complex(zero, 5), "\x00\x05"},
		{complex(5, zero), "\x05\x00"},
	} {
		holds(t, write(func(w *pack.Writer) { w.Amount(c.x) }), c.s)
	}
}

// P3.1: one behind the other, Bytes asked in between.
func TestWriteOneBehindTheOther(t *testing.T) {
	var w pack.Writer
	want := ""
	for _, c := range []struct {
		f func()
		s string
	}{
		{func() { w.Uint(300) }, "\xac\x02"},
		{func() { w.Int(-300) }, "\xd7\x04"},
		{func() { w.Mark(true) }, "\x01"},
		{func() { w.Text([]byte("ab")) }, "\x02ab"},
		{func() { w.Text(nil) }, "\x00"},
		{func() { w.Amount(3 + 200i) }, "\x03\xc8\x01"},
		{func() { w.Mark(false) }, "\x00"},
		{func() { w.Uint(mostUint) }, ff + "\x01"},
	} {
		c.f()
		want += c.s
		holds(t, &w, want)
	}
}

// P3.1: whatever stands ahead of it, and comes behind it.
func TestWriteRefusesWhatIsTooLong(t *testing.T) {
	for _, n := range []int{longest + 1, longest + 2, 2 * longest, 1 << 21} {
		failed(t, write(func(w *pack.Writer) { w.Text(make([]byte, n)) }), api.ErrLong)
		failed(t, write(func(w *pack.Writer) {
			w.Uint(5)
			w.Text(make([]byte, n))
			w.Uint(5)
			w.Text(nil)
		}), api.ErrLong)
	}
}

// P3.1
func TestWriteRefusesWhatIsNoAmount(t *testing.T) {
	for _, x := range noAmounts() {
		failed(t, write(func(w *pack.Writer) { w.Amount(x) }), api.ErrAmount)
		failed(t, write(func(w *pack.Writer) {
			w.Amount(3 + 2i)
			w.Amount(x)
			w.Amount(3 + 2i)
		}), api.ErrAmount)
	}
}

// P3.1: the first error stays, whatever is written then.
func TestWriteKeepsTheFirstError(t *testing.T) {
	long := make([]byte, longest+1)
	for _, c := range []struct {
		first, then func(w *pack.Writer)
		want        api.Errno
	}{
		{func(w *pack.Writer) { w.Text(long) }, func(w *pack.Writer) { w.Amount(0.5) }, api.ErrLong},
		{func(w *pack.Writer) { w.Amount(0.5) }, func(w *pack.Writer) { w.Text(long) }, api.ErrAmount},
	} {
		var w pack.Writer
		w.Uint(9)
		c.first(&w)
		failed(t, &w, c.want)
		failed(t, &w, c.want)
		for _, f := range []func(w *pack.Writer){
			c.then,
			func(w *pack.Writer) { w.Uint(1) },
			func(w *pack.Writer) { w.Int(-1) },
			func(w *pack.Writer) { w.Mark(true) },
			func(w *pack.Writer) { w.Text([]byte("ab")) },
			func(w *pack.Writer) { w.Amount(1) },
			c.first,
		} {
			f(&w)
			failed(t, &w, c.want)
		}
	}
}

// P3.2
func TestReadNumbers(t *testing.T) {
	for v, s := range written() {
		r := read(s)
		if got := r.Uint(); got != v {
			t.Errorf("%x: %d; want %d", s, got, v)
		}
		done(t, s, r, api.OK)
		longer := read(s + "\x05")
		if got := longer.Uint(); got != v {
			t.Errorf("%x and more: %d; want %d", s, got, v)
		}
		done(t, s, longer, api.ErrPack)
	}
	for n, s := range writtenInts() {
		r := read(s)
		if got := r.Int(); got != n {
			t.Errorf("%x: %d; want %d", s, got, n)
		}
		done(t, s, r, api.OK)
	}
}

// P3.2: whatever is asked for that begins with a number.
func TestReadRefusesWhatIsNoNumber(t *testing.T) {
	for _, s := range noNumbers() {
		for what, f := range map[string]func(r *pack.Reader) bool{
			"Uint":   func(r *pack.Reader) bool { return r.Uint() == 0 },
			"Int":    func(r *pack.Reader) bool { return r.Int() == 0 },
			"Mark":   func(r *pack.Reader) bool { return !r.Mark() },
			"Text":   func(r *pack.Reader) bool { return r.Text() == nil },
			"Amount": func(r *pack.Reader) bool { return r.Amount() == 0 },
		} {
			r := read(s)
			if !f(r) {
				t.Errorf("%x: %s answers something", s, what)
			}
			dead(t, s, r, api.ErrPack)
		}
	}
}

// P3.2
func TestReadMarks(t *testing.T) {
	r := read("\x01\x00\x01")
	if !r.Mark() || r.Mark() || !r.Mark() {
		t.Error("marks read otherwise")
	}
	done(t, "marks", r, api.OK)
	for _, s := range []string{"\x02", "\x03", "\x7f", "\x80\x01", "\x81\x01", "\x80\x02", zeros + "\x01", ff + "\x01"} {
		r := read(s + "\x01\x01")
		if r.Mark() {
			t.Errorf("%x: true", s)
		}
		dead(t, s, r, api.ErrPack)
	}
}

// P3.2
func TestReadTexts(t *testing.T) {
	long := strings.Repeat("ab", longest/2)
	for _, c := range []struct{ s, text string }{
		{"\x00", ""},
		{"\x02ab", "ab"},
		{"\x03\x80\xff\x00", "\x80\xff\x00"},
		{"\x7f" + long[:127], long[:127]},
		{"\x80\x01" + long[:128], long[:128]},
		{"\xff\xff\x07" + long[1:], long[1:]},
		{"\x80\x80\x08" + long, long},
	} {
		r := read(c.s)
		if b := r.Text(); string(b) != c.text {
			t.Errorf("%.40x: %.40x (of %d); want %.40x", c.s, b, len(b), c.text)
		}
		done(t, c.s, r, api.OK)
	}
}

// P3.2: a length above MaxPayload is told whether the bytes are there or not, ahead of that they are not.
func TestReadRefusesTexts(t *testing.T) {
	long := strings.Repeat("a", longest+1)
	for _, c := range []struct {
		s string
		e api.Errno
	}{
		{"\x01", api.ErrPack},
		{"\x05a", api.ErrPack},
		{"\x05abcd", api.ErrPack},
		{"\x80\x01" + long[:127], api.ErrPack},
		{"\x80\x80\x08", api.ErrPack},
		{"\x80\x80\x08" + long[:longest-1], api.ErrPack},
		{"\x81\x80\x08" + long, api.ErrLong},
		{"\x81\x80\x08" + long[:longest], api.ErrLong},
		{"\x81\x80\x08", api.ErrLong},
		{"\x82\x80\x08" + long + "aaa", api.ErrLong},
		{zeros[:4] + "\x10", api.ErrLong},          // 2^32
		{"\x81" + zeros[:3] + "\x10", api.ErrLong}, // 2^32 + 1
		{zeros[:4] + "\x10" + "abc", api.ErrLong},
		{ff[:8] + "\x7f", api.ErrLong},
		{zeros + "\x01", api.ErrLong},
		{"\x81" + zeros[1:] + "\x01", api.ErrLong},
		{ff + "\x01", api.ErrLong},
		{ff + "\x02", api.ErrPack},
		{ff + "\x81\x00", api.ErrPack},
		{ff + "\x81\x01", api.ErrPack},
		{"\x81\x80\x88", api.ErrPack},
		{"\x81\x80\x88\x00", api.ErrPack},
	} {
		r := read(c.s)
		if b := r.Text(); b != nil {
			t.Errorf("%.40x: %.40x", c.s, b)
		}
		dead(t, c.s, r, c.e)
	}
}

// P3.2
func TestReadAmounts(t *testing.T) {
	for _, c := range []struct {
		s string
		x complex128
	}{
		{"\x00\x00", 0},
		{"\x03\x02", 3 + 2i},
		{"\xac\x02\x00", 300},
		{"\x00\x80\x01", 128i},
		{"\x80\x80\x40\x00", great},
		{"\x00\x80\x80\x40", great * 1i},
		{"\x80\x80\x40\x80\x80\x40", great + great*1i},
	} {
		r := read(c.s)
		if x := r.Amount(); x != c.x || math.Signbit(real(x)) || math.Signbit(imag(x)) {
			t.Errorf("%x: %v; want %v", c.s, x, c.x)
		}
		done(t, c.s, r, api.OK)
	}
}

// P3.2: a number that can't be read is told whatever the other one is.
func TestReadRefusesAmounts(t *testing.T) {
	refuse := func(s string, want api.Errno) {
		t.Helper()
		r := read(s)
		if x := r.Amount(); x != 0 {
			t.Errorf("%x: %v", s, x)
		}
		dead(t, s, r, want)
	}
	tooGreat := []string{"\x81\x80\x40", zeros[:4] + "\x10", "\x83" + zeros[:3] + "\x10", ff[:8] + "\x7f", zeros + "\x01", "\x83" + zeros[1:] + "\x01", ff + "\x01"}
	for _, no := range tooGreat {
		for _, yes := range []string{"\x00", "\x05", "\x80\x80\x40"} {
			refuse(no+yes, api.ErrAmount)
			refuse(yes+no, api.ErrAmount)
			refuse(no+yes+"\x01\x01", api.ErrAmount)
		}
		for _, other := range tooGreat {
			refuse(no+other, api.ErrAmount)
		}
	}
	for _, no := range noNumbers() {
		refuse("\x05"+no, api.ErrPack)
		refuse("\x81\x80\x40"+no, api.ErrPack)
	}
	refuse("\x80\x00\x81\x80\x40", api.ErrPack)
	refuse(ff+"\x02\x05", api.ErrPack)
}

// P3.2: the first error stays, though another one would be told by what comes then.
func TestReadKeepsTheFirstError(t *testing.T) {
	for s, want := range map[string]api.Errno{
		"\x07\x80\x00\x81\x80\x08\x81\x80\x40\x00": api.ErrPack,
		"\x07\x81\x80\x08\x80\x00\x81\x80\x40\x00": api.ErrLong,
		"\x07\x81\x80\x08":                         api.ErrLong,
	} {
		r := read(s)
		if v := r.Uint(); v != 7 {
			t.Errorf("%x: %d", s, v)
		}
		if b := r.Text(); b != nil {
			t.Errorf("%x: %x", s, b)
		}
		dead(t, s, r, want)
	}
	r := read("\x81\x80\x40\x00\x02\x05a")
	if x := r.Amount(); x != 0 {
		t.Errorf("%v", x)
	}
	if r.Mark() || r.Text() != nil {
		t.Error("read behind the error")
	}
	dead(t, "amount", r, api.ErrAmount)
}

// P3.2: Done may be asked in between, and keeps nothing.
func TestDoneKeepsNothing(t *testing.T) {
	const s = "\x01\x02ab\x03\x02\x05\xac\x02"
	r := read(s)
	done(t, s, r, api.ErrPack)
	if !r.Mark() {
		t.Error("mark")
	}
	done(t, s, r, api.ErrPack)
	if b := r.Text(); string(b) != "ab" {
		t.Errorf("text %x", b)
	}
	done(t, s, r, api.ErrPack)
	if x := r.Amount(); x != 3+2i {
		t.Errorf("amount %v", x)
	}
	done(t, s, r, api.ErrPack)
	if n := r.Int(); n != -3 {
		t.Errorf("whole number %d", n)
	}
	done(t, s, r, api.ErrPack)
	if v := r.Uint(); v != 300 {
		t.Errorf("number %d", v)
	}
	done(t, s, r, api.OK)
	dead(t, s, r, api.ErrPack)
}

// P3.2: bytes that are left are an error, and can still be read; that there is nothing more is none.
func TestReadToTheEnd(t *testing.T) {
	for _, b := range [][]byte{nil, {}} {
		r := pack.NewReader(b)
		done(t, "nothing", r, api.OK)
		dead(t, "nothing", r, api.ErrPack)
	}
	r := read("\x05\x00")
	if r.Uint() != 5 {
		t.Error("first")
	}
	done(t, "one left", r, api.ErrPack)
	if r.Uint() != 0 {
		t.Error("second")
	}
	done(t, "none left", r, api.OK)
	r = read("\x00\x80")
	if len(r.Text()) != 0 {
		t.Error("text")
	}
	done(t, "no number left", r, api.ErrPack)
}

// R2: what is handed in stays, its spare room too.
func TestArgumentsStayAsTheyWere(t *testing.T) {
	whole := []byte("abcdef")
	var w pack.Writer
	w.Text(whole[:3])
	w.Text(whole[:0])
	w.Uint(1)
	holds(t, &w, "\x03abc\x00\x01")
	if string(whole) != "abcdef" {
		t.Errorf("Text changed %q", whole)
	}
	const s = "\x02ab\x01\x03\x02zz"
	given := []byte(s)
	r := pack.NewReader(given[:len(s)-2])
	text := r.Text()
	_ = append(text, "overwritten"...)
	if !r.Mark() || r.Amount() != 3+2i {
		t.Error("read otherwise")
	}
	done(t, s, r, api.OK)
	dead(t, s, r, api.ErrPack)
	if string(given) != s {
		t.Errorf("NewReader, or what followed, changed %q", given)
	}
}

// R2: what is handed in is not kept.
func TestArgumentsAreNotKept(t *testing.T) {
	var w pack.Writer
	text := []byte("ab")
	w.Text(text)
	text[0] = 'z'
	holds(t, &w, "\x02ab")
	given := []byte("\x02ab\x02cd")
	r := pack.NewReader(given)
	for i := range given {
		given[i] = 0xff
	}
	if b := r.Text(); string(b) != "ab" {
		t.Errorf("%q", b)
	}
	if b := r.Text(); string(b) != "cd" {
		t.Errorf("%q", b)
	}
}

// fill overwrites b and its spare room.
func fill(b []byte) {
	b = b[:cap(b)]
	for i := range b {
		b[i] = 0xee
	}
}

// R2: what Bytes answers shares nothing with the writer, nor with another answer.
func TestBytesIsNewMemory(t *testing.T) {
	var w pack.Writer
	for n := range 40 {
		w.Uint(uint64(n))
		first, _ := w.Bytes()
		other, _ := w.Bytes()
		want := bytes.Clone(other)
		fill(first)
		if !bytes.Equal(other, want) {
			t.Fatalf("%x; want %x", other, want)
		}
		holds(t, &w, string(want))
		w.Text([]byte("ab"))
		if !bytes.Equal(other, want) {
			t.Fatalf("%x behind a text; want %x", other, want)
		}
	}
}

// R2: what Text answers shares nothing with the reader, what it was given, nor another answer.
func TestTextIsNewMemory(t *testing.T) {
	given := []byte("\x02ab\x03cde\x00\x02fg")
	r := pack.NewReader(given)
	var l [][]byte
	for range 4 {
		l = append(l, r.Text())
		fill(l[len(l)-1][:0])
	}
	done(t, "texts", r, api.OK)
	if string(given) != "\x02ab\x03cde\x00\x02fg" {
		t.Errorf("given: %q", given)
	}
	r = pack.NewReader(given)
	one, other := r.Text(), r.Text()
	fill(one)
	if string(other) != "cde" {
		t.Errorf("the other: %q", other)
	}
	if len(r.Text()) != 0 || string(r.Text()) != "fg" {
		t.Error("read otherwise")
	}
}

// R3: objects have nothing in common, one that was copied from another neither.
func TestWritersHaveNothingInCommon(t *testing.T) {
	var one pack.Writer
	one.Text([]byte("abcdefghij"))
	other := one
	one.Uint(1)
	other.Uint(2)
	one.Uint(3)
	last := one
	one.Amount(-1)
	last.Uint(4)
	holds(t, &other, "\x0aabcdefghij\x02")
	holds(t, &last, "\x0aabcdefghij\x01\x03\x04")
	failed(t, &one, api.ErrAmount)
}

// R3: a writer may be set back to an earlier copy of itself, and a later copy stays as it is.
func TestWriterIsSetBack(t *testing.T) {
	var w pack.Writer
	w.Text([]byte("abcdefghij"))
	early := w
	w.Uint(1)
	late := w
	w = early
	w.Uint(2)
	holds(t, &early, "\x0aabcdefghij")
	holds(t, &late, "\x0aabcdefghij\x01")
	holds(t, &w, "\x0aabcdefghij\x02")
}

// R3
func TestReadersHaveNothingInCommon(t *testing.T) {
	r := read("\x05\x06\x07")
	r.Uint()
	s := *r
	if r.Uint() != 6 || s.Uint() != 6 || r.Uint() != 7 || s.Uint() != 7 {
		t.Error("readers share their place")
	}
	if r.Uint(); r.Done() != api.ErrPack || s.Done() != api.OK {
		t.Error("readers share their error")
	}
}

// P3.3: what was written is read again.
func TestReadWhatWasWritten(t *testing.T) {
	var w pack.Writer
	texts := []string{"", "a", "\x80\x00", strings.Repeat("x", 127), strings.Repeat("y", 128), strings.Repeat("z", longest)}
	amounts := []complex128{0, 1, 1i, 127 + 128i, 128 + 127i, great, great * 1i, great + great*1i}
	var numbers []uint64
	for i := range 64 {
		numbers = append(numbers, 1<<i-1, 1<<i, 1<<i+1, mostUint-1<<i)
	}
	for _, v := range numbers {
		w.Uint(v)
		w.Int(int(v))
		w.Mark(v%2 == 1)
	}
	for _, s := range texts {
		w.Text([]byte(s))
	}
	for _, x := range amounts {
		w.Amount(x)
	}
	b, e := w.Bytes()
	if e != api.OK {
		t.Fatalf("error %d", e)
	}
	r := pack.NewReader(b)
	for _, v := range numbers {
		if got, n, is := r.Uint(), r.Int(), r.Mark(); got != v || n != int(v) || is != (v%2 == 1) {
			t.Errorf("%d: %d, %d, %v", v, got, n, is)
		}
	}
	for _, s := range texts {
		if got := r.Text(); string(got) != s {
			t.Errorf("%.40x: %.40x (of %d)", s, got, len(got))
		}
	}
	for _, x := range amounts {
		if got := r.Amount(); got != x {
			t.Errorf("%v: %v", x, got)
		}
	}
	done(t, "all", r, api.OK)
}

// P3.3: what is read without an error is written in just these bytes; all of up to three bytes, as each kind.
func TestWriteWhatWasRead(t *testing.T) {
	kinds := []func(r *pack.Reader, w *pack.Writer){
		func(r *pack.Reader, w *pack.Writer) { w.Uint(r.Uint()) },
		func(r *pack.Reader, w *pack.Writer) { w.Int(r.Int()) },
		func(r *pack.Reader, w *pack.Writer) { w.Mark(r.Mark()) },
		func(r *pack.Reader, w *pack.Writer) { w.Text(r.Text()) },
		func(r *pack.Reader, w *pack.Writer) { w.Amount(r.Amount()) },
	}
	bytesOf := []byte{0x00, 0x01, 0x02, 0x03, 0x3f, 0x40, 0x41, 0x7f, 0x80, 0x81, 0xc0, 0xff}
	good := 0
	for k, kind := range kinds {
		for _, x := range bytesOf {
			for _, y := range bytesOf {
				for _, z := range bytesOf {
					for n := range 4 {
						in := []byte{x, y, z}[:n]
						r, w := pack.NewReader(in), new(pack.Writer)
						kind(r, w)
						if r.Done() != api.OK {
							continue
						}
						good++
						if b, e := w.Bytes(); !bytes.Equal(b, in) || e != api.OK {
							t.Errorf("kind %d: %x is written as %x, %d", k, in, b, e)
						}
					}
				}
			}
		}
	}
	if good == 0 {
		t.Error("nothing could be read")
	}
}
