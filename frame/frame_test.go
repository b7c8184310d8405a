package frame_test

import (
	"bytes"
	"slices"
	"strings"
	"testing"

	"hanse/api"
	"hanse/frame"
)

const longest = 1 << 17

// slowSum is the sum as the document tells it, bit by bit.
func slowSum(s string) uint32 {
	register := ^uint32(0)
	for i := range len(s) {
		for bit := range 8 {
			last := (register ^ uint32(s[i])>>bit) & 1
			register >>= 1
			if last == 1 {
				register ^= 0x82f63b78
			}
		}
	}
	return ^register
}

// framed is a payload, of any length, behind a length that may be another and the sum that suits them.
func framed(length int, payload string) string {
	head := string([]byte{byte(length >> 24), byte(length >> 16), byte(length >> 8), byte(length)})
	sum := slowSum(head + payload)
	return head + string([]byte{byte(sum >> 24), byte(sum >> 16), byte(sum >> 8), byte(sum)}) + payload
}

func whole(payload string) string {
	return framed(len(payload), payload)
}

// mixed is n bytes that have no rule to be seen.
func mixed(n int) string {
	b := make([]byte, n)
	x := uint32(1)
	for i := range b {
		x = x*1664525 + 1013904223
		b[i] = byte(x >> 24)
	}
	return string(b)
}

// lengths is how long the payloads are that are tried.
func lengths() []int {
	return []int{0, 1, 2, 3, 4, 7, 8, 9, 15, 16, 17, 127, 128, 255, 256, 257, 1 << 15, 1<<16 - 1, 1 << 16, 1<<16 + 1, longest - 1, longest}
}

// sealed is what Seal answers, which must be a frame.
func sealed(t *testing.T, payload string) string {
	t.Helper()
	b, e := frame.Seal([]byte(payload))
	if e != api.OK {
		t.Fatalf("Seal of %d bytes: error %d", len(payload), e)
	}
	return string(b)
}

// first tells a fault, unless b begins with the frame of that payload.
func first(t *testing.T, b, payload string) {
	t.Helper()
	got, n, e := frame.First([]byte(b))
	if string(got) != payload || n != 8+len(payload) || e != api.OK {
		t.Errorf("First(%.40x) = %.40x (of %d), %d, %d; want %.40x (of %d)", b, got, len(got), n, e, payload, len(payload))
	}
}

// none tells a fault, unless b begins with no frame.
func none(t *testing.T, b string) {
	t.Helper()
	if got, n, e := frame.First([]byte(b)); got != nil || n != 0 || e != api.ErrPack {
		t.Errorf("First(%.40x) (of %d) = %.40x, %d, %d; want ErrPack", b, len(b), got, n, e)
	}
	scanned(t, b, 0)
}

// scanned tells a fault, unless b begins with the frames of just these payloads, up to that place.
func scanned(t *testing.T, b string, end int, payloads ...string) {
	t.Helper()
	l, n := frame.Scan([]byte(b))
	if n != end {
		t.Errorf("Scan(%.40x) (of %d): up to %d; want %d", b, len(b), n, end)
	}
	if len(l) != len(payloads) {
		t.Errorf("Scan(%.40x) (of %d): %d payloads; want %d", b, len(b), len(l), len(payloads))
		return
	}
	for i := range l {
		if string(l[i]) != payloads[i] {
			t.Errorf("Scan(%.40x) (of %d), payload %d: %.40x; want %.40x", b, len(b), i, l[i], payloads[i])
		}
	}
}

// P4.1: sums that are known elsewhere too.
func TestSumsThatAreKnown(t *testing.T) {
	for _, c := range []struct {
		s   string
		sum uint32
	}{
		{"", 0},
		{"a", 0xc1d04330},
		{"123456789", 0xe3069283},
		{strings.Repeat("\x00", 4), 0x48674bc7},
		{strings.Repeat("\x00", 32), 0x8a9136aa},
		{strings.Repeat("\xff", 32), 0x62a8ab43},
	} {
		if s := frame.Sum([]byte(c.s)); s != c.sum {
			t.Errorf("Sum(%q) = %08x; want %08x", c.s, s, c.sum)
		}
	}
}

// P4.1: every byte, every length, more bytes than a payload may have.
func TestSumsBitByBit(t *testing.T) {
	var l []string
	for b := range 256 {
		l = append(l, string([]byte{byte(b)}), string([]byte{byte(b), 0}), string([]byte{0, byte(b)}))
	}
	for n := range 70 {
		l = append(l, mixed(n))
	}
	l = append(l, mixed(longest), mixed(longest+1), mixed(3*longest))
	for _, s := range l {
		if got, want := frame.Sum([]byte(s)), slowSum(s); got != want {
			t.Errorf("Sum(%.40x) (of %d) = %08x; want %08x", s, len(s), got, want)
		}
	}
}

// P4.1: no part, parts of no byte.
func TestSumOfNothing(t *testing.T) {
	for _, parts := range [][][]byte{nil, {}, {nil}, {{}}, {nil, {}, nil}} {
		if s := frame.Sum(parts...); s != 0 {
			t.Errorf("Sum of %d empty parts: %08x", len(parts), s)
		}
	}
}

// P4.1: the same bytes, parted otherwise.
func TestSumOfParts(t *testing.T) {
	b := []byte(mixed(40))
	want := slowSum(string(b))
	for i := range len(b) + 1 {
		for k := i; k <= len(b); k++ {
			if s := frame.Sum(b[:i], b[i:k], nil, b[k:]); s != want {
				t.Errorf("parted at %d and %d: %08x; want %08x", i, k, s, want)
			}
		}
	}
	var single [][]byte
	for i := range b {
		single = append(single, b[i:i+1])
	}
	if s := frame.Sum(single...); s != want {
		t.Errorf("byte by byte: %08x; want %08x", s, want)
	}
	slices.Reverse(single)
	if s := frame.Sum(single...); s == want {
		t.Error("the order of the parts is not seen")
	}
	if s := frame.Sum(b, b); s != slowSum(string(b)+string(b)) {
		t.Errorf("one part twice: %08x", s)
	}
}

// P4.2
func TestSeal(t *testing.T) {
	for _, c := range []struct{ payload, want string }{
		{"", "\x00\x00\x00\x00\x48\x67\x4b\xc7"},
		{"a", "\x00\x00\x00\x01\xc5\x7d\xfe\x23a"},
	} {
		if b := sealed(t, c.payload); b != c.want {
			t.Errorf("Seal(%q) = %x; want %x", c.payload, b, c.want)
		}
	}
	for _, n := range lengths() {
		payload := mixed(n)
		if b := sealed(t, payload); b != whole(payload) {
			t.Errorf("Seal of %d bytes: %.40x; want %.40x", n, b, whole(payload))
		}
	}
	if b, e := frame.Seal(nil); string(b) != whole("") || e != api.OK {
		t.Errorf("Seal(nil) = %x, %d", b, e)
	}
}

// P4.2
func TestSealRefusesWhatIsTooLong(t *testing.T) {
	for _, n := range []int{longest + 1, longest + 2, 2 * longest, 1 << 24} {
		if b, e := frame.Seal(make([]byte, n)); b != nil || e != api.ErrLong {
			t.Errorf("Seal of %d bytes: %.40x (of %d), %d; want ErrLong", n, b, len(b), e)
		}
	}
}

// P4.2: one that just ends, and one with more behind it.
func TestFirst(t *testing.T) {
	for _, n := range lengths() {
		b := whole(mixed(n))
		for _, more := range []string{"", "\x00", "more", whole(""), whole("other"), mixed(1000)} {
			first(t, b+more, mixed(n))
		}
	}
}

// P4.2: fewer bytes than a frame has.
func TestFirstRefusesTooFewBytes(t *testing.T) {
	for _, n := range lengths() {
		b := whole(mixed(n))
		for k := range min(len(b), 30) {
			none(t, b[:k])
		}
		none(t, b[:len(b)-1])
		none(t, b[:len(b)/2])
	}
	none(t, strings.Repeat("\x00", 7))
	if got, n, e := frame.First(nil); got != nil || n != 0 || e != api.ErrPack {
		t.Errorf("First(nil) = %x, %d, %d", got, n, e)
	}
}

// P4.2: another sum.
func TestFirstRefusesAnotherSum(t *testing.T) {
	for _, payload := range []string{"", "a", mixed(20)} {
		b := []byte(whole(payload))
		for bit := range 8 * len(b) {
			b[bit/8] ^= 1 << (bit % 8)
			none(t, string(b)+mixed(longest))
			b[bit/8] ^= 1 << (bit % 8)
		}
	}
	none(t, strings.Repeat("\x00", 8))
	none(t, strings.Repeat("\x00", 100))
	// The sum of the payload alone, and the bytes of the sum the other way round.
	none(t, "\x00\x00\x00\x01\xc1\xd0\x43\x30a")
	none(t, "\x00\x00\x00\x01\x23\xfe\x7d\xc5a")
}

// P4.2: a length that is not the payload's, whether the bytes are fewer or more, with the sum of what is there.
func TestFirstRefusesAnotherLength(t *testing.T) {
	none(t, framed(2, "a"))
	none(t, framed(3, "")+"abc")
	none(t, framed(1, "abc"))
	none(t, framed(0, "abc"))
	none(t, "\x01\x00\x00\x00"+whole("a")[4:])
	// The lowest byte first, with the sum that suits it.
	none(t, framed(1<<24, "a"))
}

// P4.2: a length above MaxPayload, though the sum is right, whether so many bytes are there or not.
func TestFirstRefusesWhatIsTooLong(t *testing.T) {
	for _, n := range []int{longest + 1, longest + 2, 2 * longest, 1 << 24} {
		none(t, whole(mixed(n)))
		none(t, whole(mixed(n))+"more")
		none(t, framed(n, mixed(longest)))
	}
	for _, n := range []int{longest + 1, 1<<31 - 1, 1 << 31, 1<<31 + 1, 1<<32 - 8, 1<<32 - 1} {
		none(t, framed(n, ""))
		none(t, framed(n, "abc"))
	}
}

// P4.3
func TestScan(t *testing.T) {
	long := mixed(longest)
	for _, l := range [][]string{
		nil,
		{""},
		{"a"},
		{"", ""},
		{"a", "", "b"},
		{"", "a", long, "", "last", ""},
		{long, long[1:], long},
	} {
		b := ""
		for _, payload := range l {
			b += whole(payload)
		}
		scanned(t, b, len(b), l...)
		for _, tail := range []string{
			"\x00", "tail", strings.Repeat("\x00", 8), mixed(50),
			whole("cut")[:10], framed(3, "ab"), framed(1<<32-1, "abc"), whole(mixed(longest + 1)),
		} {
			scanned(t, b+tail, len(b), l...)
			scanned(t, b+tail+whole("behind it"), len(b), l...)
		}
	}
	if l, end := frame.Scan(nil); len(l) != 0 || end != 0 {
		t.Errorf("Scan(nil) = %x, %d", l, end)
	}
}

// P4.3: many of them.
func TestScanManyFrames(t *testing.T) {
	var b strings.Builder
	var l []string
	for i := range 3000 {
		l = append(l, mixed(i%40))
		b.WriteString(whole(l[i]))
	}
	scanned(t, b.String(), b.Len(), l...)
}

// P4.4: what was sealed is found again.
func TestFindWhatWasSealed(t *testing.T) {
	all := ""
	var l []string
	for _, n := range lengths() {
		payload := mixed(n)
		first(t, sealed(t, payload), payload)
		all += sealed(t, payload)
		l = append(l, payload)
	}
	scanned(t, all, len(all), l...)
	scanned(t, sealed(t, all[:longest]), 8+longest, all[:longest])
}

// P4.4: cut off anywhere, just the frames that are whole are found.
func TestFindWhatWasCut(t *testing.T) {
	l := []string{"a", "", mixed(30), whole("within"), "", "last"}
	all := ""
	var ends []int
	for _, payload := range l {
		all += sealed(t, payload)
		ends = append(ends, len(all))
	}
	for cut := range len(all) + 1 {
		n, end := 0, 0
		for n < len(l) && ends[n] <= cut {
			end = ends[n]
			n++
		}
		scanned(t, all[:cut], end, l[:n]...)
	}
}

// change changes up to 32 bits in a row of b, by pattern, whose lowest bit stands at that place.
func change(b []byte, place int, pattern uint32) {
	for i := range 32 {
		if bit := place + i; pattern>>i&1 == 1 {
			b[bit/8] ^= 1 << (bit % 8)
		}
	}
}

// patterns is how up to 32 bits in a row may change.
func patterns() []uint32 {
	l := []uint32{0x82f63b78, 0x05ec76f1, 0x1edc6f41, 0x8f6e37a1, 0xffffffff, 0xaaaaaaab, 0x80000001}
	for p := uint32(1); p < 64; p += 2 {
		l = append(l, p)
	}
	x := uint32(7)
	for range 60 {
		x = x*1664525 + 1013904223
		l = append(l, x|1)
	}
	return l
}

// P4.4: a change of up to 32 bits in a row within a payload.
func TestTellWhatWasChanged(t *testing.T) {
	const ahead = "ahead"
	for _, payload := range []string{mixed(12), strings.Repeat("\x00", 12), mixed(300)} {
		b := []byte(sealed(t, ahead) + sealed(t, payload) + sealed(t, "behind"))
		start := 8*(8+len(ahead)) + 8*8
		for _, p := range patterns() {
			for place := 0; place < 8*len(payload)-31; place++ {
				change(b, start+place, p)
				scanned(t, string(b), 8+len(ahead), ahead)
				change(b, start+place, p)
			}
		}
		scanned(t, string(b), len(b), ahead, payload, "behind")
	}
}

// P4.4: in a short payload, and at both ends of the longest.
func TestTellWhatWasChangedAtTheEnds(t *testing.T) {
	short := []byte(sealed(t, "abcd"))
	for _, p := range patterns() {
		change(short, 64, p)
		none(t, string(short))
		change(short, 64, p)
	}
	long := []byte(sealed(t, mixed(longest)))
	for _, p := range patterns()[:20] {
		for _, place := range []int{64, 8*len(long) - 32, 8*len(long)/2 + 3} {
			change(long, place, p)
			none(t, string(long))
			change(long, place, p)
		}
	}
	first(t, string(long), mixed(longest))
}

// R2: what is handed in stays, its spare room too.
func TestArgumentsStayAsTheyWere(t *testing.T) {
	given := whole("ab") + whole("") + whole("cd") + "tail"
	b := []byte(given)
	for k := range len(b) + 1 {
		frame.Sum(b[:k], b[k:], b[:k])
		frame.Seal(b[:k])
		frame.First(b[:k])
		frame.Scan(b[:k])
		if string(b) != given {
			t.Fatalf("%x; want %x", b, given)
		}
	}
	parts := [][]byte{b[:3], nil, b[3:]}
	frame.Sum(parts[:2]...)
	if len(parts[0]) != 3 || parts[1] != nil || len(parts[2]) != len(b)-3 {
		t.Error("the parts are others")
	}
}

// R6: what lies behind the length is no part of what is given.
func TestSpareRoomIsNotRead(t *testing.T) {
	b := []byte(whole("ab") + whole("cd"))
	scanned(t, string(b[:10]), 10, "ab")
	if l, end := frame.Scan(b[:19]); len(l) != 1 || end != 10 {
		t.Errorf("%d payloads, up to %d", len(l), end)
	}
	if _, n, e := frame.First(b[:9]); n != 0 || e != api.ErrPack {
		t.Errorf("%d, %d", n, e)
	}
	if s := frame.Sum(b[:4]); s != slowSum(string(b[:4])) {
		t.Errorf("%08x", s)
	}
}

// fill overwrites b and its spare room.
func fill(b []byte) {
	b = b[:cap(b)]
	for i := range b {
		b[i] = 0xee
	}
}

// R2: what is answered shares nothing with what was handed in, nor with another answer.
func TestAnswersAreNewMemory(t *testing.T) {
	for _, n := range []int{0, 1, 2, 7, 8, 9, 31, 32, 33, 1000} {
		payload := []byte(mixed(n))
		one, _ := frame.Seal(payload)
		other, _ := frame.Seal(payload)
		fill(one)
		if string(payload) != mixed(n) || string(other) != whole(mixed(n)) {
			t.Errorf("Seal of %d bytes shares memory", n)
		}
		fill(payload)
		if string(other) != whole(mixed(n)) {
			t.Errorf("Seal of %d bytes keeps what was handed in", n)
		}
		given := whole(mixed(n)) + "more"
		b := []byte(given)
		one, _, _ = frame.First(b)
		other, _, _ = frame.First(b)
		fill(one)
		if string(b) != given || string(other) != mixed(n) {
			t.Errorf("First of %d bytes shares memory", n)
		}
		fill(b)
		if string(other) != mixed(n) {
			t.Errorf("First of %d bytes keeps what was handed in", n)
		}
	}
}

// R2: no two payloads of Scan share any, nor with what was handed in, nor do two lists.
func TestScannedPayloadsAreNewMemory(t *testing.T) {
	sizes := []int{3, 0, 1, 8, 9, 0, 100, 5}
	given := ""
	for _, n := range sizes {
		given += whole(mixed(n))
	}
	given += "tail"
	b := []byte(given)
	l, _ := frame.Scan(b)
	other, _ := frame.Scan(b)
	for i := range l {
		fill(l[i])
		for k := i + 1; k < len(l); k++ {
			if string(l[k]) != mixed(sizes[k]) {
				t.Errorf("payloads %d and %d share memory", i, k)
			}
		}
	}
	if string(b) != given {
		t.Error("the payloads share memory with what was handed in")
	}
	clear(l[:cap(l)])
	fill(b)
	for i := range other {
		if !bytes.Equal(other[i], []byte(mixed(sizes[i]))) {
			t.Errorf("payload %d of the other list: %x", i, other[i])
		}
	}
}
