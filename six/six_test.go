package six

import (
	"bytes"
	"fmt"
	"math"
	"math/big"
	"slices"
	"testing"

	"harrier/api"
)

// field is a number of a header: its name, the greatest that it may be, and where it stands.
type field struct {
	name     string
	greatest int
	of       func(h *api.Head) *int
}

func fields() []field {
	return []field{
		{"Class", 255, func(h *api.Head) *int { return &h.Class }},
		{"Label", 1048575, func(h *api.Head) *int { return &h.Label }},
		{"Length", 65535, func(h *api.Head) *int { return &h.Length }},
		{"Next", 255, func(h *api.Head) *int { return &h.Next }},
		{"Hop", 255, func(h *api.Head) *int { return &h.Hop }},
	}
}

// with is h with another number in a field.
func (f field) with(h api.Head, n int) api.Head {
	*f.of(&h) = n
	return h
}

// may are numbers that the field may be: both ends, and each bit alone.
func (f field) may() []int {
	l := []int{0, 1, 2, 3, 100, f.greatest / 3, f.greatest - 1, f.greatest}
	for bit := 1; bit <= f.greatest; bit *= 2 {
		l = append(l, bit, f.greatest-bit)
	}
	return l
}

// mayNot are numbers that the field may not be: just beyond both ends, far beyond them, at the ends of
// int, and such whose low bits would be fine alone.
func (f field) mayNot() []int {
	room := f.greatest + 1
	l := []int{math.MaxInt, math.MaxInt - 1, math.MaxInt - f.greatest, math.MinInt, math.MinInt + 1, math.MinInt + 64, math.MinInt + f.greatest, math.MinInt + room}
	for _, n := range []int{room, room + 1, room + 64, room + f.greatest, 2 * room, 3*room + 7, 16 * room, 1 << 20, 1 << 24, 1<<31 - 1, 1 << 31, 1<<32 - 1, 1 << 32, 1<<32 + 1, 1<<32 + 64, 1 << 48} {
		l = append(l, n, -n)
	}
	for n := 1; n <= room; n *= 2 {
		l = append(l, -n)
	}
	return l
}

// mixed tells n bytes of no plain order; another seed tells others.
func mixed(n, seed int) []byte {
	b := make([]byte, n)
	x := uint32(seed)*2654435761 + 12345
	for i := range b {
		x = x*1664525 + 1013904223
		b[i] = byte(x >> 24)
	}
	return b
}

func mixedAddr(seed int) api.Addr {
	return api.Addr(mixed(16, seed))
}

// full is the address of all bytes 255.
func full() api.Addr {
	return api.Addr(bytes.Repeat([]byte{255}, 16))
}

// addrs are addresses of all 0, of no 0, of one byte at an end, and of no plain order.
func addrs() []api.Addr {
	return []api.Addr{{}, full(), {0: 1}, {0: 128}, {7: 255}, {8: 255}, {15: 1}, {15: 128}, {1, 2, 3, 4, 5, 6, 7, 8, 9, 10, 11, 12, 13, 14, 15, 16}, mixedAddr(1), mixedAddr(2)}
}

// ordinary is a header no two parts of which are the same.
func ordinary() api.Head {
	return api.Head{Class: 18, Label: 74565, Length: 770, Next: 6, Hop: 64, Src: mixedAddr(3), Dst: mixedAddr(4)}
}

// greatest is the header of all bits 1 behind the first 4.
func greatest() api.Head {
	return api.Head{Class: 255, Label: 1048575, Length: 65535, Next: 255, Hop: 255, Src: full(), Dst: full()}
}

// heads are headers that can be: with each number at its edges, and with each address.
func heads() []api.Head {
	var l []api.Head
	for _, h := range []api.Head{{}, ordinary(), greatest()} {
		l = append(l, h)
		for _, f := range fields() {
			for _, n := range f.may() {
				l = append(l, f.with(h, n))
			}
		}
		for _, a := range addrs() {
			src, dst := h, h
			src.Src, dst.Dst = a, a
			l = append(l, src, dst)
		}
	}
	return l
}

// wrongHeads are headers that can't be: with one number that may not be.
func wrongHeads() []api.Head {
	var l []api.Head
	for _, h := range []api.Head{{}, ordinary(), greatest()} {
		for _, f := range fields() {
			for _, n := range f.mayNot() {
				l = append(l, f.with(h, n))
			}
		}
	}
	return l
}

// laid tells the bytes of a header by another way than the program's: digit by digit, as the chapter names them.
func laid(h api.Head) []byte {
	digits := fmt.Sprintf("%04b%08b%020b%016b%08b%08b", 6, h.Class, h.Label, h.Length, h.Next, h.Hop)
	n, ok := new(big.Int).SetString(digits, 2)
	if !ok || len(digits) != 64 {
		panic("a header that can't be: " + digits)
	}
	return slices.Concat(n.FillBytes(make([]byte, 8)), h.Src[:], h.Dst[:])
}

// roomy tells b with room behind its end, which is filled, and the whole of it.
func roomy(b []byte) (list, whole []byte) {
	whole = append(slices.Clone(b), bytes.Repeat([]byte{0x65}, 64)...)
	return whole[:len(b)], whole
}

func wantBytes(t *testing.T, what string, got, want []byte) {
	t.Helper()
	if bytes.Equal(got, want) {
		return
	}
	at := 0
	for at < min(len(got), len(want)) && got[at] == want[at] {
		at++
	}
	t.Errorf("%s: %d bytes, want %d; they differ at %d: %v, want %v", what, len(got), len(want), at, got[at:min(len(got), at+8)], want[at:min(len(want), at+8)])
}

// wantPacket holds an answer of bytes and an error against what it should be: beside an error there is nothing.
func wantPacket(t *testing.T, what string, got []byte, e api.Errno, want []byte, wantE api.Errno) {
	t.Helper()
	if e != wantE {
		t.Errorf("%s: error %d, want %d", what, e, wantE)
	}
	if e != api.OK && len(got) != 0 {
		t.Errorf("%s: %d bytes beside the error %d", what, len(got), e)
	}
	wantBytes(t, what, got, want)
}

func wantHead(t *testing.T, what string, b []byte, want api.Head, wantE api.Errno) {
	t.Helper()
	if h, e := Get(b); h != want || e != wantE {
		t.Errorf("%s: Get: %v %d, want %v %d", what, h, e, want, wantE)
	}
}

// P4.1

func TestSize(t *testing.T) {
	if Size != 40 {
		t.Errorf("Size: %d", Size)
	}
	for _, h := range heads() {
		if n := len(Put(nil, h)); n != 40 {
			t.Errorf("Put of %v: %d bytes", h, n)
		}
	}
}

func TestCan(t *testing.T) {
	for _, h := range heads() {
		if e := Can(h); e != api.OK {
			t.Errorf("Can(%v): %d", h, e)
		}
	}
	for _, h := range wrongHeads() {
		if e := Can(h); e != api.ErrArg {
			t.Errorf("Can(%v): %d, want ErrArg", h, e)
		}
	}
}

func TestCanAtTheEnds(t *testing.T) {
	for _, c := range []struct {
		h    api.Head
		want api.Errno
	}{
		{api.Head{}, api.OK},
		{api.Head{Class: 255}, api.OK}, {api.Head{Class: 256}, api.ErrArg}, {api.Head{Class: -1}, api.ErrArg},
		{api.Head{Label: 1048575}, api.OK}, {api.Head{Label: 1048576}, api.ErrArg}, {api.Head{Label: -1}, api.ErrArg},
		{api.Head{Length: 65535}, api.OK}, {api.Head{Length: 65536}, api.ErrArg}, {api.Head{Length: -1}, api.ErrArg},
		{api.Head{Next: 255}, api.OK}, {api.Head{Next: 256}, api.ErrArg}, {api.Head{Next: -1}, api.ErrArg},
		{api.Head{Hop: 255}, api.OK}, {api.Head{Hop: 256}, api.ErrArg}, {api.Head{Hop: -1}, api.ErrArg},
		{api.Head{Class: math.MinInt, Label: math.MinInt, Length: math.MinInt, Next: math.MinInt, Hop: math.MinInt}, api.ErrArg},
		{api.Head{Class: math.MaxInt, Label: math.MaxInt, Length: math.MaxInt, Next: math.MaxInt, Hop: math.MaxInt}, api.ErrArg},
		{api.Head{Class: 256, Hop: -256}, api.ErrArg},
		{api.Head{Src: full(), Dst: full()}, api.OK},
		{greatest(), api.OK},
	} {
		if e := Can(c.h); e != c.want {
			t.Errorf("Can(%v): %d, want %d", c.h, e, c.want)
		}
	}
}

func TestCanOfEachByteNumber(t *testing.T) {
	for _, f := range fields() {
		for n := -600; n <= 600; n++ {
			want := api.OK
			if n < 0 || n > f.greatest {
				want = api.ErrArg
			}
			if e := Can(f.with(ordinary(), n)); e != want {
				t.Errorf("Can of %s %d: %d, want %d", f.name, n, e, want)
			}
		}
	}
}

func TestPut(t *testing.T) {
	zeros := make([]byte, 40)
	for _, c := range []struct {
		h    api.Head
		want []byte
	}{
		{api.Head{}, append([]byte{0x60}, zeros[1:]...)},
		{greatest(), append([]byte{0x6f}, bytes.Repeat([]byte{255}, 39)...)},
		{api.Head{Class: 18, Label: 74565, Length: 3, Next: 6, Hop: 2, Src: api.Addr{15: 1}, Dst: api.Addr{15: 2}},
			[]byte{97, 33, 35, 69, 0, 3, 6, 2, 0, 0, 0, 0, 0, 0, 0, 0, 0, 0, 0, 0, 0, 0, 0, 1, 0, 0, 0, 0, 0, 0, 0, 0, 0, 0, 0, 0, 0, 0, 0, 2}},
		{api.Head{Class: 255}, append([]byte{0x6f, 0xf0}, zeros[2:]...)},
		{api.Head{Class: 1}, append([]byte{0x60, 0x10}, zeros[2:]...)},
		{api.Head{Label: 1048575}, append([]byte{0x60, 0x0f, 255, 255}, zeros[4:]...)},
		{api.Head{Label: 1}, append([]byte{0x60, 0, 0, 1}, zeros[4:]...)},
		{api.Head{Length: 258}, append([]byte{0x60, 0, 0, 0, 1, 2}, zeros[6:]...)},
		{api.Head{Next: 59}, append([]byte{0x60, 0, 0, 0, 0, 0, 59}, zeros[7:]...)},
		{api.Head{Hop: 64}, append([]byte{0x60, 0, 0, 0, 0, 0, 0, 64}, zeros[8:]...)},
		{api.Head{Src: full()}, slices.Concat([]byte{0x60}, zeros[1:8], bytes.Repeat([]byte{255}, 16), zeros[24:])},
		{api.Head{Dst: full()}, slices.Concat([]byte{0x60}, zeros[1:24], bytes.Repeat([]byte{255}, 16))},
	} {
		wantBytes(t, fmt.Sprint("Put of ", c.h), Put(nil, c.h), c.want)
	}
}

// ahead are lists that a header is put behind.
func ahead() [][]byte {
	var l [][]byte
	for _, n := range []int{0, 1, 2, 3, 7, 39, 40, 41, 1500} {
		l = append(l, mixed(n, n))
	}
	return append(l, nil, []byte{}, []byte{0}, make([]byte, 40), laid(greatest()))
}

func TestPutOfEachHeader(t *testing.T) {
	for _, h := range heads() {
		for _, b := range ahead() {
			wantBytes(t, fmt.Sprintf("Put behind %d bytes of %v", len(b), h), Put(b, h), append(slices.Clone(b), laid(h)...))
		}
	}
}

func TestPutOfWhatCantBe(t *testing.T) {
	for _, h := range wrongHeads() {
		for _, b := range ahead() {
			wantBytes(t, fmt.Sprintf("Put behind %d bytes of %v", len(b), h), Put(b, h), b)
		}
	}
}

func TestPutOneBehindTheOther(t *testing.T) {
	b := Put(Put(Put(nil, ordinary()), api.Head{Hop: 256}), greatest())
	wantBytes(t, "two headers, and one that can't be", b, append(laid(ordinary()), laid(greatest())...))
}

// P4.2

func TestGet(t *testing.T) {
	for _, c := range []struct {
		b    []byte
		want api.Head
	}{
		{append([]byte{0x60}, make([]byte, 39)...), api.Head{}},
		{append([]byte{0x6f}, bytes.Repeat([]byte{255}, 39)...), greatest()},
		{[]byte{97, 33, 35, 69, 0, 3, 6, 2, 0, 0, 0, 0, 0, 0, 0, 0, 0, 0, 0, 0, 0, 0, 0, 1, 0, 0, 0, 0, 0, 0, 0, 0, 0, 0, 0, 0, 0, 0, 0, 2, 9, 9},
			api.Head{Class: 18, Label: 74565, Length: 3, Next: 6, Hop: 2, Src: api.Addr{15: 1}, Dst: api.Addr{15: 2}}},
		{append([]byte{0x6f, 0xf0}, make([]byte, 38)...), api.Head{Class: 255}},
		{append([]byte{0x60, 0x0f, 255, 255}, make([]byte, 36)...), api.Head{Label: 1048575}},
		{append([]byte{0x68, 0x18}, make([]byte, 38)...), api.Head{Class: 129, Label: 8 << 16}},
		{append([]byte{0x60, 0, 0, 0, 1, 2, 3, 4, 5}, make([]byte, 31)...), api.Head{Length: 258, Next: 3, Hop: 4, Src: api.Addr{5}}},
		{slices.Concat([]byte{0x60}, make([]byte, 22), []byte{7, 8}, make([]byte, 15)), api.Head{Src: api.Addr{15: 7}, Dst: api.Addr{0: 8}}},
	} {
		wantHead(t, fmt.Sprint(c.b), c.b, c.want, api.OK)
	}
}

// nibbles are first bytes, each with other first 4 bits; those of a header are among them.
func nibbles() []byte {
	var l []byte
	for n := range 16 {
		l = append(l, byte(n*16+n%7), byte(n*16+15-n%5), byte(n*16))
	}
	return l
}

func TestGetOfEachSizeAndForm(t *testing.T) {
	for _, size := range []int{0, 1, 2, 3, 4, 6, 7, 8, 20, 23, 24, 38, 39, 40, 41, 42, 80, 1500} {
		for _, first := range nibbles() {
			b := mixed(size, size+int(first))
			if size > 0 {
				b[0] = first
			}
			h, e := Get(b)
			want := api.OK
			if first>>4 != 6 {
				want = api.ErrForm
			}
			if size < 40 {
				want = api.ErrShort
			}
			if e != want {
				t.Errorf("Get of %d bytes that begin with %#x: %d, want %d", size, first, e, want)
			}
			if e != api.OK && h != (api.Head{}) {
				t.Errorf("Get of %d bytes that begin with %#x: %v beside the error %d", size, first, h, e)
			}
			if want == api.OK && !bytes.Equal(laid(h), b[:40]) {
				t.Errorf("Get of %v: %v", b[:40], h)
			}
		}
	}
}

func TestGetOfNothing(t *testing.T) {
	wantHead(t, "nil", nil, api.Head{}, api.ErrShort)
	wantHead(t, "no bytes", []byte{}, api.Head{}, api.ErrShort)
}

// What stands in the room behind a list's end is none of its bytes.
func TestGetEndsAtTheEnd(t *testing.T) {
	whole := append(laid(ordinary()), mixed(60, 5)...)
	for size := range 40 {
		wantHead(t, fmt.Sprintf("%d bytes, and room", size), whole[:size], api.Head{}, api.ErrShort)
	}
	for size := 40; size <= len(whole); size++ {
		wantHead(t, fmt.Sprintf("%d bytes", size), whole[:size], ordinary(), api.OK)
	}
}

// Each bit of a header stands for a bit of one part of it alone.
func TestGetByEachBit(t *testing.T) {
	for _, h := range []api.Head{{}, ordinary(), greatest()} {
		for bit := range 320 {
			b := laid(h)
			b[bit/8] ^= 128 >> (bit % 8)
			want := h
			switch {
			case bit < 4:
				wantHead(t, fmt.Sprintf("bit %d", bit), b, api.Head{}, api.ErrForm)
				continue
			case bit < 12:
				want.Class ^= 1 << (11 - bit)
			case bit < 32:
				want.Label ^= 1 << (31 - bit)
			case bit < 48:
				want.Length ^= 1 << (47 - bit)
			case bit < 56:
				want.Next ^= 1 << (55 - bit)
			case bit < 64:
				want.Hop ^= 1 << (63 - bit)
			case bit < 192:
				want.Src[bit/8-8] ^= 128 >> (bit % 8)
			default:
				want.Dst[bit/8-24] ^= 128 >> (bit % 8)
			}
			wantHead(t, fmt.Sprintf("bit %d", bit), b, want, api.OK)
		}
	}
}

// P4.3

// behind are how many bytes stand behind a header: none, few, as many as Length can say at most, and more.
func behind() []int {
	return []int{0, 1, 2, 20, 39, 40, 41, 254, 255, 256, 257, 1460, 32767, 32768, 65534, 65535, 65536, 65537, 65575, 131072, 200000}
}

// packetOf is a header, and n bytes behind it.
func packetOf(h api.Head, n int) []byte {
	return append(laid(h), mixed(n, n+1)...)
}

func TestNearer(t *testing.T) {
	for hop := range 256 {
		for _, h := range []api.Head{{}, ordinary(), greatest()} {
			h.Hop = hop
			b := packetOf(h, 3)
			got, e := Nearer(b)
			if hop < 2 {
				wantPacket(t, fmt.Sprint("Nearer of Hop ", hop), got, e, nil, api.ErrHop)
				continue
			}
			h.Hop = hop - 1
			wantPacket(t, fmt.Sprint("Nearer of Hop ", hop), got, e, packetOf(h, 3), api.OK)
		}
	}
}

func TestNearerOfEachHeader(t *testing.T) {
	for _, h := range heads() {
		got, e := Nearer(packetOf(h, 5))
		if h.Hop < 2 {
			wantPacket(t, fmt.Sprint("Nearer of ", h), got, e, nil, api.ErrHop)
			continue
		}
		h.Hop--
		wantPacket(t, fmt.Sprint("Nearer of one nearer than ", h), got, e, packetOf(h, 5), api.OK)
	}
}

func TestNearerTillTheEnd(t *testing.T) {
	h := ordinary()
	h.Hop = 255
	b, e := packetOf(h, 7), api.OK
	steps := 0
	for e == api.OK && steps < 1000 {
		b, e = Nearer(b)
		steps++
	}
	wantPacket(t, "Nearer, again and again", b, e, nil, api.ErrHop)
	if steps != 255 {
		t.Errorf("Nearer ends at step %d", steps)
	}
}

func TestTo(t *testing.T) {
	for _, h := range heads() {
		b := packetOf(h, 5)
		for _, dst := range addrs() {
			got, e := To(b, dst)
			want := h
			want.Dst = dst
			wantPacket(t, fmt.Sprintf("To %v of %v", dst, h), got, e, packetOf(want, 5), api.OK)
		}
	}
}

func TestSized(t *testing.T) {
	for _, n := range behind() {
		for _, h := range []api.Head{{}, ordinary(), greatest()} {
			got, e := Sized(packetOf(h, n))
			if n > 65535 {
				wantPacket(t, fmt.Sprintf("Sized of %d bytes behind %v", n, h), got, e, nil, api.ErrLong)
				continue
			}
			h.Length = n
			wantPacket(t, fmt.Sprintf("Sized of %d bytes behind %v", n, h), got, e, packetOf(h, n), api.OK)
		}
	}
}

func TestSizedOfEachHeader(t *testing.T) {
	for _, h := range heads() {
		got, e := Sized(packetOf(h, 258))
		h.Length = 258
		wantPacket(t, fmt.Sprint("Sized of ", h), got, e, packetOf(h, 258), api.OK)
	}
}

// How long a packet is, and what its Length says, is nothing to Nearer and To; how far it may go, nothing to To and Sized.
func TestChangeOfEachLength(t *testing.T) {
	for _, n := range behind() {
		for _, h := range []api.Head{ordinary(), greatest()} {
			b := packetOf(h, n)
			near, to := h, h
			near.Hop--
			to.Dst = full()
			got, e := Nearer(b)
			wantPacket(t, fmt.Sprintf("Nearer of %d bytes behind", n), got, e, packetOf(near, n), api.OK)
			got, e = To(b, full())
			wantPacket(t, fmt.Sprintf("To of %d bytes behind", n), got, e, packetOf(to, n), api.OK)
		}
	}
	for hop := range 3 {
		h := ordinary()
		h.Hop = hop
		to, sized := h, h
		to.Dst, sized.Length = full(), 9
		got, e := To(packetOf(h, 9), full())
		wantPacket(t, fmt.Sprint("To of Hop ", hop), got, e, packetOf(to, 9), api.OK)
		got, e = Sized(packetOf(h, 9))
		wantPacket(t, fmt.Sprint("Sized of Hop ", hop), got, e, packetOf(sized, 9), api.OK)
	}
}

// changes are the calls of P4.3.
func changes() map[string]func([]byte) ([]byte, api.Errno) {
	return map[string]func([]byte) ([]byte, api.Errno){
		"Nearer": Nearer,
		"Sized":  Sized,
		"To":     func(b []byte) ([]byte, api.Errno) { return To(b, mixedAddr(9)) },
	}
}

// Get's error comes first: also where the packet would go too far, or is too long.
func TestChangeTellsGetsErrorFirst(t *testing.T) {
	for name, change := range changes() {
		for _, hop := range []byte{0, 1, 2, 255} {
			for _, first := range nibbles() {
				for size := range 40 {
					b := mixed(size, int(first))
					if size > 0 {
						b[0] = first
					}
					if size > 7 {
						b[7] = hop
					}
					got, e := change(b)
					wantPacket(t, fmt.Sprintf("%s of %d bytes", name, size), got, e, nil, api.ErrShort)
				}
				if first>>4 == 6 {
					continue
				}
				for _, size := range []int{40, 41, 65575, 65576, 70000} {
					b := mixed(size, int(first))
					b[0], b[7] = first, hop
					got, e := change(b)
					wantPacket(t, fmt.Sprintf("%s of %d bytes that begin with %#x", name, size, first), got, e, nil, api.ErrForm)
				}
			}
		}
		got, e := change(nil)
		wantPacket(t, name+" of nil", got, e, nil, api.ErrShort)
		whole := packetOf(ordinary(), 20)
		got, e = change(whole[:39])
		wantPacket(t, name+" of 39 bytes, and room", got, e, nil, api.ErrShort)
	}
}

// P4.4

func TestPutIsGot(t *testing.T) {
	for _, h := range heads() {
		for _, b := range ahead() {
			got := Put(b, h)
			if len(got) != len(b)+40 {
				t.Fatalf("Put behind %d bytes of %v: %d bytes", len(b), h, len(got))
			}
			wantHead(t, fmt.Sprintf("put behind %d bytes", len(b)), got[len(b):], h, api.OK)
		}
		wantHead(t, "with bytes behind it", append(Put(nil, h), mixed(100, 6)...), h, api.OK)
	}
}

func TestPutIsGotOfEachTwoNumbers(t *testing.T) {
	for i, f := range fields() {
		for _, g := range fields()[i+1:] {
			for _, n := range f.may() {
				for _, m := range g.may() {
					h := g.with(f.with(ordinary(), n), m)
					wantHead(t, fmt.Sprintf("%s %d and %s %d", f.name, n, g.name, m), Put(nil, h), h, api.OK)
				}
			}
		}
	}
}

func TestPutIsGotOfEachNumber(t *testing.T) {
	for _, f := range fields() {
		for n := 0; n <= f.greatest; n++ {
			h := f.with(ordinary(), n)
			if got, e := Get(Put(nil, h)); got != h || e != api.OK {
				t.Fatalf("%s %d: %v %d", f.name, n, got, e)
			}
		}
	}
}

func TestGotIsPut(t *testing.T) {
	for seed := range 2000 {
		b := mixed(40, seed)
		b[0] = 0x60 | b[0]&15
		h, e := Get(b)
		if e != api.OK || Can(h) != api.OK {
			t.Errorf("Get of %v: %v %d, which can be: %d", b, h, e, Can(h))
		}
		wantBytes(t, "Put of what was got", Put(nil, h), b)
	}
}

// What is changed is got again, and changed back it is what it was.
func TestChangedIsGot(t *testing.T) {
	for _, h := range heads() {
		b := packetOf(h, 30)
		there, _ := To(b, mixedAddr(7))
		back, e := To(there, h.Dst)
		wantPacket(t, "To, and back", back, e, b, api.OK)
		sized, _ := Sized(b)
		want := h
		want.Length = 30
		wantHead(t, "Sized", sized, want, api.OK)
		again, e := Sized(sized)
		wantPacket(t, "Sized twice", again, e, sized, api.OK)
	}
}

// R3: what is handed in stays as it was, with the room behind it, and no answer shares memory with it.

// answers are the answers of each call that tells bytes, of a packet.
func answers(b []byte) map[string][]byte {
	l := map[string][]byte{
		"Put":                      Put(b, ordinary()),
		"Put of one that can't be": Put(b, api.Head{Hop: 256}),
	}
	for name, change := range changes() {
		l[name], _ = change(b)
	}
	return l
}

// packets are lists with a header, one that goes no further, one that is too long, and such of no form.
func packets() [][]byte {
	last := ordinary()
	last.Hop = 1
	sized := ordinary()
	sized.Length = 12
	return [][]byte{packetOf(ordinary(), 0), packetOf(ordinary(), 12), packetOf(sized, 12), packetOf(last, 12), packetOf(ordinary(), 65536), mixed(39, 1), append([]byte{0x45}, mixed(50, 2)...), nil}
}

func TestArgumentsStay(t *testing.T) {
	for _, b := range packets() {
		list, whole := roomy(b)
		was := slices.Clone(whole)
		answers(list)
		Get(list)
		wantBytes(t, "what was handed in, and the room behind it", whole, was)
	}
}

func TestAnswersAreNewMemory(t *testing.T) {
	for _, b := range packets() {
		list, whole := roomy(b)
		was := slices.Clone(whole)
		got := answers(list)
		for name, a := range got {
			want := slices.Clone(a)
			for i := range whole {
				whole[i] ^= 255
			}
			wantBytes(t, name+", behind a change of what was handed in", a, want)
			copy(whole, was)
			for i := range a[:cap(a)] {
				a[:cap(a)][i] ^= 255
			}
			wantBytes(t, "what was handed in, behind a change of "+name, whole, was)
		}
	}
}

func TestAnswersShareNothing(t *testing.T) {
	for _, b := range packets() {
		list, _ := roomy(b)
		one, two := answers(list), answers(list)
		for name, a := range one {
			want := slices.Clone(two[name])
			for i := range a[:cap(a)] {
				a[:cap(a)][i] ^= 255
			}
			wantBytes(t, "the second answer of "+name, two[name], want)
		}
	}
}

func TestTwoPutsBehindOneList(t *testing.T) {
	list, _ := roomy(mixed(6, 8))
	one, two := Put(list, ordinary()), Put(list, greatest())
	wantBytes(t, "the first of two puts", one, append(mixed(6, 8), laid(ordinary())...))
	wantBytes(t, "the second of two puts", two, append(mixed(6, 8), laid(greatest())...))
}

func TestNilAndEmptyAreTheSame(t *testing.T) {
	wantBytes(t, "Put", Put([]byte{}, ordinary()), Put(nil, ordinary()))
	wantBytes(t, "Put of one that can't be", Put([]byte{}, api.Head{Hop: -1}), Put(nil, api.Head{Hop: -1}))
	for name, change := range changes() {
		_, e := change(nil)
		_, f := change([]byte{})
		if e != f {
			t.Errorf("%s: %d of nil, %d of an empty list", name, e, f)
		}
	}
}

// R4

func TestAskedAgain(t *testing.T) {
	for _, b := range packets() {
		one := answers(b)
		for range 3 {
			for name, a := range answers(b) {
				wantBytes(t, name+", asked again", a, one[name])
			}
		}
	}
}
