package icmp

import (
	"bytes"
	"encoding/hex"
	"fmt"
	"math"
	"slices"
	"testing"

	"harrier/api"
)

// mixed tells n bytes of no plain order; another seed tells others.
func mixed(n, seed int) []byte {
	b := make([]byte, n)
	x := uint32(seed)*2654435761 + 12345
	for i := range b {
		x = x*1664525 + 1013904223
		b[i] = byte(x >> 24)
	}
	return b
}

func mixedAddr(seed int) api.Addr {
	return api.Addr(mixed(16, seed))
}

// full is the address of all bytes 255.
func full() api.Addr {
	return api.Addr(bytes.Repeat([]byte{255}, 16))
}

// ends are pairs of addresses between which messages go.
func ends() [][2]api.Addr {
	return [][2]api.Addr{{}, {{15: 1}, {15: 2}}, {{0: 255}, {}}, {{}, {0: 255}}, {full(), full()}, {mixedAddr(1), mixedAddr(2)}, {mixedAddr(3), mixedAddr(3)}}
}

// sizes are how long a Body is: none, odd and even, some thousands, and more than 2 bytes can count.
func sizes() []int {
	return []int{0, 1, 2, 3, 4, 5, 7, 8, 31, 32, 255, 256, 1231, 1232, 1233, 1452, 4999, 5000, 65527, 65528, 70001}
}

// words are numbers of 4 bytes: both ends, and others between them.
func words() []uint32 {
	return []uint32{0, 1, 255, 256, 65535, 65536, 0x01020304, 1<<31 - 1, 1 << 31, math.MaxUint32 - 1, math.MaxUint32}
}

// noBytes are numbers that a byte has no room for, some of them fine in their low bits.
func noBytes() []int {
	return []int{-1, -2, -127, -128, -254, -255, -256, 256, 257, 260, 384, 511, 512, 65536, 65664, 1 << 31, 1<<32 + 1, 1<<32 + 128, -1 << 32,
		math.MaxInt, math.MaxInt - 1, math.MinInt, math.MinInt + 1, math.MinInt + 3, math.MinInt + 128}
}

// equal: is it the same message? nil and empty lists are the same.
func equal(a, b api.Msg) bool {
	return a.Kind == b.Kind && a.Code == b.Code && a.Word == b.Word && bytes.Equal(a.Body, b.Body)
}

// told is a message as text, but for long bodies.
func told(m api.Msg) string {
	n := len(m.Body)
	m.Body = m.Body[:min(n, 8)]
	return fmt.Sprintf("%+v (%d bytes of Body)", m, n)
}

// roomy tells b with room behind its end, which is filled, and the whole of it. What stands there is an
// error's Kind, where it is taken for a byte of the list.
func roomy(b []byte) (list, whole []byte) {
	whole = append(slices.Clone(b), bytes.Repeat([]byte{1, 4, 5, 220}, 16)...)
	return whole[:len(b)], whole
}

// fill writes over a list and the room behind its end.
func fill(b []byte) {
	b = b[:cap(b)]
	for i := range b {
		b[i] ^= 255
	}
}

// leftOver is the whole sum by another way than the program's: what is left of it, divided by 65535.
func leftOver(src, dst api.Addr, b []byte) int {
	all := slices.Concat(src[:], dst[:], []byte{byte(len(b) >> 24), byte(len(b) >> 16), byte(len(b) >> 8), byte(len(b)), 0, 0, 0, 58}, b, make([]byte, len(b)%2))
	sum := 0
	for i := 0; i < len(all); i += 2 {
		sum += int(all[i])*256 + int(all[i+1])
	}
	return sum % 65535
}

// fineBy tells whether bytes should be parsed.
func fineBy(src, dst api.Addr, b []byte) bool {
	return leftOver(src, dst, b) == 0
}

// putBy tells the bytes of a message that can be, by another way than the program's: by text of base 16.
func putBy(src, dst api.Addr, m api.Msg) []byte {
	lay := func(sum int) []byte {
		b, err := hex.DecodeString(fmt.Sprintf("%02x%02x%04x%08x%x", m.Kind, m.Code, sum, m.Word, m.Body))
		if err != nil {
			panic(err)
		}
		return b
	}
	return lay((65535 - leftOver(src, dst, lay(0))) % 65535)
}

// packet is bytes that begin with a fixed header which says next, and behind it those of behind.
func packet(next int, behind ...byte) []byte {
	b := append([]byte{0x60, 0, 0, 0, byte(len(behind) >> 8), byte(len(behind)), byte(next), 64}, mixed(32, next)...)
	return append(b, behind...)
}

// messages are such as can be: each number at its ends, and a Body of each size.
func messages() []api.Msg {
	l := []api.Msg{{}, {Kind: 255, Code: 255, Word: math.MaxUint32, Body: bytes.Repeat([]byte{255}, 9)}}
	for _, n := range []int{0, 1, 2, 3, 4, 5, 126, 127, 128, 129, 130, 254, 255} {
		l = append(l, api.Msg{Kind: n}, api.Msg{Code: n}, api.Msg{Kind: n, Code: 255 - n, Word: 0x01020304, Body: mixed(5, n)})
	}
	for _, w := range words() {
		l = append(l, api.Msg{Word: w}, api.Msg{Kind: 128, Word: w, Body: mixed(6, 1)})
	}
	for _, n := range sizes() {
		l = append(l, api.Msg{Kind: 128, Code: 1, Word: 258, Body: mixed(n, n)}, api.Msg{Kind: 3, Body: make([]byte, n)})
	}
	return l
}

// wantPut holds Put against the bytes that it should tell.
func wantPut(t *testing.T, what string, src, dst api.Addr, m api.Msg, want []byte) {
	t.Helper()
	if b := Put(src, dst, m); !bytes.Equal(b, want) {
		t.Errorf("%s: Put of %s: %v (%d bytes), want %v (%d)", what, told(m), b[:min(len(b), 16)], len(b), want[:min(len(want), 16)], len(want))
	}
}

// wantParse holds Parse against the message that it should tell.
func wantParse(t *testing.T, what string, src, dst api.Addr, b []byte, want api.Msg) {
	t.Helper()
	list, _ := roomy(b)
	if m, e := Parse(src, dst, list); e != api.OK || !equal(m, want) {
		t.Errorf("%s: Parse of %d bytes: %s, error %d, want %s", what, len(b), told(m), e, told(want))
	}
}

// wantParseError holds Parse against an error, with nothing beside it, though more stands behind the list's end.
func wantParseError(t *testing.T, what string, src, dst api.Addr, b []byte, want api.Errno) {
	t.Helper()
	list, _ := roomy(b)
	if m, e := Parse(src, dst, list); e != want || !equal(m, api.Msg{}) {
		t.Errorf("%s: Parse of %d bytes: %s, error %d, want nothing, and %d", what, len(b), told(m), e, want)
	}
}

// wantAbout holds About against the error that it should tell.
func wantAbout(t *testing.T, what string, kind, code int, word uint32, p []byte, body []byte) {
	t.Helper()
	list, _ := roomy(p)
	want := api.Msg{Kind: kind, Code: code, Word: word, Body: body}
	if m, ok := About(kind, code, word, list); !ok || !equal(m, want) {
		t.Errorf("%s: About of %d bytes: %s, %v, want %s", what, len(p), told(m), ok, told(want))
	}
}

// wantNoneAbout holds About against there being no error.
func wantNoneAbout(t *testing.T, what string, kind, code int, word uint32, p []byte) {
	t.Helper()
	list, _ := roomy(p)
	if m, ok := About(kind, code, word, list); ok || !equal(m, api.Msg{}) {
		t.Errorf("%s: About(%d, %d, %d, %d bytes): %s, %v, want none", what, kind, code, word, len(p), told(m), ok)
	}
}

func TestNumbersOfTheChapter(t *testing.T) {
	got := []int{Unreachable, TooBig, Exceeded, Problem, Ask, Answer, Least, Quoted}
	if want := []int{1, 2, 3, 4, 128, 129, 8, 1232}; !slices.Equal(got, want) {
		t.Errorf("the constants: %v, want %v", got, want)
	}
}

// P8.1

func TestPut(t *testing.T) {
	one, two := api.Addr{15: 1}, api.Addr{15: 2}
	for _, c := range []struct {
		src, dst api.Addr
		m        api.Msg
		want     []byte
	}{
		{api.Addr{}, api.Addr{}, api.Msg{}, []byte{0, 0, 255, 189, 0, 0, 0, 0}},
		{one, two, api.Msg{}, []byte{0, 0, 255, 186, 0, 0, 0, 0}},
		{one, two, api.Msg{Body: []byte{}}, []byte{0, 0, 255, 186, 0, 0, 0, 0}},
		{one, two, api.Msg{Kind: Ask, Word: 258, Body: []byte{7}}, []byte{128, 0, 119, 183, 0, 0, 1, 2, 7}},
		{one, two, api.Msg{Kind: Answer, Code: 1, Word: 0x01020304, Body: []byte{5, 6}}, []byte{129, 1, 117, 171, 1, 2, 3, 4, 5, 6}},
		{api.Addr{}, api.Addr{}, api.Msg{Kind: 255, Code: 255, Word: math.MaxUint32}, []byte{255, 255, 255, 189, 255, 255, 255, 255}},
	} {
		wantPut(t, "an ordinary message", c.src, c.dst, c.m, c.want)
		wantPut(t, "an ordinary message", c.src, c.dst, c.m, putBy(c.src, c.dst, c.m))
		wantParse(t, "an ordinary message", c.src, c.dst, c.want, c.m)
	}
}

func TestPutOfEachMessage(t *testing.T) {
	for _, at := range ends() {
		for i, m := range messages() {
			what := fmt.Sprint("message ", i)
			wantPut(t, what, at[0], at[1], m, putBy(at[0], at[1], m))
			b := Put(at[0], at[1], m)
			if len(b) != 8+len(m.Body) {
				t.Errorf("%s: %d bytes", what, len(b))
			}
			if !fineBy(at[0], at[1], b) {
				t.Errorf("%s: its sum is wrong", what)
			}
		}
	}
}

// All Kinds with all Codes, both in their places.
func TestKindAndCode(t *testing.T) {
	src, dst := mixedAddr(1), mixedAddr(2)
	for kind := range 256 {
		for code := range 256 {
			b := Put(src, dst, api.Msg{Kind: kind, Code: code, Word: 9})
			if len(b) != 8 || int(b[0]) != kind || int(b[1]) != code || !fineBy(src, dst, b) {
				t.Errorf("Kind %d and Code %d: %v", kind, code, b)
			}
			if m, e := Parse(src, dst, b); e != api.OK || m.Kind != kind || m.Code != code || m.Word != 9 {
				t.Errorf("Kind %d and Code %d are parsed as %s, error %d", kind, code, told(m), e)
			}
		}
	}
}

// A sum that is 0 is laid as 0, and parsed also where it stands as 65535: both are Fine.
func TestSumOfZero(t *testing.T) {
	for _, at := range ends() {
		for size := range 9 {
			m := api.Msg{Kind: Ask, Body: mixed(size, 3)}
			b := putBy(at[0], at[1], m)
			m.Word = uint32(b[2])<<8 | uint32(b[3])
			want := slices.Concat([]byte{128, 0, 0, 0, 0, 0}, b[2:4], m.Body)
			wantPut(t, "a sum of 0", at[0], at[1], m, want)
			wantParse(t, "a sum of 0", at[0], at[1], want, m)
			want[2], want[3] = 255, 255
			wantParse(t, "a sum of 65535", at[0], at[1], want, m)
		}
	}
}

// Nothing is told of a Kind or a Code that is no byte.
func TestPutOfWhatCantBe(t *testing.T) {
	for _, at := range ends() {
		for _, n := range noBytes() {
			for _, m := range []api.Msg{{Kind: n}, {Code: n}, {Kind: n, Code: n}, {Kind: n, Code: 255}, {Kind: 255, Code: n}, {Kind: Ask, Code: n, Word: 9, Body: []byte{1, 2}},
				{Kind: n, Code: 7, Word: 9, Body: []byte{1, 2}}, {Kind: n, Code: -1}, {Kind: 256, Code: n}} {
				if b := Put(at[0], at[1], m); len(b) != 0 {
					t.Errorf("Put of %s: %v", told(m), b)
				}
			}
		}
	}
}

func TestParse(t *testing.T) {
	for _, at := range ends() {
		for i, m := range messages() {
			wantParse(t, fmt.Sprint("message ", i), at[0], at[1], putBy(at[0], at[1], m), m)
		}
	}
}

// ErrShort of fewer than 8 bytes, whether they are fine or not.
func TestParseOfTooFew(t *testing.T) {
	for _, at := range ends() {
		for n := range 8 {
			wantParseError(t, "bytes 0", at[0], at[1], make([]byte, n), api.ErrShort)
			wantParseError(t, "bytes of no order", at[0], at[1], mixed(n, n), api.ErrShort)
			wantParseError(t, "cut short", at[0], at[1], putBy(at[0], at[1], api.Msg{Kind: Ask, Word: 5})[:n], api.ErrShort)
			if n < 2 {
				continue
			}
			b := make([]byte, n)
			sum := (65535 - leftOver(at[0], at[1], b)) % 65535
			b[0], b[1] = byte(sum>>8), byte(sum)
			if !fineBy(at[0], at[1], b) {
				t.Fatalf("%v should be fine", b)
			}
			wantParseError(t, "fine", at[0], at[1], b, api.ErrShort)
		}
		wantParseError(t, "nil", at[0], at[1], nil, api.ErrShort)
		wantParseError(t, "8 bytes 0", at[0], at[1], make([]byte, 8), api.ErrSum)
	}
}

// ErrSum where any one bit was turned, those of the sum among them.
func TestParseOfATurnedBit(t *testing.T) {
	for _, at := range ends() {
		for _, m := range []api.Msg{{}, {Kind: Ask, Word: 258, Body: []byte{7}}, {Kind: Exceeded, Code: 255, Word: math.MaxUint32, Body: mixed(40, 2)}} {
			b := putBy(at[0], at[1], m)
			for bit := range 8 * len(b) {
				b[bit/8] ^= 1 << (bit % 8)
				wantParseError(t, fmt.Sprint("bit ", bit), at[0], at[1], b, api.ErrSum)
				b[bit/8] ^= 1 << (bit % 8)
			}
			wantParse(t, "as it was", at[0], at[1], b, m)
		}
	}
}

// Bytes that are cut, or have others behind them, are held against the sum as they are.
func TestParseOfOtherLengths(t *testing.T) {
	src, dst := mixedAddr(1), mixedAddr(2)
	b := putBy(src, dst, api.Msg{Kind: Ask, Word: 5, Body: mixed(30, 1)})
	for n := 8; n < len(b); n++ {
		if fineBy(src, dst, b[:n]) {
			t.Fatalf("%d bytes should not be fine", n)
		}
		wantParseError(t, "cut", src, dst, b[:n], api.ErrSum)
	}
	for n := 1; n < 9; n++ {
		wantParseError(t, "zeros behind", src, dst, append(slices.Clone(b), make([]byte, n)...), api.ErrSum)
	}
}

// Between other addresses the sum is wrong; between the same two, the other way round, it is right.
func TestParseBetweenOthers(t *testing.T) {
	one, two, three := api.Addr{15: 1}, api.Addr{15: 2}, api.Addr{15: 3}
	for _, m := range []api.Msg{{}, {Kind: Ask, Word: 258, Body: []byte{7}}, {Kind: TooBig, Word: 1500, Body: mixed(1232, 1)}} {
		b := putBy(one, two, m)
		wantParse(t, "as it was", one, two, b, m)
		wantParse(t, "the other way round", two, one, b, m)
		for _, at := range [][2]api.Addr{{one, three}, {three, two}, {one, one}, {two, two}, {{}, {}}, {one, {}}, {{}, two}, {one, full()}, {{14: 1}, two}, {one, {14: 2}}, {{0: 1}, two}} {
			if fineBy(at[0], at[1], b) {
				continue
			}
			wantParseError(t, fmt.Sprint("between ", at), at[0], at[1], b, api.ErrSum)
		}
		for bit := range 128 {
			at := one
			at[bit/8] ^= 1 << (bit % 8)
			wantParseError(t, fmt.Sprint("another src, bit ", bit), at, two, b, api.ErrSum)
			at = two
			at[bit/8] ^= 1 << (bit % 8)
			wantParseError(t, fmt.Sprint("another dst, bit ", bit), one, at, b, api.ErrSum)
		}
	}
}

// The sum is of IcmpKind: one of another kind is wrong.
func TestSumOfAnotherKind(t *testing.T) {
	src, dst := mixedAddr(1), mixedAddr(2)
	b := putBy(src, dst, api.Msg{Kind: Ask, Word: 5})
	for kind := range 256 {
		other := slices.Clone(b)
		sum := (int(b[2])<<8 | int(b[3])) + 58 - kind
		other[2], other[3] = byte(sum>>8), byte(sum)
		if kind != 58 {
			wantParseError(t, fmt.Sprint("a sum of kind ", kind), src, dst, other, api.ErrSum)
		}
	}
}

// P8.2

func TestReply(t *testing.T) {
	for i, m := range messages() {
		m.Kind, m.Code = Ask, 0
		want := api.Msg{Kind: 129, Word: m.Word, Body: m.Body}
		list, _ := roomy(m.Body)
		m.Body = list
		if got, ok := Reply(m); !ok || !equal(got, want) {
			t.Errorf("Reply of message %d, %s: %s, %v", i, told(m), told(got), ok)
		}
	}
	if got, ok := Reply(api.Msg{Kind: Ask, Word: 5}); !ok || !equal(got, api.Msg{Kind: Answer, Word: 5}) {
		t.Errorf("Reply of Ask 5: %s, %v", told(got), ok)
	}
}

func TestReplyOfOthers(t *testing.T) {
	numbers := noBytes()
	for n := range 256 {
		numbers = append(numbers, n)
	}
	for _, n := range numbers {
		for _, m := range []api.Msg{{Kind: n}, {Kind: Ask, Code: n}, {Kind: n, Code: n}, {Kind: n, Code: 1}, {Kind: Answer, Code: n}} {
			m.Word, m.Body = 5, []byte{1, 2, 3}
			if m.Kind == 128 && m.Code == 0 {
				continue
			}
			if got, ok := Reply(m); ok || !equal(got, api.Msg{}) {
				t.Errorf("Reply of %s: %s, %v", told(m), told(got), ok)
			}
		}
	}
}

func TestIsError(t *testing.T) {
	for kind := range 256 {
		for _, m := range []api.Msg{{Kind: kind}, {Kind: kind, Code: 255, Word: 9, Body: []byte{200}}, {Kind: kind, Code: -1}, {Kind: kind, Code: 128}} {
			if got := IsError(m); got != (kind < 128) {
				t.Errorf("IsError of %s: %v", told(m), got)
			}
		}
	}
	for _, n := range noBytes() {
		if IsError(api.Msg{Kind: n}) || IsError(api.Msg{Kind: n, Code: 1, Body: []byte{1}}) {
			t.Errorf("Kind %d is an error's", n)
		}
		if !IsError(api.Msg{Kind: 1, Code: n}) || IsError(api.Msg{Kind: 128, Code: n}) {
			t.Errorf("IsError asks for Code %d", n)
		}
	}
}

func TestAbout(t *testing.T) {
	p := packet(api.TcpKind, mixed(20, 1)...)
	for _, kind := range []int{1, 2, 3, 4} {
		for code := range 256 {
			wantAbout(t, "an ordinary packet", kind, code, 0, p, p)
		}
		for _, w := range words() {
			wantAbout(t, "an ordinary packet", kind, 0, w, p, p)
			wantAbout(t, "an ordinary packet", kind, 255, w, p, p)
			wantAbout(t, "two bytes", kind, 1, w, []byte{1, 2}, []byte{1, 2})
		}
	}
}

// The Body is the packet, and its first 1232 bytes of one that is longer.
func TestHowMuchIsQuoted(t *testing.T) {
	behind := mixed(70000, 1)
	behind[0] = 200
	for _, next := range []int{api.TcpKind, api.IcmpKind, api.HopByHop} {
		whole := packet(next, behind...)
		for _, n := range []int{0, 1, 7, 8, 39, 40, 41, 42, 100, 1230, 1231, 1232, 1233, 1234, 1280, 1500, 5000, 65535, 70000} {
			wantAbout(t, fmt.Sprint("next ", next), TooBig, 0, 1500, whole[:n], whole[:min(n, 1232)])
		}
	}
	wantAbout(t, "nil", Unreachable, 3, 7, nil, nil)
	wantAbout(t, "no bytes", Unreachable, 3, 7, []byte{}, nil)
	for n := range 1300 {
		b := mixed(n, n)
		if len(b) > 0 {
			b[0] &= 0x0f
		}
		wantAbout(t, "bytes of no order", Problem, 2, uint32(n), b, b[:min(n, 1232)])
	}
}

func TestAboutOfOtherKindsAndCodes(t *testing.T) {
	for _, p := range [][]byte{nil, {1, 2}, packet(api.TcpKind, 1, 2, 3), packet(api.IcmpKind, 128), packet(api.IcmpKind, 1), packet(api.TcpKind, mixed(2000, 1)...)} {
		others := append(noBytes(), 0)
		for n := 5; n < 256; n++ {
			others = append(others, n)
		}
		for _, kind := range others {
			for _, code := range []int{0, 1, 255, -1, 256} {
				wantNoneAbout(t, "another kind", kind, code, 9, p)
			}
		}
		for kind := 1; kind <= 4; kind++ {
			for _, code := range noBytes() {
				wantNoneAbout(t, "a code that is no byte", kind, code, 9, p)
			}
		}
	}
}

// None is told about a packet that holds an error behind its fixed header, whatever else stands there.
func TestAboutAnError(t *testing.T) {
	for first := range 256 {
		for _, size := range []int{0, 1, 7, 1191, 1192, 1500} {
			p := packet(api.IcmpKind, append([]byte{byte(first)}, mixed(size, first)...)...)
			for kind := 1; kind <= 4; kind++ {
				what := fmt.Sprint("control message of Kind ", first)
				if first < 128 {
					wantNoneAbout(t, what, kind, 0, 9, p)
				} else {
					wantAbout(t, what, kind, 255, 9, p, p[:min(len(p), 1232)])
				}
			}
		}
	}
	whole := Put(mixedAddr(1), mixedAddr(2), api.Msg{Kind: Exceeded, Body: mixed(60, 1)})
	wantNoneAbout(t, "a whole error", Exceeded, 0, 0, packet(api.IcmpKind, whole...))
	whole = Put(mixedAddr(1), mixedAddr(2), api.Msg{Kind: Ask, Word: 7})
	wantAbout(t, "a whole echo", Exceeded, 0, 0, packet(api.IcmpKind, whole...), packet(api.IcmpKind, whole...))
}

// Nothing behind the header: no error, though the room behind the list's end holds one's Kind.
func TestAboutWithNothingBehind(t *testing.T) {
	p := packet(api.IcmpKind)
	wantAbout(t, "nothing behind", Unreachable, 0, 0, p, p)
	wantAbout(t, "a header that is cut", Unreachable, 0, 0, p[:39], p[:39])
	wantNoneAbout(t, "a byte 0 behind", Unreachable, 0, 0, append(slices.Clone(p), 0))
	wantNoneAbout(t, "a byte 127 behind", Unreachable, 0, 0, append(slices.Clone(p), 127))
	wantAbout(t, "a byte 128 behind", Unreachable, 0, 0, append(slices.Clone(p), 128), append(slices.Clone(p), 128))
	wantAbout(t, "a byte 255 behind", Unreachable, 0, 0, append(slices.Clone(p), 255), append(slices.Clone(p), 255))
}

// What the fixed header says of the Length, and of all else but the next header, does not count.
func TestAboutWhateverTheHeaderSays(t *testing.T) {
	for at := range 40 {
		for _, x := range []byte{0, 1, 6, 44, 58, 127, 128, 255} {
			p := packet(api.IcmpKind, 3, 0, 1, 2)
			p[at] = x
			if at == 0 {
				p[0] = 0x60 | x&15
			}
			if at == 6 && x != 58 {
				wantAbout(t, fmt.Sprint("next ", x), Problem, 1, 6, p, p)
			} else {
				wantNoneAbout(t, fmt.Sprint("byte ", at, " of ", x), Problem, 1, 6, p)
			}
		}
	}
}

func TestAboutOtherHeaders(t *testing.T) {
	for next := range 256 {
		p := packet(next, 1, 0, 0, 0, 0, 0, 0, 0)
		if next != 58 {
			wantAbout(t, fmt.Sprint("next ", next), Unreachable, 4, 0, p, p)
		}
	}
	// An error that stands behind another header is not what the fixed header says.
	p := packet(api.HopByHop, append([]byte{58, 0, 0, 0, 0, 0, 0, 0}, Put(api.Addr{}, api.Addr{}, api.Msg{Kind: 1})...)...)
	wantAbout(t, "an error behind another header", Unreachable, 4, 0, p, p)
}

// Bytes that begin with no fixed header hold no error.
func TestAboutWithoutHeader(t *testing.T) {
	for first := range 256 {
		p := packet(api.IcmpKind, 1, 0, 0, 0)
		p[0] = byte(first)
		if first>>4 == 6 {
			wantNoneAbout(t, fmt.Sprint("first byte ", first), Problem, 0, 0, p)
		} else {
			wantAbout(t, fmt.Sprint("first byte ", first), Problem, 0, 0, p, p)
		}
	}
	wantAbout(t, "bytes 58", Problem, 0, 0, bytes.Repeat([]byte{58}, 100), bytes.Repeat([]byte{58}, 100))
	wantNoneAbout(t, "bytes 0x60, but for the next header", Problem, 0, 0, slices.Concat(bytes.Repeat([]byte{0x60}, 6), []byte{58}, bytes.Repeat([]byte{0x60}, 50)))
}

// What About tells is an error, which is put and parsed as what it was, and about which none is told.
func TestAboutIsAnError(t *testing.T) {
	src, dst := mixedAddr(1), mixedAddr(2)
	for kind := 1; kind <= 4; kind++ {
		m, ok := About(kind, kind*60, uint32(kind)<<30, packet(api.TcpKind, mixed(1460, kind)...))
		if !ok || !IsError(m) {
			t.Errorf("About of kind %d: %s, %v", kind, told(m), ok)
		}
		if _, ok := Reply(m); ok {
			t.Errorf("there is a Reply to an error of kind %d", kind)
		}
		b := Put(src, dst, m)
		wantParse(t, "an error", src, dst, b, m)
		wantNoneAbout(t, "an error about an error", kind, 0, 0, packet(api.IcmpKind, b...))
	}
}

// P8.3: what was put is parsed as what it was.

func TestPutIsParsed(t *testing.T) {
	for _, at := range ends() {
		for i, m := range messages() {
			wantParse(t, fmt.Sprint("message ", i), at[0], at[1], Put(at[0], at[1], m), m)
		}
	}
}

// lottery tells a message, most often one that can be.
func lottery(seed int) api.Msg {
	d := mixed(12, seed)
	m := api.Msg{Kind: int(d[0]), Code: int(d[1]), Word: uint32(d[2])<<24 | uint32(d[3])<<16 | uint32(d[4])<<8 | uint32(d[5]), Body: mixed(int(d[6])%50, seed+1)}
	switch d[7] % 8 {
	case 0:
		m.Kind = noBytes()[int(d[8])%len(noBytes())]
	case 1:
		m.Code = noBytes()[int(d[8])%len(noBytes())]
	case 2:
		m.Kind, m.Code = Ask, int(d[8])%2
	}
	return m
}

// isByte: may it be a Kind or a Code?
func isByte(n int) bool { return n == int(byte(n)) }

func TestManyMessages(t *testing.T) {
	can, cant := 0, 0
	for seed := range 20000 {
		m := lottery(seed)
		src, dst := mixedAddr(seed+2), mixedAddr(seed+3)
		what := fmt.Sprint("message ", seed)
		if !isByte(m.Kind) || !isByte(m.Code) {
			cant++
			wantPut(t, what, src, dst, m, nil)
			continue
		}
		can++
		wantPut(t, what, src, dst, m, putBy(src, dst, m))
		wantParse(t, what, src, dst, Put(src, dst, m), m)
	}
	if can < 1000 || cant < 1000 {
		t.Errorf("%d messages can be, %d can't", can, cant)
	}
}

// R1: no call panics, whatever it is given; beside an error, or a false, there is nothing.
func TestWhateverIsGiven(t *testing.T) {
	met := map[api.Errno]int{}
	for seed := range 20000 {
		d := mixed(8, seed+50000)
		b := mixed(int(d[0])%60, seed)
		src, dst := mixedAddr(seed+2), mixedAddr(seed+3)
		if len(b) >= 4 && d[1]%2 == 0 {
			b[2], b[3] = 0, 0
			sum := (65535 - leftOver(src, dst, b)) % 65535
			b[2], b[3] = byte(sum>>8), byte(sum)
		}
		m, e := Parse(src, dst, b)
		met[e]++
		switch {
		case len(b) < 8:
			wantParseError(t, "any bytes", src, dst, b, api.ErrShort)
		case !fineBy(src, dst, b):
			wantParseError(t, "any bytes", src, dst, b, api.ErrSum)
		default:
			wantPut(t, "any bytes", src, dst, m, b)
		}
		if m, ok := Reply(lottery(seed)); !ok && !equal(m, api.Msg{}) {
			t.Errorf("message %d: %s beside false", seed, told(m))
		}
		if m, ok := About(int(d[2])%7-1, int(d[3])*2-100, 9, b); !ok && !equal(m, api.Msg{}) {
			t.Errorf("About %d: %s beside false", seed, told(m))
		}
	}
	for _, e := range []api.Errno{api.OK, api.ErrShort, api.ErrSum} {
		if met[e] < 100 {
			t.Errorf("the bytes hold error %d but %d times", e, met[e])
		}
	}
}

// R3: what is handed in stays as it was, with the room behind it; what is told is new memory.

func TestWhatIsHandedInStays(t *testing.T) {
	src, dst := mixedAddr(1), mixedAddr(2)
	for i, m := range messages() {
		list, whole := roomy(m.Body)
		was := slices.Clone(whole)
		m.Body = list
		Put(src, dst, m)
		IsError(m)
		Reply(m)
		Reply(api.Msg{Kind: Ask, Body: list})
		Parse(src, dst, list)
		About(Exceeded, 0, 0, list)
		About(0, 0, 0, list)
		if !bytes.Equal(whole, was) {
			t.Errorf("the Body of message %d, or the room behind it, changed", i)
		}
		list, whole = roomy(putBy(src, dst, m))
		was = slices.Clone(whole)
		Parse(src, dst, list)
		Parse(dst, full(), list)
		About(Exceeded, 0, 0, list)
		if !bytes.Equal(whole, was) {
			t.Errorf("the bytes of message %d, or the room behind them, changed", i)
		}
		list, whole = roomy(packet(api.IcmpKind, list...))
		was = slices.Clone(whole)
		About(Exceeded, 0, 0, list)
		if !bytes.Equal(whole, was) {
			t.Errorf("packet %d, or the room behind it, changed", i)
		}
	}
}

// wantNew holds what a call tells of a list to be new memory: two answers, and an answer and the list, share none.
func wantNew(t *testing.T, what string, given []byte, call func([]byte) []byte) {
	t.Helper()
	list, whole := roomy(given)
	was := slices.Clone(whole)
	one, two := call(list), call(list)
	want := slices.Clone(one)
	fill(one)
	if !bytes.Equal(two, want) {
		t.Errorf("%s: two answers share memory", what)
	}
	if !bytes.Equal(whole, was) {
		t.Errorf("%s: the answer shares memory with what was handed in", what)
	}
	fill(whole)
	if !bytes.Equal(two, want) {
		t.Errorf("%s: the answer changes with what was handed in", what)
	}
}

func TestWhatIsToldIsNewMemory(t *testing.T) {
	src, dst := mixedAddr(1), mixedAddr(2)
	for _, n := range sizes() {
		b := mixed(n, n)
		wantNew(t, fmt.Sprint("Put of ", n), b, func(b []byte) []byte { return Put(src, dst, api.Msg{Kind: Ask, Body: b}) })
		wantNew(t, fmt.Sprint("Parse of ", n), putBy(src, dst, api.Msg{Kind: Ask, Body: b}), func(b []byte) []byte {
			m, e := Parse(src, dst, b)
			if e != api.OK || len(m.Body) != n {
				t.Errorf("Parse of a Body of %d bytes: %s, error %d", n, told(m), e)
			}
			return m.Body
		})
		wantNew(t, fmt.Sprint("Reply of ", n), b, func(b []byte) []byte {
			m, ok := Reply(api.Msg{Kind: Ask, Body: b})
			if !ok || len(m.Body) != n {
				t.Errorf("Reply of a Body of %d bytes: %s, %v", n, told(m), ok)
			}
			return m.Body
		})
		wantNew(t, fmt.Sprint("About of ", n), packet(api.TcpKind, b...), func(b []byte) []byte {
			m, ok := About(Exceeded, 0, 0, b)
			if !ok || len(m.Body) != min(40+n, 1232) {
				t.Errorf("About a packet of %d bytes: %s, %v", 40+n, told(m), ok)
			}
			return m.Body
		})
	}
}

// What was handed in is not kept: changed, it is told as it is now.
func TestNothingIsKept(t *testing.T) {
	src, dst := mixedAddr(1), mixedAddr(2)
	m := api.Msg{Kind: Ask, Word: 5, Body: []byte{1, 2, 3}}
	wantPut(t, "ahead of the change", src, dst, m, putBy(src, dst, m))
	m.Body[1]++
	wantPut(t, "behind the change", src, dst, m, putBy(src, dst, m))
	if got, ok := Reply(m); !ok || !bytes.Equal(got.Body, []byte{1, 3, 3}) {
		t.Errorf("behind the change: Reply %s, %v", told(got), ok)
	}
	b := putBy(src, dst, m)
	wantParse(t, "ahead of the change", src, dst, b, m)
	b[9]++
	wantParseError(t, "behind the change", src, dst, b, api.ErrSum)
	p := packet(api.IcmpKind, 127)
	wantNoneAbout(t, "ahead of the change", Problem, 0, 0, p)
	p[40]++
	wantAbout(t, "behind the change", Problem, 0, 0, p, p)
}

func TestNilAndEmptyAreTheSame(t *testing.T) {
	src, dst := mixedAddr(1), mixedAddr(2)
	if a, b := Put(src, dst, api.Msg{Kind: Ask}), Put(src, dst, api.Msg{Kind: Ask, Body: []byte{}}); !bytes.Equal(a, b) {
		t.Errorf("Put of nil: %v, of an empty Body: %v", a, b)
	}
	a, ok := Reply(api.Msg{Kind: Ask})
	b, is := Reply(api.Msg{Kind: Ask, Body: []byte{}})
	if !ok || !is || !equal(a, b) {
		t.Errorf("Reply of nil: %s, %v, of an empty Body: %s, %v", told(a), ok, told(b), is)
	}
	wantParseError(t, "nil", src, dst, nil, api.ErrShort)
	if _, e := Parse(src, dst, nil); e != api.ErrShort {
		t.Errorf("Parse of nil: %d", e)
	}
	if m, ok := About(1, 0, 0, nil); !ok || !equal(m, api.Msg{Kind: 1}) {
		t.Errorf("About nil: %s, %v", told(m), ok)
	}
}

// R4: asked again, each call answers what it answered, wherever its arguments stand.
func TestAskedAgain(t *testing.T) {
	for seed := range 500 {
		m := lottery(seed)
		src, dst := mixedAddr(seed+2), mixedAddr(seed+3)
		b := Put(src, dst, m)
		parsed, e := Parse(src, dst, b)
		reply, ok := Reply(m)
		about, is := About(m.Kind%8, m.Code, m.Word, m.Body)
		for range 3 {
			again := m
			again.Body, _ = roomy(m.Body)
			c := Put(src, dst, again)
			p, f := Parse(src, dst, c)
			r, o := Reply(again)
			a, i := About(again.Kind%8, again.Code, again.Word, again.Body)
			if !bytes.Equal(b, c) || !equal(p, parsed) || e != f || !equal(r, reply) || ok != o || !equal(a, about) || is != i || IsError(again) != IsError(m) {
				t.Errorf("message %d: asked again, it is another", seed)
			}
		}
	}
}
