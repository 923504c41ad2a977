package tcp

import (
	"bytes"
	"encoding/hex"
	"fmt"
	"math"
	"slices"
	"testing"

	"harrier/api"
)

// mixed tells n bytes of no plain order; another seed tells others.
func mixed(n, seed int) []byte {
	b := make([]byte, n)
	x := uint32(seed)*2654435761 + 12345
	for i := range b {
		x = x*1664525 + 1013904223
		b[i] = byte(x >> 24)
	}
	return b
}

// nops are n options Nop.
func nops(n int) []api.Opt {
	return slices.Repeat([]api.Opt{{Kind: 1}}, n)
}

// sized are options that are together n bytes, one way and another.
func sized(n int) [][]api.Opt {
	out := [][]api.Opt{nops(n)}
	if n >= 2 {
		out = append(out, []api.Opt{{Kind: 9, Data: mixed(n-2, n)}})
	}
	if n >= 3 {
		out = append(out, []api.Opt{{Kind: 254, Data: mixed(n-3, n)}, {Kind: 1}})
	}
	if n >= 9 {
		out = append(out, append([]api.Opt{{Kind: 2, Data: []byte{5, 220}}, {Kind: 4}, {Kind: 3, Data: []byte{7}}}, nops(n-9)...))
	}
	if n >= 12 {
		out = append(out, []api.Opt{{Kind: 8, Data: mixed(8, n)}, {Kind: 255, Data: make([]byte, n-12)}})
	}
	return out
}

// shorts are the numbers of 2 bytes of a segment, by name, and where they stand.
func shorts() []struct {
	name string
	at   int
	of   func(*api.Tcp) *int
} {
	return []struct {
		name string
		at   int
		of   func(*api.Tcp) *int
	}{
		{"Sport", 0, func(s *api.Tcp) *int { return &s.Sport }},
		{"Dport", 2, func(s *api.Tcp) *int { return &s.Dport }},
		{"Window", 14, func(s *api.Tcp) *int { return &s.Window }},
		{"Sum", 16, func(s *api.Tcp) *int { return &s.Sum }},
		{"Urgent", 18, func(s *api.Tcp) *int { return &s.Urgent }},
	}
}

// wrongNumbers are such as 2 bytes have no room for, some of them fine in their low bits.
func wrongNumbers() []int {
	return []int{-1, -2, -80, -65535, -65536, 65536, 65537, 65616, 131071, 1 << 31, 1<<32 + 80, 1 << 62, -1 << 32,
		math.MaxInt, math.MaxInt - 1, math.MinInt, math.MinInt + 1, math.MinInt + 80}
}

// wrongFlags are such as a byte has no room for.
func wrongFlags() []int {
	return []int{-1, -2, -256, -254, 256, 257, 258, 511, 512, 65535, 65536, 1 << 32, 1<<32 + 2, math.MaxInt, math.MinInt, math.MinInt + 2}
}

// wrongOpts are options that can't be, and the error of each.
func wrongOpts() []struct {
	l []api.Opt
	e api.Errno
} {
	return []struct {
		l []api.Opt
		e api.Errno
	}{
		{[]api.Opt{{}}, api.ErrArg},
		{[]api.Opt{{Kind: -1}}, api.ErrArg},
		{[]api.Opt{{Kind: 256}}, api.ErrArg},
		{[]api.Opt{{Kind: 1}, {Kind: math.MaxInt, Data: mixed(100, 1)}}, api.ErrArg},
		{append(nops(41), api.Opt{Kind: math.MinInt}), api.ErrArg},
		{[]api.Opt{{Kind: 1, Data: []byte{0}}}, api.ErrForm},
		{[]api.Opt{{Kind: 2, Data: []byte{5}}}, api.ErrForm},
		{[]api.Opt{{Kind: 4}, {Kind: 3}}, api.ErrForm},
		{[]api.Opt{{Kind: 8, Data: mixed(9, 1)}, {Kind: 0}}, api.ErrForm},
		{append(nops(41), api.Opt{Kind: 4, Data: []byte{0, 0}}), api.ErrForm},
		{nops(41), api.ErrMany},
		{[]api.Opt{{Kind: 9, Data: mixed(39, 1)}}, api.ErrMany},
		{[]api.Opt{{Kind: 9, Data: mixed(30, 1)}, {Kind: 2, Data: []byte{5, 220}}, {Kind: 8, Data: mixed(8, 1)}}, api.ErrMany},
		{nops(296), api.ErrMany},
		{[]api.Opt{{Kind: 9, Data: mixed(254, 1)}}, api.ErrMany},
	}
}

// plain is a segment with a number of its own in each place.
func plain() api.Tcp {
	return api.Tcp{Sport: 258, Dport: 772, Seq: 0x05060708, Ack: 0x090a0b0c, Flags: 18, Window: 0x0d0e, Sum: 0x0f10, Urgent: 0x1112,
		Opts: []api.Opt{{Kind: 2, Data: []byte{5, 220}}, {Kind: 1}}, Payload: []byte{0xaa, 0xbb, 0xcc}}
}

// equal: is it the same segment? nil and empty lists are the same.
func equal(a, b api.Tcp) bool {
	same := func(x, y api.Opt) bool { return x.Kind == y.Kind && bytes.Equal(x.Data, y.Data) }
	return a.Sport == b.Sport && a.Dport == b.Dport && a.Seq == b.Seq && a.Ack == b.Ack && a.Flags == b.Flags &&
		a.Window == b.Window && a.Sum == b.Sum && a.Urgent == b.Urgent && slices.EqualFunc(a.Opts, b.Opts, same) && bytes.Equal(a.Payload, b.Payload)
}

// cloned is a segment in new memory.
func cloned(s api.Tcp) api.Tcp {
	s.Opts = slices.Clone(s.Opts)
	for i := range s.Opts {
		s.Opts[i].Data = slices.Clone(s.Opts[i].Data)
	}
	s.Payload = slices.Clone(s.Payload)
	return s
}

// roomy tells b with room behind its end, which is filled, and the whole of it.
func roomy(b []byte) (list, whole []byte) {
	whole = append(slices.Clone(b), bytes.Repeat([]byte{80, 4, 5, 220}, 16)...)
	return whole[:len(b)], whole
}

// fill writes over a list and the room behind its end.
func fill(b []byte) {
	b = b[:cap(b)]
	for i := range b {
		b[i] ^= 255
	}
}

// fillSegment writes over all lists of a segment and the room behind their ends.
func fillSegment(s api.Tcp) {
	fill(s.Payload)
	room := s.Opts[:cap(s.Opts)]
	for i := range room {
		fill(room[i].Data)
		room[i] = api.Opt{Kind: -9}
	}
}

// told is a segment as text, but for long payloads.
func told(s api.Tcp) string {
	n := len(s.Payload)
	s.Payload = s.Payload[:min(n, 8)]
	return fmt.Sprintf("%+v (%d bytes of Payload)", s, n)
}

// putBy tells the bytes of a segment that can be, by another way than the program's: by text of base 16.
func putBy(s api.Tcp) []byte {
	opts := ""
	for _, o := range s.Opts {
		opts += fmt.Sprintf("%02x", o.Kind)
		if o.Kind != 1 {
			opts += fmt.Sprintf("%02x%x", len(o.Data)+2, o.Data)
		}
	}
	for len(opts)%8 != 0 {
		opts += "00"
	}
	text := fmt.Sprintf("%04x%04x%08x%08x%x0%02x%04x%04x%04x%s%x", s.Sport, s.Dport, s.Seq, s.Ack, 5+len(opts)/8, s.Flags, s.Window, s.Sum, s.Urgent, opts, s.Payload)
	b, err := hex.DecodeString(text)
	if err != nil {
		panic(err)
	}
	return b
}

// leftOver is what Fine is about, by another way than the program's: what is left of the whole sum, divided by 65535.
func leftOver(src, dst api.Addr, b []byte) int {
	all := slices.Concat(src[:], dst[:], []byte{byte(len(b) >> 24), byte(len(b) >> 16), byte(len(b) >> 8), byte(len(b)), 0, 0, 0, 6}, b, make([]byte, len(b)%2))
	sum := 0
	for i := 0; i < len(all); i += 2 {
		sum += int(all[i])*256 + int(all[i+1])
	}
	return sum % 65535
}

// fineBy tells what Fine should.
func fineBy(src, dst api.Addr, b []byte) bool {
	return leftOver(src, dst, b) == 0
}

// wantPut holds Can and Put of a segment that can be against its bytes.
func wantPut(t *testing.T, what string, s api.Tcp, want []byte) {
	t.Helper()
	if e := Can(s); e != api.OK {
		t.Errorf("%s: Can of %s: %d, want 0", what, told(s), e)
	}
	if b, e := Put(s); e != api.OK || !bytes.Equal(b, want) {
		t.Errorf("%s: Put of %s: %d bytes, error %d, want others, of %d", what, told(s), len(b), e, len(want))
	}
}

// wantPutError holds Can and Put against an error, with nothing beside it.
func wantPutError(t *testing.T, what string, s api.Tcp, want api.Errno) {
	t.Helper()
	if e := Can(s); e != want {
		t.Errorf("%s: Can of %s: %d, want %d", what, told(s), e, want)
	}
	if b, e := Put(s); e != want || len(b) != 0 {
		t.Errorf("%s: Put of %s: %d bytes, error %d, want none, and %d", what, told(s), len(b), e, want)
	}
}

// wantParse holds Parse against the segment that it should tell.
func wantParse(t *testing.T, what string, b []byte, want api.Tcp) {
	t.Helper()
	list, _ := roomy(b)
	if s, e := Parse(list); e != api.OK || !equal(s, want) {
		t.Errorf("%s: Parse of %d bytes: %s, error %d, want %s", what, len(b), told(s), e, told(want))
	}
}

// wantParseError holds Parse against an error, with nothing beside it, though more stands behind the list's end.
func wantParseError(t *testing.T, what string, b []byte, want api.Errno) {
	t.Helper()
	list, _ := roomy(b)
	if s, e := Parse(list); e != want || !equal(s, api.Tcp{}) {
		t.Errorf("%s: Parse of %d bytes: %s, error %d, want nothing, and %d", what, len(b), told(s), e, want)
	}
}

func TestNumberOfTheChapter(t *testing.T) {
	if Least != 20 {
		t.Errorf("Least: %d", Least)
	}
}

// P7.1

func TestPut(t *testing.T) {
	for _, c := range []struct {
		s    api.Tcp
		want []byte
	}{
		{api.Tcp{}, []byte{0, 0, 0, 0, 0, 0, 0, 0, 0, 0, 0, 0, 0x50, 0, 0, 0, 0, 0, 0, 0}},
		{api.Tcp{Opts: []api.Opt{}, Payload: []byte{}}, []byte{0, 0, 0, 0, 0, 0, 0, 0, 0, 0, 0, 0, 0x50, 0, 0, 0, 0, 0, 0, 0}},
		{plain(), []byte{1, 2, 3, 4, 5, 6, 7, 8, 9, 10, 11, 12, 0x70, 18, 13, 14, 15, 16, 17, 18, 2, 4, 5, 220, 1, 0, 0, 0, 0xaa, 0xbb, 0xcc}},
		{api.Tcp{Sport: 80, Flags: api.SYN, Opts: []api.Opt{{Kind: 4}}}, []byte{0, 80, 0, 0, 0, 0, 0, 0, 0, 0, 0, 0, 0x60, 2, 0, 0, 0, 0, 0, 0, 4, 2, 0, 0}},
		{api.Tcp{Dport: 80, Flags: api.FIN | api.ACK, Payload: []byte{7}}, []byte{0, 0, 0, 80, 0, 0, 0, 0, 0, 0, 0, 0, 0x50, 17, 0, 0, 0, 0, 0, 0, 7}},
		{api.Tcp{Sport: 65535, Dport: 65535, Seq: math.MaxUint32, Ack: math.MaxUint32, Flags: 255, Window: 65535, Sum: 65535, Urgent: 65535},
			[]byte{255, 255, 255, 255, 255, 255, 255, 255, 255, 255, 255, 255, 0x50, 255, 255, 255, 255, 255, 255, 255}},
	} {
		wantPut(t, "an ordinary segment", c.s, c.want)
		wantPut(t, "an ordinary segment", c.s, putBy(c.s))
	}
}

// Each number at its ends, alone and among others that are not 0.
func TestNumbersAtTheirEnds(t *testing.T) {
	for _, first := range []api.Tcp{{}, plain()} {
		for _, p := range shorts() {
			for _, n := range []int{0, 1, 255, 256, 32767, 32768, 65534, 65535} {
				s := first
				*p.of(&s) = n
				wantPut(t, fmt.Sprint(p.name, " of ", n), s, putBy(s))
				b, _ := Put(s)
				if len(b) < 20 || int(b[p.at])*256+int(b[p.at+1]) != n {
					t.Errorf("%s of %d stands elsewhere than at %d: %v", p.name, n, p.at, b)
				}
				wantParse(t, fmt.Sprint(p.name, " of ", n), b, s)
			}
		}
		for flags := range 256 {
			s := first
			s.Flags = flags
			wantPut(t, fmt.Sprint("Flags of ", flags), s, putBy(s))
			wantParse(t, fmt.Sprint("Flags of ", flags), putBy(s), s)
		}
		for _, n := range []uint32{0, 1, 255, 256, 65535, 65536, 1 << 24, 1<<31 - 1, 1 << 31, math.MaxUint32 - 1, math.MaxUint32} {
			seq, ack := first, first
			seq.Seq, ack.Ack = n, n
			for _, s := range []api.Tcp{seq, ack} {
				wantPut(t, fmt.Sprint("Seq or Ack of ", n), s, putBy(s))
				wantParse(t, fmt.Sprint("Seq or Ack of ", n), putBy(s), s)
			}
		}
	}
}

// Options of each length together, with payloads of each: odd and even, none at all.
func TestHowManyBytes(t *testing.T) {
	for n := range 41 {
		for _, l := range sized(n) {
			for _, size := range []int{0, 1, 2, 3, 4, 5, 40, 41, 255, 256, 1460} {
				s := plain()
				s.Opts, s.Payload = l, mixed(size, n)
				what := fmt.Sprint(n, " bytes of options, ", size, " of Payload")
				wantPut(t, what, s, putBy(s))
				b, _ := Put(s)
				if words := (n + 3) / 4; len(b) != 20+4*words+size || int(b[12]) != (5+words)*16 {
					t.Errorf("%s: %d bytes: %v", what, len(b), b)
				}
			}
		}
	}
}

// A Flags, or a number of 2 bytes, that may not be: ErrArg, whatever else is wrong.
func TestNumbersThatMayNotBe(t *testing.T) {
	for _, first := range []api.Tcp{{}, plain()} {
		for _, p := range shorts() {
			for _, n := range wrongNumbers() {
				s := first
				*p.of(&s) = n
				wantPutError(t, fmt.Sprint(p.name, " of ", n), s, api.ErrArg)
			}
		}
		for _, n := range wrongFlags() {
			s := first
			s.Flags = n
			wantPutError(t, fmt.Sprint("Flags of ", n), s, api.ErrArg)
		}
	}
}

func TestOptionsThatCantBe(t *testing.T) {
	for _, first := range []api.Tcp{{}, plain()} {
		for i, c := range wrongOpts() {
			s := first
			s.Opts = c.l
			wantPutError(t, fmt.Sprint("wrong options ", i), s, c.e)
		}
		s := first
		s.Opts = nops(65536)
		wantPutError(t, "far too many options", s, api.ErrMany)
		s.Opts = []api.Opt{{Kind: 9, Data: mixed(1<<20, 1)}}
		wantPutError(t, "a far too long option", s, api.ErrMany)
	}
}

// ErrLong: more than 65535 bytes together, with what fills the options up to whole words.
func TestHowLongASegmentIs(t *testing.T) {
	all := mixed(1<<17, 1)
	for n := range 41 {
		words := (n + 3) / 4 * 4
		room := 65535 - 20 - words
		for _, l := range sized(n) {
			s := plain()
			s.Opts, s.Payload = l, all[:room]
			what := fmt.Sprint(n, " bytes of options, ", room, " of Payload")
			wantPut(t, what, s, putBy(s))
			if b, _ := Put(s); len(b) != 65535 {
				t.Errorf("%s: %d bytes", what, len(b))
			}
			for _, more := range []int{1, 2, 3, 4, 20, words + 20, 1000, 65536} {
				s.Payload = all[:room+more]
				wantPutError(t, fmt.Sprint(what, ", and ", more, " more"), s, api.ErrLong)
			}
		}
	}
	for _, size := range []int{65515, 65516} {
		s := api.Tcp{Payload: all[:size]}
		if want := map[int]api.Errno{65515: api.OK, 65516: api.ErrLong}[size]; Can(s) != want {
			t.Errorf("no options and %d bytes of Payload: %d, want %d", size, Can(s), want)
		}
	}
	wantPutError(t, "far more bytes", api.Tcp{Payload: make([]byte, 1<<24)}, api.ErrLong)
	wantPutError(t, "far more bytes", api.Tcp{Opts: nops(3), Payload: make([]byte, 1<<20+5)}, api.ErrLong)
}

// A number's ErrArg comes ahead of the options' error, and that ahead of ErrLong.
func TestWhichErrorOfASegment(t *testing.T) {
	long := make([]byte, 70000)
	for i, c := range wrongOpts() {
		what := fmt.Sprint("wrong options ", i)
		wantPutError(t, what+", too long", api.Tcp{Opts: c.l, Payload: long}, c.e)
		wantPutError(t, what+", too long", api.Tcp{Opts: c.l, Payload: long[:65516]}, c.e)
		for _, p := range shorts() {
			s := plain()
			s.Opts = c.l
			*p.of(&s) = -1
			wantPutError(t, what+", and "+p.name, s, api.ErrArg)
			s.Payload = long
			wantPutError(t, what+", too long, and "+p.name, s, api.ErrArg)
			s.Opts = nil
			wantPutError(t, "too long, and "+p.name, s, api.ErrArg)
		}
		wantPutError(t, what+", and Flags", api.Tcp{Flags: 256, Opts: c.l}, api.ErrArg)
		wantPutError(t, what+", too long, and Flags", api.Tcp{Flags: 256, Opts: c.l, Payload: long}, api.ErrArg)
	}
	wantPutError(t, "too long, and Flags", api.Tcp{Flags: -1, Payload: long}, api.ErrArg)
}

// P7.2

func TestParse(t *testing.T) {
	for _, c := range []struct {
		b    []byte
		want api.Tcp
	}{
		{[]byte{0, 0, 0, 0, 0, 0, 0, 0, 0, 0, 0, 0, 0x50, 0, 0, 0, 0, 0, 0, 0}, api.Tcp{}},
		{[]byte{1, 2, 3, 4, 5, 6, 7, 8, 9, 10, 11, 12, 0x70, 18, 13, 14, 15, 16, 17, 18, 2, 4, 5, 220, 1, 0, 0, 0, 0xaa, 0xbb, 0xcc}, plain()},
		{[]byte{255, 255, 255, 255, 255, 255, 255, 255, 255, 255, 255, 255, 0x50, 255, 255, 255, 255, 255, 255, 255},
			api.Tcp{Sport: 65535, Dport: 65535, Seq: math.MaxUint32, Ack: math.MaxUint32, Flags: 255, Window: 65535, Sum: 65535, Urgent: 65535}},
		{[]byte{0, 80, 0, 0, 0, 0, 0, 0, 0, 0, 0, 0, 0x60, 2, 0, 0, 0, 0, 0, 0, 4, 2, 0, 0, 9}, api.Tcp{Sport: 80, Flags: 2, Opts: []api.Opt{{Kind: 4}}, Payload: []byte{9}}},
		// Options of bytes 0 alone are none.
		{[]byte{0, 80, 0, 0, 0, 0, 0, 0, 0, 0, 0, 0, 0x60, 2, 0, 0, 0, 0, 0, 0, 0, 0, 0, 0, 9}, api.Tcp{Sport: 80, Flags: 2, Payload: []byte{9}}},
		// What would be options is the Payload's, where the 13th byte says so.
		{[]byte{0, 80, 0, 0, 0, 0, 0, 0, 0, 0, 0, 0, 0x50, 2, 0, 0, 0, 0, 0, 0, 2, 0, 0, 1}, api.Tcp{Sport: 80, Flags: 2, Payload: []byte{2, 0, 0, 1}}},
	} {
		wantParse(t, "an ordinary segment", c.b, c.want)
	}
}

// header is the first 20 bytes of a segment that says to have words times 4 bytes ahead of its Payload.
func header(words int) []byte {
	return []byte{1, 2, 3, 4, 5, 6, 7, 8, 9, 10, 11, 12, byte(words << 4), 18, 13, 14, 15, 16, 17, 18}
}

// Fewer than 20 bytes, whatever they say and whatever stands behind them.
func TestTooFewBytes(t *testing.T) {
	wantParseError(t, "nothing", nil, api.ErrShort)
	for size := range 20 {
		for _, b := range [][]byte{make([]byte, 20), header(5), header(4), header(15), bytes.Repeat([]byte{255}, 20)} {
			wantParseError(t, "too few bytes", b[:size], api.ErrShort)
		}
	}
	whole, _ := Put(plain())
	for size := range whole[:28] {
		wantParseError(t, "cut short", whole[:size], api.ErrShort)
	}
	wantParse(t, "20 bytes", header(5), api.Tcp{Sport: 258, Dport: 772, Seq: 0x05060708, Ack: 0x090a0b0c, Flags: 18, Window: 0x0d0e, Sum: 0x0f10, Urgent: 0x1112})
}

// Each 13th byte, at each number of bytes: ErrForm of its bits comes ahead of ErrShort of what it says.
func TestEach13thByte(t *testing.T) {
	for x := range 256 {
		for size := 20; size <= 64; size++ {
			b := append(header(0), bytes.Repeat([]byte{1}, size-20)...)
			b[12] = byte(x)
			what := fmt.Sprint("13th byte ", x)
			ahead := x / 16 * 4
			switch {
			case x%16 != 0 || ahead < 20:
				wantParseError(t, what, b, api.ErrForm)
			case ahead > size:
				wantParseError(t, what, b, api.ErrShort)
			default:
				want := plain()
				want.Opts, want.Payload = nops(ahead-20), bytes.Repeat([]byte{1}, size-ahead)
				wantParse(t, what, b, want)
			}
		}
	}
}

// 60 bytes ahead of the Payload, and none, one and more behind them; one less is too few.
func TestAsManyOptionsAsMayBe(t *testing.T) {
	for _, l := range sized(40) {
		s := plain()
		s.Opts, s.Payload = l, nil
		b, e := Put(s)
		if e != api.OK || len(b) != 60 || b[12] != 0xf0 {
			t.Fatalf("%v %d", b, e)
		}
		wantParse(t, "60 bytes", b, s)
		wantParseError(t, "59 of 60 bytes", b[:59], api.ErrShort)
		wantParseError(t, "20 of 60 bytes", b[:20], api.ErrShort)
		for size := 1; size < 5; size++ {
			s.Payload = mixed(size, size)
			wantParse(t, "60 bytes and a Payload", append(slices.Clone(b), s.Payload...), s)
		}
	}
}

// topt.Parse's error of the options: they end where the Payload begins.
func TestOptionsNotAsTheyShouldBe(t *testing.T) {
	for _, c := range []struct {
		opts []byte
		want api.Errno
	}{
		{[]byte{0, 0, 0, 1}, api.ErrForm},
		{[]byte{0, 1, 0, 0}, api.ErrForm},
		{[]byte{2, 4, 5, 220, 0, 0, 7, 0}, api.ErrForm},
		{[]byte{1, 1, 1, 2}, api.ErrShort},
		{[]byte{1, 1, 1, 255}, api.ErrShort},
		{[]byte{2, 0, 0, 0}, api.ErrForm},
		{[]byte{9, 1, 0, 0}, api.ErrForm},
		{[]byte{9, 5, 1, 1}, api.ErrShort},
		{[]byte{9, 255, 1, 1}, api.ErrShort},
		{[]byte{1, 2, 4, 5}, api.ErrShort},
		{[]byte{2, 3, 5, 1}, api.ErrForm},
		{[]byte{3, 4, 5, 5}, api.ErrForm},
		{[]byte{4, 3, 5, 1}, api.ErrForm},
		{[]byte{8, 8, 1, 1, 1, 1, 1, 1}, api.ErrForm},
		{[]byte{1, 1, 9, 3}, api.ErrShort},
		{append(bytes.Repeat([]byte{1}, 39), 2), api.ErrShort},
		{append(make([]byte, 39), 1), api.ErrForm},
		{append([]byte{9, 41}, make([]byte, 38)...), api.ErrShort},
		{append([]byte{9, 0}, make([]byte, 38)...), api.ErrForm},
	} {
		for _, size := range []int{0, 1, 2, 40, 300} {
			b := slices.Concat(header(5+len(c.opts)/4), c.opts, bytes.Repeat([]byte{4, 2}, size)[:size])
			wantParseError(t, fmt.Sprint("options ", c.opts), b, c.want)
		}
	}
}

// Parse has no bound of its own: Put alone has one.
func TestManyBytesToParse(t *testing.T) {
	for _, size := range []int{65515, 65516, 65536, 1 << 20} {
		want := plain()
		want.Opts, want.Payload = nil, mixed(size, size)
		wantParse(t, "many bytes", append(header(5), want.Payload...), want)
	}
}

// P7.3

// pairs are addresses between which segments go.
func pairs() [][2]api.Addr {
	return [][2]api.Addr{
		{},
		{{15: 1}, {15: 2}},
		{{15: 2}, {15: 3}},
		{{0: 0x20, 1: 1, 2: 0x0d, 3: 0xb8, 15: 0xff}, {0: 0xfd, 1: 0x6c, 3: 0x62, 7: 3, 9: 5}},
		{api.Addr(bytes.Repeat([]byte{255}, 16)), api.Addr(bytes.Repeat([]byte{255}, 16))},
		{api.Addr(mixed(16, 1)), api.Addr(mixed(16, 2))},
		{api.Addr(mixed(16, 3)), {}},
	}
}

// segments are such as can be, of each sort.
func segments() []api.Tcp {
	l := []api.Tcp{{}, plain(), {Flags: 2, Sum: 65535}, {Sport: 65535, Dport: 65535, Seq: math.MaxUint32, Ack: math.MaxUint32, Flags: 255, Window: 65535, Sum: 65535, Urgent: 65535}}
	for _, n := range []int{0, 1, 3, 4, 39, 40} {
		for i, opts := range sized(n) {
			for size := range 6 {
				d := mixed(20, n*100+i*10+size)
				at := func(i int) int { return int(d[i])*256 + int(d[i+1]) }
				l = append(l, api.Tcp{Sport: at(0), Dport: at(2), Seq: uint32(at(4)<<16 + at(6)), Ack: uint32(at(8)<<16 + at(10)), Flags: int(d[12]),
					Window: at(13), Sum: at(15) * (size % 2), Urgent: at(17), Opts: opts, Payload: mixed(size, n+i)})
			}
		}
	}
	return append(l, api.Tcp{Payload: mixed(65515, 1)}, api.Tcp{Opts: nops(39), Sum: 9, Payload: mixed(65475, 2)}, api.Tcp{Payload: bytes.Repeat([]byte{255}, 1461)})
}

// The sums of some segments, written out.
func TestSeal(t *testing.T) {
	one, two := api.Addr{15: 1}, api.Addr{15: 2}
	for _, c := range []struct {
		src, dst api.Addr
		s        api.Tcp
		want     int
	}{
		// 20 bytes, kind 6, and 0x5000 of the 13th byte.
		{api.Addr{}, api.Addr{}, api.Tcp{}, 65535 - 20 - 6 - 0x5000},
		{one, two, api.Tcp{}, 65535 - 3 - 20 - 6 - 0x5000},
		{one, two, api.Tcp{Sum: 7}, 65535 - 3 - 20 - 6 - 0x5000},
		{one, two, api.Tcp{Sum: 65535}, 65535 - 3 - 20 - 6 - 0x5000},
		{two, one, api.Tcp{Sport: 1, Dport: 2, Flags: 2, Window: 3, Urgent: 4}, 65535 - 3 - 20 - 6 - 0x5002 - 10},
		// A last byte that is alone is the higher one of two.
		{one, two, api.Tcp{Payload: []byte{1}}, 65535 - 3 - 21 - 6 - 0x5000 - 0x100},
		{one, two, api.Tcp{Payload: []byte{0, 1}}, 65535 - 3 - 22 - 6 - 0x5000 - 1},
		{one, two, api.Tcp{Opts: []api.Opt{{Kind: 1}}}, 65535 - 3 - 24 - 6 - 0x6000 - 0x100},
		// All together are just 65535, so that a Sum of 0 is right.
		{api.Addr{}, api.Addr{}, api.Tcp{Window: 65535 - 20 - 6 - 0x5000}, 0},
		{api.Addr{}, api.Addr{}, api.Tcp{Window: 65535 - 20 - 6 - 0x5000, Sum: 1}, 0},
		{api.Addr{}, api.Addr{}, api.Tcp{Window: 65535 - 20 - 6 - 0x5000, Urgent: 1}, 65534},
	} {
		want := c.s
		want.Sum = c.want
		if got := Seal(c.src, c.dst, c.s); !equal(got, want) {
			t.Errorf("Seal of %s: %s, want a Sum of %d", told(c.s), told(got), c.want)
		}
	}
}

// P7.4: what was sealed is Fine, and else as it was.
func TestSealedIsFine(t *testing.T) {
	for i, s := range segments() {
		for _, p := range pairs() {
			got := Seal(p[0], p[1], s)
			if got.Sum < 0 || got.Sum > 65535 {
				t.Errorf("segment %d: Sum %d", i, got.Sum)
			}
			b := putBy(got)
			if !Fine(p[0], p[1], b) || !fineBy(p[0], p[1], b) {
				t.Errorf("segment %d is sealed with %d, and not Fine", i, got.Sum)
			}
			if again := Seal(p[0], p[1], got); !equal(again, got) {
				t.Errorf("segment %d: Sum %d, and sealed again %d", i, got.Sum, again.Sum)
			}
			got.Sum = s.Sum
			if !equal(got, s) {
				t.Errorf("segment %d: sealed, it is %s, and was %s", i, told(got), told(s))
			}
			got.Sum = 0
			if sum := Seal(p[0], p[1], s).Sum; Seal(p[0], p[1], got).Sum != sum {
				t.Errorf("segment %d: the Sum that it had came into its Sum", i)
			}
		}
	}
}

// No Sum but the right one is Fine (0 and 65535 count as one).
func TestFineOfEachSum(t *testing.T) {
	for _, p := range pairs() {
		s := Seal(p[0], p[1], plain())
		for sum := range 65536 {
			b := putBy(s)
			b[16], b[17] = byte(sum>>8), byte(sum)
			same := sum%65535 == s.Sum%65535
			if Fine(p[0], p[1], b) != same {
				t.Fatalf("a Sum of %d, where %d is right: Fine is %v", sum, s.Sum, !same)
			}
		}
	}
}

// One bit that was turned, in the bytes or in an address, is seen.
func TestTurnedBits(t *testing.T) {
	for i, s := range segments() {
		src, dst := api.Addr(mixed(16, i)), api.Addr(mixed(16, i+1))
		s = Seal(src, dst, s)
		b := putBy(s)
		for at := 0; at < min(len(b), 70)*8; at++ {
			b[at/8] ^= 1 << (at % 8)
			if Fine(src, dst, b) {
				t.Errorf("segment %d is Fine, though bit %d was turned", i, at)
			}
			b[at/8] ^= 1 << (at % 8)
		}
		if len(b) > 2000 {
			continue
		}
		for at := range 128 {
			from, to := src, dst
			from[at/8] ^= 1 << (at % 8)
			to[at/8] ^= 1 << (at % 8)
			if Fine(from, dst, b) || Fine(src, to, b) {
				t.Errorf("segment %d is Fine between others: bit %d", i, at)
			}
		}
		if !Fine(src, dst, b) {
			t.Errorf("segment %d is not Fine", i)
		}
	}
}

// Fine is asked of any bytes, also of such as are no segment, with others in the room behind their end.
func TestFineOfAnyBytes(t *testing.T) {
	sizes := []int{65535, 65536, 65537, 70000, 1 << 17}
	for size := range 200 {
		sizes = append(sizes, size)
	}
	for _, size := range sizes {
		for i, p := range pairs() {
			b, _ := roomy(mixed(size, i))
			if Fine(p[0], p[1], b) != fineBy(p[0], p[1], b) {
				t.Errorf("Fine of %d bytes, pair %d: %v", size, i, Fine(p[0], p[1], b))
			}
			if size < 2 {
				continue
			}
			at := size/2*2 - 2
			b[at], b[at+1] = 0, 0
			n := 65535 - leftOver(p[0], p[1], b)
			b[at], b[at+1] = byte(n>>8), byte(n)
			if !Fine(p[0], p[1], b) {
				t.Errorf("%d bytes, pair %d, made fine by %d: not Fine", size, i, n)
			}
		}
	}
	// 6, of the kind, and 65529 of the address.
	last := api.Addr{14: 255, 15: 249}
	if !Fine(api.Addr{}, last, nil) || !Fine(last, api.Addr{}, []byte{}) || Fine(last, last, nil) {
		t.Errorf("no bytes: Fine %v %v %v", Fine(api.Addr{}, last, nil), Fine(last, api.Addr{}, []byte{}), Fine(last, last, nil))
	}
}

// A segment that can't be is told as it is, also where its Sum alone is what can't be.
func TestSealOfWhatCantBe(t *testing.T) {
	var l []api.Tcp
	for _, p := range shorts() {
		for _, n := range wrongNumbers() {
			s := plain()
			*p.of(&s) = n
			l = append(l, s)
		}
	}
	for _, n := range wrongFlags() {
		l = append(l, api.Tcp{Flags: n, Sum: 77, Payload: []byte{1}})
	}
	for _, c := range wrongOpts() {
		l = append(l, api.Tcp{Sum: 77, Opts: c.l}, api.Tcp{Opts: c.l, Payload: mixed(3, 1)})
	}
	l = append(l, api.Tcp{Sum: 77, Payload: make([]byte, 65516)}, api.Tcp{Sum: 65535, Opts: nops(37), Payload: make([]byte, 65476)}, api.Tcp{Payload: make([]byte, 1<<20)})
	for _, s := range l {
		if Can(s) == api.OK {
			t.Errorf("%s can be", told(s))
		}
		for _, p := range pairs() {
			if got := Seal(p[0], p[1], s); !equal(got, s) {
				t.Errorf("Seal of %s: %s", told(s), told(got))
			}
		}
	}
}

// flagSets are Flags of each sort: all that a byte can say, and such as can't be laid.
func flagSets() []int {
	l := append(wrongFlags(), 64, 128, 1024+api.SYN, -1024+api.SYN, -api.SYN, ^api.ACK, ^api.SYN)
	for flags := range 256 {
		l = append(l, flags)
	}
	return l
}

// bit: is the bit at place at of n set? It divides where the program takes bits.
func bit(n, at int) bool {
	for range at {
		n = int(math.Floor(float64(n) / 2))
	}
	return n%2 != 0
}

func TestSpan(t *testing.T) {
	for _, c := range []struct {
		flags, size int
		want        uint32
	}{
		{0, 0, 0}, {0, 1, 1}, {0, 2, 2}, {api.SYN, 0, 1}, {api.SYN, 2, 3}, {api.FIN, 0, 1}, {api.FIN, 2, 3},
		{api.SYN | api.FIN, 0, 2}, {api.SYN | api.FIN, 2, 4}, {api.ACK, 0, 0}, {api.ACK, 2, 2}, {api.RST, 0, 0}, {api.RST, 2, 2},
		{api.SYN | api.ACK, 0, 1}, {api.SYN | api.ACK, 1, 2}, {api.FIN | api.ACK, 5, 6}, {api.PSH | api.URG, 5, 5}, {255, 0, 2}, {255, 65515, 65517},
		{api.RST | api.ACK | api.PSH | api.URG | 64 | 128, 7, 7}, {0, 1 << 20, 1 << 20},
	} {
		for _, opts := range [][]api.Opt{nil, nops(40), nops(70)} {
			if got := Span(api.Tcp{Flags: c.flags, Opts: opts, Payload: make([]byte, c.size)}); got != c.want {
				t.Errorf("Span of Flags %d and %d bytes: %d, want %d", c.flags, c.size, got, c.want)
			}
		}
	}
	for flags := range 256 {
		want := uint32(3)
		if bit(flags, 0) {
			want++
		}
		if bit(flags, 1) {
			want++
		}
		s := plain()
		s.Flags = flags
		if got := Span(s); got != want {
			t.Errorf("Span of Flags %d and 3 bytes: %d, want %d", flags, got, want)
		}
	}
}

func TestFirst(t *testing.T) {
	for _, c := range []struct {
		flags int
		want  bool
	}{
		{0, false}, {api.SYN, true}, {api.FIN, false}, {api.RST, false}, {api.ACK, false}, {api.PSH, false}, {api.URG, false},
		{api.SYN | api.ACK, false}, {api.SYN | api.RST, false}, {api.SYN | api.FIN, false}, {api.SYN | api.PSH, true}, {api.SYN | api.URG, true},
		{api.SYN | api.PSH | api.URG | 64 | 128, true}, {api.SYN | api.ACK | api.RST | api.FIN, false}, {api.ACK | api.RST | api.FIN, false}, {255, false},
	} {
		if got := First(api.Tcp{Flags: c.flags}); got != c.want {
			t.Errorf("First of Flags %d: %v", c.flags, got)
		}
	}
	for flags := range 256 {
		s := plain()
		s.Flags = flags
		want := bit(flags, 1) && !bit(flags, 0) && !bit(flags, 2) && !bit(flags, 4)
		if got := First(s); got != want {
			t.Errorf("First of Flags %d: %v", flags, got)
		}
	}
}

func TestHas(t *testing.T) {
	for _, c := range []struct {
		flags, asked int
		want         bool
	}{
		{0, 0, true}, {255, 0, true}, {api.SYN, 0, true}, {api.SYN, api.SYN, true}, {api.SYN, api.ACK, false}, {0, api.SYN, false}, {0, 255, false},
		{api.SYN | api.ACK, api.SYN, true}, {api.SYN | api.ACK, api.ACK, true}, {api.SYN | api.ACK, api.SYN | api.ACK, true},
		{api.SYN, api.SYN | api.ACK, false}, {api.ACK, api.SYN | api.ACK, false}, {api.FIN | api.RST, api.SYN | api.ACK, false},
		{255, 255, true}, {254, 255, false}, {255, 256, false}, {255, 511, false}, {255, -1, false}, {255, math.MaxInt, false}, {255, math.MinInt, false}, {0, math.MinInt, false},
		{-1, -1, true}, {-1, math.MaxInt, true}, {-1, math.MinInt, true}, {math.MaxInt, math.MinInt, false}, {math.MaxInt, 255, true},
	} {
		if got := Has(api.Tcp{Flags: c.flags}, c.asked); got != c.want {
			t.Errorf("Has of Flags %d, %d: %v", c.flags, c.asked, got)
		}
	}
	for flags := range 256 {
		s := plain()
		s.Flags = flags
		for asked := range 512 {
			want := true
			for at := range 9 {
				want = want && (bit(flags, at) || !bit(asked, at))
			}
			if got := Has(s, asked); got != want {
				t.Errorf("Has of Flags %d, %d: %v", flags, asked, got)
			}
		}
	}
}

// P7.4: what was put is parsed as what it was.

func TestPutIsParsed(t *testing.T) {
	for i, s := range segments() {
		b, e := Put(s)
		if e != api.OK {
			t.Errorf("segment %d: %d", i, e)
			continue
		}
		wantParse(t, fmt.Sprint("segment ", i), b, s)
		sealed := Seal(api.Addr{15: 1}, api.Addr{15: 2}, s)
		b, _ = Put(sealed)
		wantParse(t, fmt.Sprint("segment ", i, ", sealed"), b, sealed)
	}
	for n := range 41 {
		for _, l := range sized(n) {
			for size := range 4 {
				s := plain()
				s.Opts, s.Payload = l, make([]byte, size)
				wantParse(t, fmt.Sprint(n, " bytes of options"), putBy(s), s)
			}
		}
	}
}

// lottery tells a segment, most often one that can be.
func lottery(seed int) api.Tcp {
	d := mixed(40, seed)
	at := func(i int) int { return int(d[i])*256 + int(d[i+1]) }
	l := sized(int(d[30]) % 41)
	s := api.Tcp{Sport: at(0), Dport: at(2), Seq: uint32(at(4)<<16 + at(6)), Ack: uint32(at(8)<<16 + at(10)), Flags: int(d[12]), Window: at(13), Sum: at(15), Urgent: at(17),
		Opts: l[int(d[31])%len(l)], Payload: mixed(int(d[32])%9, seed)}
	switch d[33] % 16 {
	case 0:
		*shorts()[int(d[34])%5].of(&s) = wrongNumbers()[int(d[35])%len(wrongNumbers())]
	case 1:
		s.Flags = wrongFlags()[int(d[35])%len(wrongFlags())]
	case 2:
		s.Opts = wrongOpts()[int(d[35])%len(wrongOpts())].l
	case 3:
		s.Payload = make([]byte, 65516)
	}
	return s
}

// Of many segments: those that can be are put and parsed as what they were, the others are told by their errors.
func TestManySegments(t *testing.T) {
	met := map[api.Errno]int{}
	for seed := range 10000 {
		s := lottery(seed)
		e := Can(s)
		met[e]++
		if e != api.OK {
			wantPutError(t, fmt.Sprint("segment ", seed), s, e)
			continue
		}
		wantPut(t, fmt.Sprint("segment ", seed), s, putBy(s))
		wantParse(t, fmt.Sprint("segment ", seed), putBy(s), s)
	}
	for _, e := range []api.Errno{api.OK, api.ErrArg, api.ErrForm, api.ErrMany, api.ErrLong} {
		if met[e] < 100 {
			t.Errorf("the segments hold error %d but %d times", e, met[e])
		}
	}
}

// R1: no call panics, whatever it is given; beside an error there is nothing.
func TestWhateverIsGiven(t *testing.T) {
	met := map[api.Errno]int{}
	for seed := range 20000 {
		d := mixed(8, seed+50000)
		b := mixed(int(d[0])%80, seed)
		if len(b) > 12 && d[1]%4 != 0 {
			b[12] = d[2] & 0xf0
		}
		s, e := Parse(b)
		met[e]++
		if e != api.OK && !equal(s, api.Tcp{}) {
			t.Errorf("Parse(%v): %s beside %d", b, told(s), e)
		}
		if e == api.OK {
			wantPut(t, fmt.Sprint("bytes ", seed), s, putBy(s))
			wantParse(t, fmt.Sprint("bytes ", seed), putBy(s), s)
		}
	}
	for _, e := range []api.Errno{api.OK, api.ErrShort, api.ErrForm} {
		if met[e] < 100 {
			t.Errorf("the bytes hold error %d but %d times", e, met[e])
		}
	}
	for _, flags := range flagSets() {
		s := api.Tcp{Flags: flags}
		if First(s) != (flags&2 != 0 && flags&21 == 0) || !Has(s, flags) || !Has(s, 0) || Span(s) != uint32(flags&1+flags>>1&1) {
			t.Errorf("Flags %d: First %v, Has %v, Span %d", flags, First(s), Has(s, flags), Span(s))
		}
	}
}

// R3: what is handed in stays as it was, with the room behind it; what is told is new memory.

// roomySegment tells a segment with room behind each list's end, which is filled, and a call that tells
// whether all of it is as it was.
func roomySegment(s api.Tcp) (api.Tcp, func() bool) {
	s = cloned(s)
	var wholes [][]byte
	keep := func(b []byte) []byte {
		list, whole := roomy(b)
		wholes = append(wholes, whole)
		return list
	}
	for i := range s.Opts {
		s.Opts[i].Data = keep(s.Opts[i].Data)
	}
	s.Payload = keep(s.Payload)
	opts := append(slices.Clone(s.Opts), api.Opt{Kind: 2, Data: []byte{9, 9}}, api.Opt{Kind: -1})
	s.Opts = opts[:len(s.Opts)]
	wasOpts := cloned(api.Tcp{Opts: opts})
	was := slices.Concat(wholes...)
	return s, func() bool {
		return equal(api.Tcp{Opts: opts}, wasOpts) && bytes.Equal(slices.Concat(wholes...), was)
	}
}

func TestSegmentsStay(t *testing.T) {
	l := segments()
	for seed := range 300 {
		l = append(l, lottery(seed))
	}
	for i, s := range l {
		list, stays := roomySegment(s)
		Can(list)
		Put(list)
		Seal(api.Addr{15: 1}, api.Addr{15: 2}, list)
		Span(list)
		First(list)
		Has(list, api.SYN)
		if !stays() {
			t.Errorf("segment %d, or the room behind its lists, changed", i)
		}
	}
}

func TestBytesStay(t *testing.T) {
	for i, s := range segments() {
		list, whole := roomy(putBy(s))
		was := slices.Clone(whole)
		Parse(list)
		Fine(api.Addr{15: 1}, api.Addr{15: 2}, list)
		Parse(list[:len(list)-1])
		if !bytes.Equal(whole, was) {
			t.Errorf("the bytes of segment %d, or the room behind them, changed", i)
		}
	}
}

func TestWhatPutTellsIsNewMemory(t *testing.T) {
	for i, s := range segments() {
		list, stays := roomySegment(s)
		one, _ := Put(list)
		two, _ := Put(list)
		want := slices.Clone(one)
		fill(one)
		if !bytes.Equal(two, want) {
			t.Errorf("two answers of segment %d share memory", i)
		}
		if !stays() {
			t.Errorf("the answer of segment %d shares memory with what was handed in", i)
		}
		fillSegment(list)
		if !bytes.Equal(two, want) {
			t.Errorf("the answer of segment %d changes with what was handed in", i)
		}
	}
}

// No two lists of one answer share memory, nor two answers, nor an answer and the bytes.
func TestWhatParseTellsIsNewMemory(t *testing.T) {
	for i, s := range segments() {
		list, whole := roomy(putBy(s))
		was := slices.Clone(whole)
		one, _ := Parse(list)
		two, _ := Parse(list)
		want := cloned(one)
		for j := range one.Opts {
			fill(one.Opts[j].Data)
			for k := j + 1; k < len(one.Opts); k++ {
				if !bytes.Equal(one.Opts[k].Data, want.Opts[k].Data) {
					t.Errorf("segment %d: the options %d and %d share memory", i, j, k)
				}
			}
		}
		if !bytes.Equal(one.Payload, want.Payload) {
			t.Errorf("segment %d: the options and the Payload share memory", i)
		}
		fillSegment(one)
		if !equal(two, want) {
			t.Errorf("segment %d: two answers share memory", i)
		}
		if !bytes.Equal(whole, was) {
			t.Errorf("segment %d: the answer shares memory with the bytes", i)
		}
		fill(whole)
		if !equal(two, want) {
			t.Errorf("segment %d: the answer changes with the bytes", i)
		}
	}
}

// What was handed in is not kept: changed, it is told as it is now.
func TestNothingIsKept(t *testing.T) {
	one, two := api.Addr{15: 1}, api.Addr{15: 2}
	s := plain()
	first := Seal(one, two, s).Sum
	wantPut(t, "ahead of the change", s, putBy(s))
	s.Payload[0]++
	s.Opts[0].Data[1]++
	wantPut(t, "behind the change", s, putBy(s))
	if got := Seal(one, two, s); got.Sum == first || !fineBy(one, two, putBy(got)) {
		t.Errorf("behind the change: Sum %d, and it was %d", got.Sum, first)
	}
	b := putBy(s)
	wantParse(t, "ahead of the change", b, s)
	b[len(b)-1]++
	s.Payload[2]++
	wantParse(t, "behind the change", b, s)
	b[12] = 0x71
	wantParseError(t, "behind the second change", b, api.ErrForm)
}

func TestNilAndEmptyAreTheSame(t *testing.T) {
	none, empty := api.Tcp{Flags: 3}, api.Tcp{Flags: 3, Opts: []api.Opt{}, Payload: []byte{}}
	a, e := Put(none)
	b, f := Put(empty)
	if e != f || Can(none) != Can(empty) || !bytes.Equal(a, b) || Span(none) != Span(empty) || First(none) != First(empty) {
		t.Errorf("of nil: %v %d %d, of empty lists: %v %d %d", a, e, Span(none), b, f, Span(empty))
	}
	if got := Seal(api.Addr{}, api.Addr{}, none); !equal(got, Seal(api.Addr{}, api.Addr{}, empty)) {
		t.Errorf("Seal of nil: %s", told(got))
	}
	wantParseError(t, "no bytes", nil, api.ErrShort)
	wantParseError(t, "no bytes", []byte{}, api.ErrShort)
	if Fine(api.Addr{}, api.Addr{}, nil) || Fine(api.Addr{}, api.Addr{}, []byte{}) {
		t.Errorf("no bytes are Fine")
	}
}

// R4: asked again, each call answers what it answered, wherever its arguments stand.
func TestAskedAgain(t *testing.T) {
	src, dst := api.Addr(mixed(16, 1)), api.Addr(mixed(16, 2))
	for seed := range 500 {
		s := lottery(seed)
		b, e := Put(s)
		sum := Seal(src, dst, s).Sum
		for range 3 {
			again, _ := roomySegment(s)
			if c, f := Put(again); f != e || !bytes.Equal(b, c) || Seal(src, dst, again).Sum != sum || Span(again) != Span(s) || First(again) != First(s) {
				t.Errorf("segment %d: asked again, it is another", seed)
			}
		}
	}
}

// What stands in the rooms behind the ends of a segment's lists is none of it.
func TestEndOfLists(t *testing.T) {
	s, _ := roomySegment(plain())
	wantPut(t, "with room behind", s, putBy(plain()))
	s.Payload, s.Opts = s.Payload[:1], s.Opts[:1]
	want := plain()
	want.Payload, want.Opts = want.Payload[:1], want.Opts[:1]
	wantPut(t, "cut shorter", s, putBy(want))
	if Span(s) != 2 {
		t.Errorf("Span of SYN and one byte, with more behind it: %d", Span(s))
	}
	sealed := Seal(api.Addr{15: 1}, api.Addr{15: 2}, s)
	if !Fine(api.Addr{15: 1}, api.Addr{15: 2}, putBy(sealed)) {
		t.Errorf("cut shorter and sealed: not Fine")
	}
}
