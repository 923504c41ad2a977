package srh

import (
	"bytes"
	"encoding/binary"
	"fmt"
	"io"
	"math"
	"slices"
	"testing"

	"harrier/api"
	"harrier/tlv"
)

// mixed tells n bytes of no plain order; another seed tells others.
func mixed(n, seed int) []byte {
	b := make([]byte, n)
	x := uint32(seed)*2654435761 + 12345
	for i := range b {
		x = x*1664525 + 1013904223
		b[i] = byte(x >> 24)
	}
	return b
}

// segs tells n segments, each another one.
func segs(n, seed int) []api.Addr {
	l := make([]api.Addr, n)
	for i := range l {
		copy(l[i][:], mixed(16, seed+i))
		l[i][0] = byte(i + 1)
	}
	return l
}

// part is a part of a kind with n bytes of Data.
func part(kind, n int) api.Tlv {
	return api.Tlv{Kind: kind, Data: mixed(n, kind+n)}
}

// sized are parts that are together n bytes, one way and another; n is 0, or from 2 to 256.
func sized(n int) [][]api.Tlv {
	if n == 0 {
		return [][]api.Tlv{nil, {}}
	}
	out := [][]api.Tlv{{part(9, n-2)}}
	if n >= 4 {
		out = append(out, []api.Tlv{part(1, 0), part(255, n-4)}, []api.Tlv{part(255, n-4), part(1, 0)})
		out = append(out, append(slices.Repeat([]api.Tlv{part(3, 0)}, n/2-1), part(5, n%2)))
	}
	return out
}

// wrongBytes are numbers that no byte can say, some of which would be fine in their low bits.
func wrongBytes() []int {
	l := []int{-1, -2, -255, -256, -257, 256, 257, 258, 300, 511, 512, 65535, 65536, math.MinInt, math.MinInt + 1, math.MinInt + 2, math.MaxInt, math.MaxInt - 1}
	for _, room := range []int{1 << 9, 1 << 16, 1 << 31, 1 << 32, 1 << 48, 1 << 62} {
		for _, n := range []int{0, 1, 4, 9, 255} {
			l = append(l, room+n, -room+n, -room-n)
		}
	}
	return l
}

// wrongTags are numbers that 2 bytes can't say.
func wrongTags() []int {
	l := []int{-1, -2, -255, -256, -65535, -65536, -65537, 65536, 65537, 65791, 131071, 131072, math.MinInt, math.MinInt + 1, math.MaxInt, math.MaxInt - 1}
	for _, room := range []int{1 << 17, 1 << 24, 1 << 31, 1 << 32, 1 << 48, 1 << 62} {
		for _, n := range []int{0, 1, 258, 65535} {
			l = append(l, room+n, -room+n, -room-n)
		}
	}
	return l
}

// equalParts: are they the same parts? nil and empty lists are the same.
func equalParts(a, b []api.Tlv) bool {
	return slices.EqualFunc(a, b, func(x, y api.Tlv) bool { return x.Kind == y.Kind && bytes.Equal(x.Data, y.Data) })
}

// equal: are they the same header? nil and empty lists are the same.
func equal(a, b api.Srh) bool {
	return a.Next == b.Next && a.Left == b.Left && a.Flags == b.Flags && a.Tag == b.Tag && slices.Equal(a.Segs, b.Segs) && equalParts(a.Tlvs, b.Tlvs)
}

// cloned is the header in new memory.
func cloned(s api.Srh) api.Srh {
	out := s
	out.Segs, out.Tlvs = slices.Clone(s.Segs), nil
	for _, p := range s.Tlvs {
		out.Tlvs = append(out.Tlvs, api.Tlv{Kind: p.Kind, Data: slices.Clone(p.Data)})
	}
	return out
}

// roomy tells b with room behind its end, which is filled, and the whole of it.
func roomy(b []byte) (list, whole []byte) {
	whole = append(slices.Clone(b), bytes.Repeat([]byte{0, 2, 4, 0, 9, 1, 7, 7}, 300)...)
	return whole[:len(b)], whole
}

// memory is all the memory that a header holds: its lists, with the room behind their ends.
type memory struct {
	segs  []api.Addr
	parts []api.Tlv
	datas [][]byte
}

// all tells what lies there, in new memory.
func (m memory) all() memory {
	out := memory{segs: slices.Clone(m.segs), parts: cloned(api.Srh{Tlvs: m.parts}).Tlvs}
	for _, d := range m.datas {
		out.datas = append(out.datas, slices.Clone(d))
	}
	return out
}

// is tells whether the same lies there.
func (m memory) is(o memory) bool {
	return slices.Equal(m.segs, o.segs) && equalParts(m.parts, o.parts) && slices.EqualFunc(m.datas, o.datas, bytes.Equal)
}

// spoil makes each byte and each part another one.
func (m memory) spoil() {
	for i := range m.segs {
		fill(m.segs[i][:])
	}
	for _, d := range m.datas {
		fill(d)
	}
	for i := range m.parts {
		m.parts[i] = api.Tlv{Kind: -9}
	}
}

// fill makes each byte of a list another one, and each of the room behind its end.
func fill(b []byte) {
	b = b[:cap(b)]
	for i := range b {
		b[i] ^= 0xa5
	}
}

// held tells a header with room behind the end of each of its lists, which is filled, and all its memory.
func held(s api.Srh) (api.Srh, memory) {
	var m memory
	for _, p := range s.Tlvs {
		data, whole := roomy(p.Data)
		m.parts, m.datas = append(m.parts, api.Tlv{Kind: p.Kind, Data: data}), append(m.datas, whole)
	}
	m.parts = append(m.parts, api.Tlv{Kind: 5, Data: []byte{9, 9}}, api.Tlv{Kind: -1, Data: []byte{7}}, api.Tlv{Kind: 77})
	m.segs = append(slices.Clone(s.Segs), segs(12, 7000)...)
	s.Segs, s.Tlvs = m.segs[:len(s.Segs)], m.parts[:len(s.Tlvs)]
	return s, m
}

// told is the memory of a header that was told.
func told(s api.Srh) memory {
	m := memory{segs: s.Segs[:cap(s.Segs)], parts: s.Tlvs[:cap(s.Tlvs)]}
	for _, p := range s.Tlvs {
		m.datas = append(m.datas, p.Data[:cap(p.Data)])
	}
	return m
}

// putBy tells what Put should, by another way than the program's: all room first, and then place by place.
func putBy(s api.Srh) ([]byte, api.Errno) {
	for _, n := range []int{s.Next, s.Left, s.Flags} {
		if int(uint8(n)) != n {
			return nil, api.ErrArg
		}
	}
	if int(uint16(s.Tag)) != s.Tag {
		return nil, api.ErrArg
	}
	if len(s.Segs) < 1 || len(s.Segs) > 10 {
		return nil, api.ErrMany
	}
	if s.Left > len(s.Segs)-1 {
		return nil, api.ErrForm
	}
	parts, e := tlv.Put(s.Tlvs)
	if e != api.OK {
		return nil, e
	}
	out := make([]byte, 8+16*len(s.Segs)+len(parts))
	out[0], out[1], out[2], out[3], out[4], out[5] = byte(s.Next), byte(len(out)/8-1), 4, byte(s.Left), byte(len(s.Segs)-1), byte(s.Flags)
	binary.BigEndian.PutUint16(out[6:], uint16(s.Tag))
	for i, a := range s.Segs {
		copy(out[8+16*i:], a[:])
	}
	copy(out[len(out)-len(parts):], parts)
	return out, api.OK
}

// parseBy tells what Parse should, by another way than the program's: by a reader of what the second byte says.
func parseBy(b []byte) (api.Srh, int, api.Errno) {
	if len(b) < 8 || len(b)/8-1 < int(b[1]) {
		return api.Srh{}, 0, api.ErrShort
	}
	if b[2] != 4 {
		return api.Srh{}, 0, api.ErrKind
	}
	if b[4] > 9 {
		return api.Srh{}, 0, api.ErrMany
	}
	s := api.Srh{Next: int(b[0]), Left: int(b[3]), Flags: int(b[5]), Tag: int(binary.BigEndian.Uint16(b[6:]))}
	in := bytes.NewReader(b[8 : 8+8*int(b[1])])
	for i := 0; i <= int(b[4]); i++ {
		var a api.Addr
		if _, err := io.ReadFull(in, a[:]); err != nil {
			return api.Srh{}, 0, api.ErrForm
		}
		s.Segs = append(s.Segs, a)
	}
	if b[3] > b[4] {
		return api.Srh{}, 0, api.ErrForm
	}
	rest, _ := io.ReadAll(in)
	parts, e := tlv.Parse(rest)
	if e != api.OK {
		return api.Srh{}, 0, e
	}
	s.Tlvs = parts
	return s, 8 + 8*int(b[1]), api.OK
}

// wantPut holds Can, Put and Size against what they should tell: beside an error there is nothing.
func wantPut(t *testing.T, what string, s api.Srh, want []byte, wantE api.Errno) {
	t.Helper()
	if e := Can(s); e != wantE {
		t.Errorf("%s: Can: %d, want %d", what, e, wantE)
	}
	b, e := Put(s)
	if e != wantE || !bytes.Equal(b, want) {
		t.Errorf("%s: Put: %v %d, want %v %d", what, b, e, want, wantE)
	}
	if n := Size(s); n != len(want) {
		t.Errorf("%s: Size: %d, want %d", what, n, len(want))
	}
}

// wantPutError holds Can, Put and Size against an error, with nothing beside it.
func wantPutError(t *testing.T, what string, s api.Srh, want api.Errno) {
	t.Helper()
	wantPut(t, what, s, nil, want)
}

// wantParse holds Parse against what it should tell, whatever lies in the room behind the bytes: beside an error there is nothing.
func wantParse(t *testing.T, what string, b []byte, want api.Srh, wantN int, wantE api.Errno) {
	t.Helper()
	list, _ := roomy(b)
	s, n, e := Parse(list)
	if e != wantE || n != wantN || !equal(s, want) {
		t.Errorf("%s: Parse(%v): %v %d %d, want %v %d %d", what, b, s, n, e, want, wantN, wantE)
	}
}

// wantParseError holds Parse against an error, with nothing beside it.
func wantParseError(t *testing.T, what string, b []byte, want api.Errno) {
	t.Helper()
	wantParse(t, what, b, api.Srh{}, 0, want)
}

func TestNumbersOfTheChapter(t *testing.T) {
	got := []int{Fixed, Type}
	if want := []int{8, 4}; !slices.Equal(got, want) {
		t.Errorf("the chapter's numbers: %v, want %v", got, want)
	}
}

// P10.1: what is laid

// of lays bytes 0 behind bytes.
func of(size int, b ...byte) []byte {
	return append(b, make([]byte, size-len(b))...)
}

func TestPut(t *testing.T) {
	zero := make([]api.Addr, 10)
	full := api.Addr{1, 2, 3, 4, 5, 6, 7, 8, 9, 10, 11, 12, 13, 14, 15, 16}
	for _, c := range []struct {
		s    api.Srh
		want []byte
	}{
		{api.Srh{Segs: zero[:1]}, of(24, 0, 2, 4)},
		{api.Srh{Next: 6, Segs: zero[:1]}, of(24, 6, 2, 4)},
		{api.Srh{Next: 255, Flags: 255, Tag: 65535, Segs: zero[:1]}, of(24, 255, 2, 4, 0, 0, 255, 255, 255)},
		{api.Srh{Next: 58, Flags: 1, Tag: 255, Segs: []api.Addr{full}}, []byte{58, 2, 4, 0, 0, 1, 0, 255, 1, 2, 3, 4, 5, 6, 7, 8, 9, 10, 11, 12, 13, 14, 15, 16}},
		{api.Srh{Next: 6, Left: 1, Tag: 258, Segs: []api.Addr{{0: 1}, {0: 2}}}, slices.Concat([]byte{6, 4, 4, 1, 1, 0, 1, 2}, of(16, 1), of(16, 2))},
		{api.Srh{Flags: 8, Tag: 256, Segs: []api.Addr{{15: 7}, {15: 8}, {}}}, slices.Concat([]byte{0, 6, 4, 0, 2, 8, 1, 0}, of(15), []byte{7}, of(15), []byte{8}, of(16))},
		{api.Srh{Left: 8, Segs: zero[:9]}, of(152, 0, 18, 4, 8, 8)},
		{api.Srh{Left: 9, Segs: zero}, of(168, 0, 20, 4, 9, 9)},
		{api.Srh{Segs: zero}, of(168, 0, 20, 4, 0, 9)},
		{api.Srh{Next: 6, Segs: zero[:1], Tlvs: []api.Tlv{{Kind: 5, Data: []byte{9}}}}, append(of(24, 6, 3, 4), 5, 1, 9, 4, 3, 0, 0, 0)},
		{api.Srh{Segs: zero[:1], Tlvs: []api.Tlv{{Kind: 1}}}, append(of(24, 0, 3, 4), 1, 0, 4, 4, 0, 0, 0, 0)},
		{api.Srh{Segs: zero[:1], Tlvs: []api.Tlv{{Kind: 2, Data: []byte{1, 2, 3, 4, 5}}}}, append(of(24, 0, 3, 4), 2, 5, 1, 2, 3, 4, 5, 0)},
		{api.Srh{Segs: zero[:1], Tlvs: []api.Tlv{{Kind: 255, Data: []byte{1, 2, 3, 4, 5, 6}}}}, append(of(24, 0, 3, 4), 255, 6, 1, 2, 3, 4, 5, 6)},
		{api.Srh{Segs: zero[:2], Tlvs: []api.Tlv{{Kind: 9, Data: []byte{7, 8}}, {Kind: 8}, {Kind: 9, Data: []byte{6}}}}, append(of(40, 0, 6, 4, 0, 1), 9, 2, 7, 8, 8, 0, 9, 1, 6, 4, 5, 0, 0, 0, 0, 0)},
		{api.Srh{Segs: zero[:1], Tlvs: []api.Tlv{{Kind: 3, Data: make([]byte, 254)}}}, append(of(24, 0, 34, 4), of(256, 3, 254)...)},
		{api.Srh{Left: 9, Segs: zero, Tlvs: []api.Tlv{{Kind: 3, Data: make([]byte, 254)}}}, append(of(168, 0, 52, 4, 9, 9), of(256, 3, 254)...)},
	} {
		wantPut(t, fmt.Sprint(c.s), c.s, c.want, api.OK)
	}
}

// Each count of Segs that may be, with parts of each length that may be, the longest header among them.
func TestEachCountAndLength(t *testing.T) {
	longest := 0
	for count := 1; count <= 10; count++ {
		for n := range 257 {
			if n == 1 {
				continue
			}
			for _, l := range sized(n) {
				s := api.Srh{Next: n % 256, Left: n % count, Flags: 7, Tag: 300 + n, Segs: segs(count, n), Tlvs: l}
				want, e := putBy(s)
				what := fmt.Sprint(count, " segs, parts of ", n)
				if size := 8 + 16*count + (n+7)/8*8; e != api.OK || len(want) != size || int(want[1])*8+8 != size {
					t.Fatalf("%s: %v %d, want %d bytes", what, want, e, size)
				}
				wantPut(t, what, s, want, api.OK)
				longest = max(longest, Size(s))
			}
		}
	}
	if longest != 424 {
		t.Errorf("the longest header has %d bytes, want 424", longest)
	}
}

// Where each number stands, at each value that may be.
func TestEachNumber(t *testing.T) {
	for n := range 256 {
		s := api.Srh{Next: n, Left: 1, Flags: 255 - n, Tag: 258, Segs: segs(3, n)}
		want := append([]byte{byte(n), 6, 4, 1, 2, byte(255 - n), 1, 2}, bytesOf(s.Segs)...)
		wantPut(t, fmt.Sprint("Next ", n), s, want, api.OK)
	}
	for count := 1; count <= 10; count++ {
		for left := range count {
			s := api.Srh{Next: 6, Left: left, Flags: 1, Tag: 2, Segs: segs(count, left)}
			want := append([]byte{6, byte(2 * count), 4, byte(left), byte(count - 1), 1, 0, 2}, bytesOf(s.Segs)...)
			wantPut(t, fmt.Sprint("Left ", left, " of ", count), s, want, api.OK)
		}
	}
	for tag := range 65536 {
		b, e := Put(api.Srh{Next: 1, Flags: 2, Tag: tag, Segs: make([]api.Addr, 1)})
		if want := of(24, 1, 2, 4, 0, 0, 2, byte(tag/256), byte(tag%256)); e != api.OK || !bytes.Equal(b, want) {
			t.Errorf("Tag %d: %v %d", tag, b, e)
		}
	}
}

// bytesOf are the bytes of segments, the first one first.
func bytesOf(l []api.Addr) []byte {
	var b []byte
	for _, a := range l {
		for _, x := range a {
			b = append(b, x)
		}
	}
	return b
}

// Each byte of each of Segs stands at its own place, and nowhere else.
func TestEachByteOfSegs(t *testing.T) {
	for count := 1; count <= 10; count++ {
		for at := range 16 * count {
			s := api.Srh{Segs: make([]api.Addr, count)}
			s.Segs[at/16][at%16] = byte(at + 1)
			want := of(8+16*count, 0, byte(2*count), 4, 0, byte(count-1))
			want[8+at] = byte(at + 1)
			wantPut(t, fmt.Sprint("byte ", at, " of ", count, " segs"), s, want, api.OK)
			wantParse(t, "and back", want, s, len(want), api.OK)
		}
	}
}

// P10.1: what can't be

// flaw is a way to make a header one that can't be. Of two flaws the one whose place is less is told.
type flaw struct {
	what  string
	place int
	want  api.Errno
	make  func(*api.Srh)
}

// tooFar tells a Left that no Segs have, but where it is such a one already.
func tooFar(s *api.Srh, left int) int {
	if s.Left < 0 || s.Left >= len(s.Segs) {
		return s.Left
	}
	return left
}

// flaws are all of them; those of parts are told only as far as tlv.Can does.
func flaws() []flaw {
	l := []flaw{
		{"no Segs", 1, api.ErrMany, func(s *api.Srh) { s.Segs = nil }},
		{"empty Segs", 1, api.ErrMany, func(s *api.Srh) { s.Segs = s.Segs[:0] }},
		{"11 Segs", 1, api.ErrMany, func(s *api.Srh) { s.Segs = segs(11, 3) }},
		{"200 Segs", 1, api.ErrMany, func(s *api.Srh) { s.Segs = segs(200, 3) }},
		{"Left as many as there are Segs", 2, api.ErrForm, func(s *api.Srh) { s.Left = tooFar(s, len(s.Segs)) }},
		{"Left one more", 2, api.ErrForm, func(s *api.Srh) { s.Left = tooFar(s, len(s.Segs)+1) }},
		{"Left 255", 2, api.ErrForm, func(s *api.Srh) { s.Left = tooFar(s, 255) }},
		{"a part of kind 0", 3, api.ErrArg, func(s *api.Srh) { s.Tlvs = append(s.Tlvs, part(0, 1)) }},
		{"a part of kind 4", 3, api.ErrArg, func(s *api.Srh) { s.Tlvs = append(s.Tlvs, part(4, 1)) }},
		{"a part of kind 256", 3, api.ErrArg, func(s *api.Srh) { s.Tlvs = append(s.Tlvs, part(256, 256)) }},
		{"a part that is too long", 3, api.ErrLong, func(s *api.Srh) { s.Tlvs = append(s.Tlvs, part(5, 256)) }},
		{"parts of 257 bytes", 3, api.ErrMany, func(s *api.Srh) { s.Tlvs = []api.Tlv{part(5, 255)} }},
		{"129 parts without Data", 3, api.ErrMany, func(s *api.Srh) { s.Tlvs = slices.Repeat([]api.Tlv{part(5, 0)}, 129) }},
	}
	for _, n := range wrongBytes() {
		l = append(l,
			flaw{fmt.Sprint("Next ", n), 0, api.ErrArg, func(s *api.Srh) { s.Next = n }},
			flaw{fmt.Sprint("Left ", n), 0, api.ErrArg, func(s *api.Srh) { s.Left = n }},
			flaw{fmt.Sprint("Flags ", n), 0, api.ErrArg, func(s *api.Srh) { s.Flags = n }})
	}
	for _, n := range wrongTags() {
		l = append(l, flaw{fmt.Sprint("Tag ", n), 0, api.ErrArg, func(s *api.Srh) { s.Tag = n }})
	}
	return l
}

// fine are headers that can be.
func fine() []api.Srh {
	return []api.Srh{
		{Segs: segs(1, 1)},
		{Next: 6, Left: 1, Flags: 255, Tag: 258, Segs: segs(2, 2)},
		{Next: 255, Left: 4, Tag: 65535, Segs: segs(9, 3), Tlvs: []api.Tlv{part(1, 0)}},
		{Next: 58, Left: 9, Flags: 1, Tag: 1, Segs: segs(10, 4), Tlvs: []api.Tlv{part(5, 1), part(255, 100), part(5, 0)}},
		{Left: 2, Segs: segs(3, 5), Tlvs: []api.Tlv{part(7, 254)}},
	}
}

func TestWhatCantBe(t *testing.T) {
	for i, s := range fine() {
		want, e := putBy(s)
		wantPut(t, fmt.Sprint("header ", i), s, want, e)
		for _, f := range flaws() {
			bad := cloned(s)
			f.make(&bad)
			wantPutError(t, fmt.Sprint(f.what, " in header ", i), bad, f.want)
		}
	}
}

// Of two things that are wrong the one that the chapter names first is told.
func TestWhichErrorOfTwo(t *testing.T) {
	all := flaws()
	for i, s := range fine() {
		for _, a := range all {
			for _, b := range all {
				if a.place >= b.place {
					continue
				}
				bad := cloned(s)
				a.make(&bad)
				b.make(&bad)
				wantPutError(t, fmt.Sprint(a.what, ", and ", b.what, ", in header ", i), bad, a.want)
			}
		}
	}
}

// Of parts tlv.Can's error is told, the first part's first; ErrMany only where each part can be.
func TestWhichErrorOfParts(t *testing.T) {
	for _, c := range []struct {
		l    []api.Tlv
		want api.Errno
	}{
		{[]api.Tlv{part(4, 0), part(5, 256)}, api.ErrArg},
		{[]api.Tlv{part(5, 256), part(4, 0)}, api.ErrLong},
		{[]api.Tlv{part(5, 255), part(0, 0)}, api.ErrArg},
		{[]api.Tlv{part(5, 255), part(5, 256)}, api.ErrLong},
		{[]api.Tlv{part(0, 256), part(5, 255)}, api.ErrArg},
		{[]api.Tlv{part(5, 250), part(5, 3)}, api.ErrMany},
		{[]api.Tlv{part(5, 250), part(5, 2)}, api.OK},
	} {
		for count := 1; count <= 10; count++ {
			s := api.Srh{Next: 6, Left: count - 1, Segs: segs(count, 1), Tlvs: c.l}
			want, e := putBy(s)
			if e != c.want {
				t.Fatalf("%v: %d, want %d", c.l, e, c.want)
			}
			wantPut(t, fmt.Sprint(len(c.l), " parts"), s, want, c.want)
		}
	}
}

// How many Segs there may be: each count near the ends, and counts that would be fine in a byte.
func TestHowManySegs(t *testing.T) {
	for _, count := range []int{0, 1, 2, 9, 10, 11, 12, 20, 100, 255, 256, 257, 258, 265, 266, 512, 513, 65536, 65537} {
		s := api.Srh{Next: 6, Tag: 1, Segs: make([]api.Addr, count)}
		want, e := putBy(s)
		if fine := count >= 1 && count <= 10; fine != (e == api.OK) || !fine && e != api.ErrMany {
			t.Fatalf("%d segs: %d", count, e)
		}
		wantPut(t, fmt.Sprint(count, " segs"), s, want, e)
	}
}

// Each Left that a byte can say, with each count of Segs.
func TestEachLeft(t *testing.T) {
	for count := range 13 {
		for left := range 256 {
			s := api.Srh{Left: left, Segs: segs(count, left)}
			what := fmt.Sprint("Left ", left, " of ", count)
			switch {
			case count == 0 || count > 10:
				wantPutError(t, what, s, api.ErrMany)
			case left >= count:
				wantPutError(t, what, s, api.ErrForm)
			default:
				want, _ := putBy(s)
				wantPut(t, what, s, want, api.OK)
			}
		}
	}
}

// lottery tells headers of each sort, most often such as can be.
func lottery(seed int) api.Srh {
	dice := mixed(30, seed)
	s := api.Srh{Next: int(dice[0]), Left: int(dice[1]) % 3, Flags: int(dice[2]), Tag: int(dice[3])<<8 + int(dice[4]), Segs: segs(int(dice[5])%10+1, seed)}
	for i := range int(dice[6]) % 6 {
		s.Tlvs = append(s.Tlvs, part(int(dice[10+i])%250+5, int(dice[16+i])%20))
	}
	if dice[7]%2 == 0 {
		return s
	}
	all := flaws()
	for i := range int(dice[8]) % 3 {
		some := all
		if dice[22+i]%2 == 0 {
			some = all[:13]
		}
		some[(int(dice[25+i])*7+i)%len(some)].make(&s)
	}
	return s
}

func TestManyHeaders(t *testing.T) {
	met := map[api.Errno]int{}
	for seed := range 20000 {
		s := lottery(seed)
		want, e := putBy(s)
		wantPut(t, fmt.Sprint("header ", seed), s, want, e)
		met[e]++
	}
	for _, e := range []api.Errno{api.OK, api.ErrArg, api.ErrLong, api.ErrMany, api.ErrForm} {
		if met[e] < 100 {
			t.Errorf("the headers hold error %d but %d times", e, met[e])
		}
	}
}

// P10.2

func TestParse(t *testing.T) {
	zero := make([]api.Addr, 10)
	for _, c := range []struct {
		b    []byte
		want api.Srh
		n    int
	}{
		{of(24, 0, 2, 4), api.Srh{Segs: zero[:1]}, 24},
		{of(25, 0, 2, 4), api.Srh{Segs: zero[:1]}, 24},
		{of(1000, 6, 2, 4), api.Srh{Next: 6, Segs: zero[:1]}, 24},
		{[]byte{58, 2, 4, 0, 0, 1, 0, 255, 1, 2, 3, 4, 5, 6, 7, 8, 9, 10, 11, 12, 13, 14, 15, 16}, api.Srh{Next: 58, Flags: 1, Tag: 255, Segs: []api.Addr{{1, 2, 3, 4, 5, 6, 7, 8, 9, 10, 11, 12, 13, 14, 15, 16}}}, 24},
		{slices.Concat([]byte{6, 4, 4, 1, 1, 0, 1, 2}, of(16, 1), of(16, 2), []byte{9}), api.Srh{Next: 6, Left: 1, Tag: 258, Segs: []api.Addr{{0: 1}, {0: 2}}}, 40},
		{slices.Concat([]byte{255, 6, 4, 2, 2, 255, 255, 255}, of(15), []byte{7}, of(15), []byte{8}, of(16)), api.Srh{Next: 255, Left: 2, Flags: 255, Tag: 65535, Segs: []api.Addr{{15: 7}, {15: 8}, {}}}, 56},
		{of(152, 0, 18, 4, 8, 8), api.Srh{Left: 8, Segs: zero[:9]}, 152},
		{of(168, 0, 20, 4, 9, 9), api.Srh{Left: 9, Segs: zero}, 168},
		{append(of(24, 6, 3, 4), 5, 1, 9, 4, 3, 0, 0, 0), api.Srh{Next: 6, Segs: zero[:1], Tlvs: []api.Tlv{{Kind: 5, Data: []byte{9}}}}, 32},
		{append(of(24, 6, 3, 4), 5, 1, 9, 4, 3, 0, 0, 0, 7, 0), api.Srh{Next: 6, Segs: zero[:1], Tlvs: []api.Tlv{{Kind: 5, Data: []byte{9}}}}, 32},
		{append(of(24, 6, 3, 4), 5, 0, 1, 4, 0, 0, 0, 0), api.Srh{Next: 6, Segs: zero[:1], Tlvs: []api.Tlv{{Kind: 5}, {Kind: 1, Data: []byte{0, 0, 0, 0}}}}, 32},
		{append(of(24, 0, 3, 4), 0, 0, 0, 0, 0, 0, 0, 0), api.Srh{Segs: zero[:1]}, 32},
		{append(of(24, 0, 3, 4), 4, 6, 5, 0, 5, 0, 5, 0), api.Srh{Segs: zero[:1]}, 32},
		{append(of(24, 0, 3, 4), 0, 4, 1, 9, 0, 4, 0, 0), api.Srh{Segs: zero[:1]}, 32},
		{append(of(24, 0, 3, 4), 0, 4, 1, 9, 0, 7, 1, 8), api.Srh{Segs: zero[:1], Tlvs: []api.Tlv{{Kind: 7, Data: []byte{8}}}}, 32},
		{append(of(24, 0, 3, 4), 7, 1, 8, 0, 4, 1, 9, 0), api.Srh{Segs: zero[:1], Tlvs: []api.Tlv{{Kind: 7, Data: []byte{8}}}}, 32},
		{append(of(24, 0, 3, 4), 0, 7, 1, 8, 4, 0, 5, 0), api.Srh{Segs: zero[:1], Tlvs: []api.Tlv{{Kind: 7, Data: []byte{8}}, {Kind: 5}}}, 32},
		{append(of(24, 0, 4, 4), 1, 14, 1, 2, 3, 4, 5, 6, 7, 8, 9, 10, 11, 12, 13, 14), api.Srh{Segs: zero[:1], Tlvs: []api.Tlv{{Kind: 1, Data: []byte{1, 2, 3, 4, 5, 6, 7, 8, 9, 10, 11, 12, 13, 14}}}}, 40},
	} {
		wantParse(t, "an ordinary header", c.b, c.want, c.n, api.OK)
	}
}

// header lays a header by hand: of so many Segs, with these bytes as its parts.
func header(count, left int, parts []byte) []byte {
	size := 8 + 16*count + len(parts)
	b := []byte{6, byte(size/8 - 1), 4, byte(left), byte(count - 1), 1, 2, 3}
	return slices.Concat(b, bytesOf(segs(count, left)), parts)
}

// read is the header that header lays.
func read(count, left int, parts ...api.Tlv) api.Srh {
	return api.Srh{Next: 6, Left: left, Flags: 1, Tag: 515, Segs: segs(count, left), Tlvs: parts}
}

// Each count of Segs and each Left, with parts and without; and a byte, or many, behind it.
func TestParseOfEachCount(t *testing.T) {
	for count := 1; count <= 10; count++ {
		for left := range count {
			for _, parts := range [][]byte{nil, make([]byte, 8), {4, 6, 0, 0, 0, 0, 0, 0}, of(256, 4, 254), of(512), of(1880), of(8, 4, 0, 4, 4)} {
				b := header(count, left, parts)
				what := fmt.Sprint(count, " segs, ", len(parts), " bytes that are nothing")
				wantParse(t, what, b, read(count, left), len(b), api.OK)
				for _, behind := range [][]byte{{0}, {9}, {4}, {255}, {1, 1}, mixed(7, left), mixed(8, left), mixed(9, count), mixed(3000, count)} {
					wantParse(t, what+", and bytes behind", slices.Concat(b, behind), read(count, left), len(b), api.OK)
				}
				wantParseError(t, what+", a byte less", b[:len(b)-1], api.ErrShort)
			}
			p, nothing := api.Tlv{Kind: 9, Data: []byte{7, 8, 6}}, []byte{4, 1, 9}
			laid := []byte{9, 3, 7, 8, 6}
			for _, parts := range [][]byte{slices.Concat(laid, nothing), slices.Concat(nothing, laid), slices.Concat([]byte{0}, laid, []byte{4, 0}), slices.Concat([]byte{4, 0, 0}, laid)} {
				b := header(count, left, parts)
				wantParse(t, "a part, and nothing", append(b, 9, 3), read(count, left, p), len(b), api.OK)
				b = header(count, left, slices.Concat(parts, parts))
				wantParse(t, "two parts, and nothing", append(b, 9, 3), read(count, left, p, p), len(b), api.OK)
			}
		}
	}
}

// ErrShort: fewer bytes than 8, or than the second byte says, whatever they are.
func TestShortHeader(t *testing.T) {
	wantParseError(t, "nil", nil, api.ErrShort)
	wantParseError(t, "no bytes", []byte{}, api.ErrShort)
	wantParseError(t, "7 bytes", []byte{6, 0, 4, 0, 0, 0, 0}, api.ErrShort)
	wantParseError(t, "8 bytes of which the second is 1", []byte{6, 1, 4, 0, 0, 0, 0, 0}, api.ErrShort)
	wantParseError(t, "8 bytes of which the second is 2", []byte{6, 2, 4, 0, 0, 0, 0, 0}, api.ErrShort)
	wantParseError(t, "8 bytes of which the second is 0", []byte{6, 0, 4, 0, 0, 0, 0, 0}, api.ErrForm)
	for size := range 8 {
		for n := range 256 {
			b := bytes.Repeat([]byte{byte(n)}, 8)
			wantParseError(t, fmt.Sprint(size, " bytes ", n), b[:size], api.ErrShort)
		}
	}
	for n := range 256 {
		whole := of(8*n+8, 6, byte(n), 4)
		for size := range len(whole) {
			if size > 40 && size < len(whole)-40 && size%8 > 1 && size != 256 {
				continue
			}
			list, _ := roomy(whole[:size])
			if s, got, e := Parse(list); e != api.ErrShort || got != 0 || !equal(s, api.Srh{}) {
				t.Errorf("%d bytes, of which the second is %d: %v %d %d", size, n, s, got, e)
			}
		}
	}
}

// Each length that the second byte can say, with room for one Seg: all behind it are parts.
func TestEachLengthThatIsSaid(t *testing.T) {
	for n := range 256 {
		b := of(8*n+8, 6, byte(n), 4)
		what := fmt.Sprint("the second byte is ", n)
		for _, behind := range [][]byte{nil, {9}, {4, 4}} {
			if n < 2 {
				wantParseError(t, what, slices.Concat(b, behind), api.ErrForm)
				continue
			}
			wantParse(t, what, slices.Concat(b, behind), api.Srh{Next: 6, Segs: make([]api.Addr, 1)}, len(b), api.OK)
		}
		if n > 2 {
			b[len(b)-1] = 9
			wantParseError(t, what+", with a part that is cut", b, api.ErrShort)
			b[len(b)-2], b[len(b)-1] = 9, 0
			wantParse(t, what+", with a part at its end", b, api.Srh{Next: 6, Segs: make([]api.Addr, 1), Tlvs: []api.Tlv{{Kind: 9}}}, len(b), api.OK)
		}
	}
}

// Parse asks not how many bytes the parts are: more than could be put are parts, too.
func TestManyPartsToParse(t *testing.T) {
	for _, n := range []int{128, 129, 130, 500, 908} {
		want := slices.Repeat([]api.Tlv{{Kind: 7}}, n)
		parts := bytes.Repeat([]byte{7, 0}, n)
		for len(parts)%8 > 0 {
			parts = append(parts, 0)
		}
		b := header(10, 3, parts)
		wantParse(t, fmt.Sprint(n, " parts"), append(b, 7), read(10, 3, want...), len(b), api.OK)
	}
	whole := append([]byte{3, 255}, mixed(255, 3)...)
	p := api.Tlv{Kind: 3, Data: whole[2:]}
	b := header(1, 0, of(264, whole...))
	wantParse(t, "as much Data as may be", b, read(1, 0, p), len(b), api.OK)
	b = header(1, 0, of(520, slices.Concat(whole, whole)...))
	wantParse(t, "and again", b, read(1, 0, p, p), len(b), api.OK)
}

// spots are headers by hand, each of which is fine.
func spots() [][]byte {
	return [][]byte{
		header(1, 0, nil),
		header(2, 1, nil),
		header(3, 0, []byte{5, 6, 1, 2, 3, 4, 5, 6}),
		header(9, 4, []byte{4, 2, 0, 0, 9, 1, 4, 0}),
		header(10, 9, []byte{0, 0, 1, 1, 9, 0, 255, 0, 7, 3, 9, 9, 9, 4, 1, 4}),
		header(10, 0, nil),
	}
}

// Each value of each byte ahead of the Segs, and of two of them at once.
func TestEachByteAhead(t *testing.T) {
	for i, spot := range spots() {
		for at := range 8 {
			for n := range 256 {
				b := append(slices.Clone(spot), mixed(100, n)...)
				b[at] = byte(n)
				want, size, e := parseBy(b)
				wantParse(t, fmt.Sprint("header ", i, ", byte ", at, " is ", n), b, want, size, e)
			}
		}
		for n := range 48 {
			for m := range 256 {
				b := slices.Concat(spot, make([]byte, 300))
				b[1], b[4] = byte(n), byte(m)
				want, size, e := parseBy(b)
				wantParse(t, fmt.Sprint("header ", i, ", its second byte is ", n, ", its fifth ", m), b, want, size, e)
			}
		}
	}
}

// Each of the bytes behind, parts among them, changed.
func TestEachByteBehind(t *testing.T) {
	for i, spot := range spots() {
		for at := 8; at < len(spot); at++ {
			for _, n := range []byte{0, 1, 2, 3, 4, 5, 7, 8, 15, 127, 128, 255} {
				b := slices.Clone(spot)
				b[at] = n
				want, size, e := parseBy(b)
				wantParse(t, fmt.Sprint("header ", i, ", byte ", at, " is ", n), b, want, size, e)
			}
		}
	}
}

func TestOtherTypes(t *testing.T) {
	for n := range 256 {
		b := header(2, 1, []byte{5, 1, 9, 0, 0, 0, 0, 0})
		b[2] = byte(n)
		if n == 4 {
			wantParse(t, "Type 4", b, read(2, 1, api.Tlv{Kind: 5, Data: []byte{9}}), 48, api.OK)
			continue
		}
		wantParseError(t, fmt.Sprint("Type ", n), b, api.ErrKind)
	}
}

// ErrMany: a byte that says more than 10 Segs, whether there is room for them or not.
func TestManySegsToParse(t *testing.T) {
	for count := 1; count <= 256; count++ {
		for _, n := range []int{0, 1, 2, 20, 22, 254, 255} {
			b := of(8*n+8, 6, byte(n), 4, 0, byte(count-1))
			what := fmt.Sprint(count, " segs, the second byte is ", n)
			switch {
			case count > 10:
				wantParseError(t, what, b, api.ErrMany)
			case n < 2*count:
				wantParseError(t, what, b, api.ErrForm)
			default:
				wantParse(t, what, b, api.Srh{Next: 6, Segs: make([]api.Addr, count)}, len(b), api.OK)
			}
		}
	}
}

// ErrForm: no room for the last Seg, by 8 bytes and more, though there be bytes behind the header.
func TestNoRoomForSegs(t *testing.T) {
	for count := 1; count <= 10; count++ {
		for n := range 2*count + 3 {
			b := slices.Concat(header(count, count-1, nil), make([]byte, 100))
			b[1] = byte(n)
			what := fmt.Sprint(count, " segs, the second byte is ", n)
			if n < 2*count {
				wantParseError(t, what, b, api.ErrForm)
				wantParseError(t, what+", no byte behind", b[:8*n+8], api.ErrForm)
				continue
			}
			wantParse(t, what, b, read(count, count-1), 8*n+8, api.OK)
			wantParse(t, what+", no byte behind", b[:8*n+8], read(count, count-1), 8*n+8, api.OK)
		}
	}
}

// ErrForm: there is no Segs[Left], each count and each Left.
func TestNoSegmentToParse(t *testing.T) {
	for count := 1; count <= 10; count++ {
		for left := range 256 {
			b := header(count, left, make([]byte, 16))
			if left >= count {
				wantParseError(t, fmt.Sprint("Left ", left, " of ", count), b, api.ErrForm)
				continue
			}
			wantParse(t, fmt.Sprint("Left ", left, " of ", count), b, read(count, left), len(b), api.OK)
		}
	}
}

// tlv.Parse's error: the last part is cut by the header's end, though there be bytes behind it.
func TestPartsThatAreCut(t *testing.T) {
	for count := 1; count <= 10; count++ {
		for _, parts := range [][]byte{
			{0, 0, 0, 0, 0, 0, 0, 5}, {0, 0, 0, 0, 0, 0, 0, 4}, {4, 7, 0, 0, 0, 0, 0, 0}, {5, 7, 0, 0, 0, 0, 0, 0}, {5, 255, 0, 0, 0, 0, 0, 0},
			{5, 1, 9, 4, 4, 0, 0, 0}, {0, 0, 0, 0, 0, 0, 9, 1}, {9, 0, 9, 0, 9, 0, 9, 1}, append(make([]byte, 15), 1), append(make([]byte, 1879), 255),
		} {
			b := header(count, 0, parts)
			wantParseError(t, "a part that is cut", b, api.ErrShort)
			wantParseError(t, "a part that goes on behind", append(b, make([]byte, 300)...), api.ErrShort)
		}
	}
}

// fault is a way to make bytes of a header such as can't be parsed. Of two faults the one whose place is less is told.
type fault struct {
	what  string
	place int
	want  api.Errno
	make  func([]byte) []byte
}

// faults are all of them, for a header with parts.
func faults() []fault {
	set := func(at int, to byte) func([]byte) []byte {
		return func(b []byte) []byte {
			b[at] = to
			return b
		}
	}
	return []fault{
		{"no bytes", 0, api.ErrShort, func(b []byte) []byte { return nil }},
		{"7 bytes", 0, api.ErrShort, func(b []byte) []byte { return b[:7] }},
		{"8 bytes", 0, api.ErrShort, func(b []byte) []byte { return b[:max(8, 8*int(b[1]))] }},
		{"a byte less", 0, api.ErrShort, func(b []byte) []byte { return b[:8*int(b[1])+7] }},
		{"Type 3", 1, api.ErrKind, set(2, 3)},
		{"Type 5", 1, api.ErrKind, set(2, 5)},
		{"Type 0", 1, api.ErrKind, set(2, 0)},
		{"11 Segs", 2, api.ErrMany, set(4, 10)},
		{"256 Segs", 2, api.ErrMany, set(4, 255)},
		{"no room for the last Seg", 3, api.ErrForm, func(b []byte) []byte {
			b[1] = min(b[1], 2*b[4]+1)
			return b
		}},
		{"Left 10", 3, api.ErrForm, set(3, 10)},
		{"Left 255", 3, api.ErrForm, set(3, 255)},
		{"a part that is cut", 4, api.ErrShort, func(b []byte) []byte {
			b[8*int(b[1])+7] = 9
			return b
		}},
		{"parts that are all cut", 4, api.ErrShort, func(b []byte) []byte {
			for at := 8 + 16*min(int(b[4])+1, 10); at < 8*int(b[1])+8; at++ {
				b[at] = 255
			}
			return b
		}},
	}
}

func TestWhichErrorToParse(t *testing.T) {
	all := faults()
	for i, spot := range [][]byte{header(1, 0, make([]byte, 8)), header(2, 1, make([]byte, 256)), header(10, 9, make([]byte, 24)), header(10, 0, make([]byte, 1880))} {
		for _, a := range all {
			wantParseError(t, fmt.Sprint(a.what, " in header ", i), a.make(append(slices.Clone(spot), 0, 0, 0)), a.want)
			for _, b := range all {
				if a.place >= b.place {
					continue
				}
				// The lesser one is made last, since it may cut the bytes.
				bad := a.make(b.make(append(slices.Clone(spot), 0, 0, 0)))
				wantParseError(t, fmt.Sprint(a.what, ", and ", b.what, ", in header ", i), bad, a.want)
			}
		}
	}
}

// laidBy tells bytes of headers, most often fine ones, at times changed, cut short or with bytes behind.
func laidBy(seed int) []byte {
	dice := mixed(40, seed+100000)
	count := int(dice[0])%10 + 1
	var parts []byte
	for i := range int(dice[1]) % 5 {
		n := int(dice[2+i]) % 12
		parts = append(append(parts, dice[8+i]%8, byte(n)), mixed(n, seed+i)...)
	}
	parts = append(parts, tlv.Pad((8-len(parts)%8)%8)...)
	b := header(count, int(dice[13])%count, parts)
	b[0], b[5], b[6], b[7] = dice[14], dice[15], dice[16], dice[17]
	if dice[18]%3 == 0 {
		b[int(dice[19])%8] = dice[20] % 12
	}
	if dice[21]%4 == 0 {
		b[int(dice[22])%len(b)] = dice[23] % 8
	}
	if dice[24]%2 == 0 {
		b = append(b, dice[25:25+dice[26]%15]...)
	}
	if dice[27]%8 == 0 {
		b = b[:int(dice[28])%(len(b)+1)]
	}
	return b
}

func TestManyBytes(t *testing.T) {
	met := map[api.Errno]int{}
	for seed := range 30000 {
		b := laidBy(seed)
		want, size, e := parseBy(b)
		wantParse(t, fmt.Sprint("bytes ", seed), b, want, size, e)
		met[e]++
	}
	for _, e := range []api.Errno{api.OK, api.ErrShort, api.ErrKind, api.ErrMany, api.ErrForm} {
		if met[e] < 100 {
			t.Errorf("the bytes hold error %d but %d times", e, met[e])
		}
	}
}

// P10.3

// wantSegment holds Active and Final against what they should tell: beside a false there is nothing.
func wantSegment(t *testing.T, s api.Srh, active, final api.Addr, isActive, isFinal bool) {
	t.Helper()
	if a, ok := Active(s); a != active || ok != isActive {
		t.Errorf("Active of Left %d of %d: %v %v, want %v %v", s.Left, len(s.Segs), a, ok, active, isActive)
	}
	if a, ok := Final(s); a != final || ok != isFinal {
		t.Errorf("Final of Left %d of %d: %v %v, want %v %v", s.Left, len(s.Segs), a, ok, final, isFinal)
	}
}

func TestActiveAndFinal(t *testing.T) {
	for count := range 300 {
		l := segs(count, count)
		for left := range count {
			wantSegment(t, api.Srh{Left: left, Segs: l}, l[left], l[0], true, true)
		}
		far := append([]int{count, count + 1, 2 * count, count + 256, count + 1<<32, math.MinInt + count}, wrongBytes()...)
		for _, left := range append(far, wrongTags()...) {
			switch {
			case left >= 0 && left < count:
				wantSegment(t, api.Srh{Left: left, Segs: l}, l[left], l[0], true, true)
			case count == 0:
				wantSegment(t, api.Srh{Left: left, Segs: l}, api.Addr{}, api.Addr{}, false, false)
			default:
				wantSegment(t, api.Srh{Left: left, Segs: l}, api.Addr{}, l[0], false, true)
			}
		}
	}
}

// Without Segs there is none, whatever Left is; nor is one that lies in the room behind their end.
func TestNeitherActiveNorFinal(t *testing.T) {
	for _, l := range [][]api.Addr{nil, {}, segs(5, 1)[:0]} {
		for _, left := range append([]int{0, 1, 2, 10, 255}, wrongBytes()...) {
			wantSegment(t, api.Srh{Left: left, Segs: l}, api.Addr{}, api.Addr{}, false, false)
		}
	}
	l := segs(5, 1)
	wantSegment(t, api.Srh{Left: 3, Segs: l[:3]}, api.Addr{}, l[0], false, true)
	wantSegment(t, api.Srh{Left: 2, Segs: l[:3]}, l[2], l[0], true, true)
}

// Neither asks for anything but Segs and Left: of headers that can't be they are told, too.
func TestActiveOfWhatCantBe(t *testing.T) {
	for _, f := range flaws() {
		s := api.Srh{Next: 6, Left: 1, Segs: segs(2, 9), Tlvs: []api.Tlv{part(5, 2)}}
		f.make(&s)
		var active, final api.Addr
		isActive, isFinal := s.Left >= 0 && s.Left < len(s.Segs), len(s.Segs) > 0
		if isActive {
			active = s.Segs[s.Left]
		}
		if isFinal {
			final = s.Segs[0]
		}
		wantSegment(t, s, active, final, isActive, isFinal)
	}
	zero := make([]api.Addr, 2)
	wantSegment(t, api.Srh{Left: 1, Segs: zero}, api.Addr{}, api.Addr{}, true, true)
}

func TestActiveOfWhatIsParsed(t *testing.T) {
	for seed := range 3000 {
		s, _, e := Parse(laidBy(seed))
		if e == api.OK {
			wantSegment(t, s, s.Segs[s.Left], s.Segs[0], true, true)
		} else {
			wantSegment(t, s, api.Addr{}, api.Addr{}, false, false)
		}
	}
}

// P10.4

// wantBack holds a header that can be against P10.4, whatever stands behind it.
func wantBack(t *testing.T, what string, s api.Srh) {
	t.Helper()
	b, e := Put(s)
	if e != api.OK || len(b) != Size(s) {
		t.Errorf("%s: Put: %v %d, Size %d", what, b, e, Size(s))
		return
	}
	for _, behind := range [][]byte{nil, {9}, {4, 255, 0}, mixed(40, len(b))} {
		wantParse(t, what, slices.Concat(b, behind), s, len(b), api.OK)
	}
	read, _, _ := Parse(b)
	again, e := Put(read)
	if e != api.OK || !bytes.Equal(again, b) {
		t.Errorf("%s: put as %v, and again as %v %d", what, b, again, e)
	}
}

func TestPutIsParsed(t *testing.T) {
	for _, s := range fine() {
		wantBack(t, "a fine header", s)
	}
	for count := 1; count <= 10; count++ {
		for left := range count {
			wantBack(t, fmt.Sprint("Left ", left, " of ", count), api.Srh{Next: 6, Left: left, Flags: 3, Tag: 7, Segs: segs(count, left)})
		}
		for n := range 257 {
			if n == 1 {
				continue
			}
			for _, l := range sized(n) {
				wantBack(t, fmt.Sprint(count, " segs, parts of ", n), api.Srh{Left: count - 1, Segs: segs(count, n), Tlvs: l})
			}
		}
	}
	for n := range 256 {
		wantBack(t, fmt.Sprint("numbers ", n), api.Srh{Next: n, Flags: 255 - n, Tag: n, Segs: segs(1, n)})
		wantBack(t, fmt.Sprint("numbers ", n), api.Srh{Next: 255 - n, Flags: n, Tag: n << 8, Segs: segs(1, n)})
		// Segments whose bytes would be parts, or a header, themselves.
		same := make([]api.Addr, n%10+1)
		for i := range same {
			copy(same[i][:], bytes.Repeat([]byte{byte(n)}, 16))
		}
		wantBack(t, fmt.Sprint("segs of ", n), api.Srh{Segs: same, Tlvs: []api.Tlv{part(1, n%9)}})
	}
}

func TestManyArePutAndParsed(t *testing.T) {
	many := 0
	for seed := range 20000 {
		if s := lottery(seed); Can(s) == api.OK {
			wantBack(t, fmt.Sprint("header ", seed), s)
			many++
		}
	}
	if many < 5000 {
		t.Errorf("but %d of the headers can be", many)
	}
}

// Headers one behind the other are parsed one behind the other.
func TestOneBehindTheOther(t *testing.T) {
	var b []byte
	for _, s := range fine() {
		one, _ := Put(s)
		b = append(b, one...)
	}
	for i, s := range fine() {
		wantParse(t, fmt.Sprint("header ", i), b, s, Size(s), api.OK)
		b = b[Size(s):]
	}
	wantParseError(t, "the end", b, api.ErrShort)
}

// R1: no call panics, whatever it is given; beside an error, or a false, there is nothing.
func TestWhateverIsGiven(t *testing.T) {
	numbers := append(append([]int{0, 1, 9, 10, 255}, wrongBytes()...), wrongTags()...)
	for _, l := range [][]api.Addr{nil, {}, segs(1, 1), segs(10, 1), segs(11, 1), make([]api.Addr, 1<<12)} {
		for _, n := range numbers {
			for _, parts := range [][]api.Tlv{nil, {}, {{}}, {part(5, 1)}, {part(n, 2)}, {part(5, 300), part(n, 1)}, slices.Repeat([]api.Tlv{part(5, 0)}, 1000)} {
				for _, s := range []api.Srh{{Next: n, Segs: l, Tlvs: parts}, {Left: n, Segs: l, Tlvs: parts}, {Flags: n, Segs: l, Tlvs: parts}, {Tag: n, Segs: l, Tlvs: parts}, {Next: n, Left: n, Flags: n, Tag: n, Segs: l, Tlvs: parts}} {
					want, e := putBy(s)
					wantPut(t, fmt.Sprint("number ", n), s, want, e)
					Active(s)
					Final(s)
				}
			}
		}
	}
	for seed := range 3000 {
		for _, size := range []int{1, 2, 3, 5, 8, 9, 24, 100, 255, 256, 257, 600, 2048} {
			b := mixed(size, seed)
			for range 2 {
				want, n, e := parseBy(b)
				wantParse(t, "bytes of no order", b, want, n, e)
				if size >= 8 {
					b[1], b[2], b[3], b[4] = b[1]%32, 4, b[3]%4, b[4]%12
				}
			}
		}
	}
}

// R3: what is handed in stays as it was, with the room behind it; what is told is new memory.

// given are headers such as Parse tells, and such as it never would.
func given() []api.Srh {
	out := append(fine(), api.Srh{}, api.Srh{Left: 20, Segs: segs(20, 1)})
	for _, s := range fine() {
		for _, f := range flaws()[:30] {
			bad := cloned(s)
			f.make(&bad)
			out = append(out, bad)
		}
	}
	for seed := range 300 {
		out = append(out, lottery(seed))
	}
	return out
}

func TestHeadersStay(t *testing.T) {
	for i, s := range given() {
		list, m := held(s)
		was := m.all()
		Can(list)
		Size(list)
		Put(list)
		Active(list)
		Final(list)
		if !m.is(was) {
			t.Errorf("the lists of header %d, or the room behind them, changed", i)
		}
	}
}

func TestBytesStay(t *testing.T) {
	for seed := range 3000 {
		list, whole := roomy(laidBy(seed))
		was := slices.Clone(whole)
		Parse(list)
		if !bytes.Equal(whole, was) {
			t.Errorf("bytes %d, or the room behind them, changed", seed)
		}
	}
}

// Two answers of Put, and an answer and what was handed in, share no memory.
func TestBytesThatAreToldAreNewMemory(t *testing.T) {
	for i, s := range given() {
		list, m := held(s)
		was := m.all()
		one, _ := Put(list)
		two, _ := Put(list)
		want := slices.Clone(one)
		fill(one)
		if !bytes.Equal(two, want) {
			t.Errorf("header %d: two answers share memory", i)
		}
		if !m.is(was) {
			t.Errorf("header %d: the answer shares memory with what was handed in", i)
		}
		m.spoil()
		if !bytes.Equal(two, want) {
			t.Errorf("header %d: the answer changes with what was handed in", i)
		}
	}
}

// Two answers of Parse, and an answer and what was handed in, share no memory.
func TestHeadersThatAreToldAreNewMemory(t *testing.T) {
	for seed := range 3000 {
		b, whole := roomy(laidBy(seed))
		was := slices.Clone(whole)
		one, _, e := Parse(b)
		two, _, _ := Parse(b)
		if e != api.OK {
			continue
		}
		want := cloned(one)
		told(one).spoil()
		if !equal(two, want) {
			t.Errorf("bytes %d: two answers share memory", seed)
		}
		if !bytes.Equal(whole, was) {
			t.Errorf("bytes %d: the answer shares memory with what was handed in", seed)
		}
		fill(whole)
		if !equal(two, want) {
			t.Errorf("bytes %d: the answer changes with what was handed in", seed)
		}
	}
}

// No two lists of one answer share memory: Segs, and the Data of each part.
func TestListsOfOneAnswer(t *testing.T) {
	for seed := range 3000 {
		s, _, e := Parse(laidBy(seed))
		if e != api.OK {
			continue
		}
		want := cloned(s)
		m := told(s)
		for i, d := range m.datas {
			fill(d)
			for j, p := range s.Tlvs {
				if j != i && !bytes.Equal(p.Data, want.Tlvs[j].Data) {
					t.Errorf("bytes %d: two parts share memory", seed)
				}
			}
			if !slices.Equal(s.Segs, want.Segs) {
				t.Errorf("bytes %d: a part shares memory with Segs", seed)
			}
			fill(d)
		}
		for i := range m.segs {
			fill(m.segs[i][:])
		}
		if !equalParts(s.Tlvs, want.Tlvs) {
			t.Errorf("bytes %d: Segs share memory with a part", seed)
		}
	}
}

// What was handed in is not kept: changed, it is told as it is now.
func TestNothingIsKept(t *testing.T) {
	s := api.Srh{Next: 6, Left: 1, Segs: segs(2, 1), Tlvs: []api.Tlv{{Kind: 5, Data: []byte{1}}}}
	wantPut(t, "ahead of the change", s, append(slices.Concat([]byte{6, 5, 4, 1, 1, 0, 0, 0}, bytesOf(s.Segs)), 5, 1, 1, 4, 3, 0, 0, 0), api.OK)
	s.Segs[1], s.Tlvs[0].Data[0] = api.Addr{9}, 7
	wantPut(t, "behind the change", s, append(slices.Concat([]byte{6, 5, 4, 1, 1, 0, 0, 0}, bytesOf(s.Segs)), 5, 1, 7, 4, 3, 0, 0, 0), api.OK)
	wantSegment(t, s, api.Addr{9}, s.Segs[0], true, true)
	s.Tlvs[0].Kind = 4
	wantPutError(t, "behind another change", s, api.ErrArg)
	b := header(2, 1, nil)
	wantParse(t, "ahead of the change", b, read(2, 1), 40, api.OK)
	b[3] = 2
	wantParseError(t, "behind the change", b, api.ErrForm)
	b[3], b[1] = 1, 5
	wantParseError(t, "behind another change", b, api.ErrShort)
}

func TestNilAndEmptyAreTheSame(t *testing.T) {
	one, e := Put(api.Srh{Segs: segs(1, 1)})
	two, f := Put(api.Srh{Segs: segs(1, 1), Tlvs: []api.Tlv{}})
	if e != api.OK || f != api.OK || !bytes.Equal(one, two) {
		t.Errorf("Put of nil parts: %v %d, of no parts: %v %d", one, e, two, f)
	}
	one, e = Put(api.Srh{Segs: segs(1, 1), Tlvs: []api.Tlv{{Kind: 5}}})
	two, f = Put(api.Srh{Segs: segs(1, 1), Tlvs: []api.Tlv{{Kind: 5, Data: []byte{}}}})
	if e != api.OK || f != api.OK || !bytes.Equal(one, two) {
		t.Errorf("Put of nil Data: %v %d, of no Data: %v %d", one, e, two, f)
	}
	wantPutError(t, "nil Segs", api.Srh{}, api.ErrMany)
	wantPutError(t, "no Segs", api.Srh{Segs: []api.Addr{}}, api.ErrMany)
}

// R4: asked again, each call answers what it answered, wherever its arguments stand.
func TestAskedAgain(t *testing.T) {
	for seed := range 500 {
		s, b := lottery(seed), laidBy(seed)
		put, e := Put(s)
		parsed, n, f := Parse(b)
		active, ok := Active(s)
		final, is := Final(s)
		for range 3 {
			list, _ := held(s)
			there, _ := roomy(b)
			wantPut(t, fmt.Sprint("header ", seed, " again"), list, put, e)
			wantParse(t, fmt.Sprint("bytes ", seed, " again"), there, parsed, n, f)
			wantSegment(t, list, active, final, ok, is)
		}
	}
}
