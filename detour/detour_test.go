package detour

import (
	"bytes"
	"encoding/binary"
	"fmt"
	"slices"
	"testing"

	"harrier/api"
	"harrier/srh"
	"harrier/tlv"
)

// mixed tells n bytes of no plain order; another seed tells others.
func mixed(n, seed int) []byte {
	b := make([]byte, n)
	x := uint32(seed)*2654435761 + 12345
	for i := range b {
		x = x*1664525 + 1013904223
		b[i] = byte(x >> 24)
	}
	return b
}

// addrs tells n addresses, each another one.
func addrs(n, seed int) []api.Addr {
	l := make([]api.Addr, n)
	for i := range l {
		copy(l[i][:], mixed(16, seed+i))
		l[i][0] = byte(i + 1)
	}
	return l
}

// part is a part of a kind with n bytes of Data.
func part(kind, n int) api.Tlv {
	return api.Tlv{Kind: kind, Data: mixed(n, kind+n)}
}

// ordinary is a fixed header, each number of which is another one.
func ordinary() api.Head {
	return api.Head{Class: 0xa5, Label: 0x9c3e7, Next: api.TcpKind, Hop: 64, Src: api.Addr(mixed(16, 77)), Dst: api.Addr(mixed(16, 78))}
}

// heads are fixed headers: each number at its ends, and between them.
func heads() []api.Head {
	full := api.Addr(bytes.Repeat([]byte{255}, 16))
	l := []api.Head{
		ordinary(),
		{Next: api.TcpKind},
		{Next: api.TcpKind, Hop: 2},
		{Class: 255, Label: 1048575, Next: 255, Hop: 255, Src: full, Dst: full},
	}
	for _, set := range []func(*api.Head){
		func(h *api.Head) { h.Class = 255 },
		func(h *api.Head) { h.Class = 1 },
		func(h *api.Head) { h.Label = 1048575 },
		func(h *api.Head) { h.Label = 1 },
		func(h *api.Head) { h.Src = full },
		func(h *api.Head) { h.Src = api.Addr{} },
		func(h *api.Head) { h.Dst = full },
		func(h *api.Head) { h.Dst = api.Addr{} },
		func(h *api.Head) { h.Dst = h.Src },
		func(h *api.Head) { h.Hop = 2 },
		func(h *api.Head) { h.Hop = 3 },
		func(h *api.Head) { h.Hop = 255 },
	} {
		h := ordinary()
		set(&h)
		l = append(l, h)
	}
	return l
}

// fit makes the Length of a packet how many bytes stand behind its fixed header, as far as Length can say it.
func fit(b []byte) []byte {
	binary.BigEndian.PutUint16(b[4:], uint16(len(b)-40))
	return b
}

// packetBy is the packet of a fixed header and of lists of bytes behind it, laid place by place.
func packetBy(h api.Head, behind ...[]byte) []byte {
	b := binary.BigEndian.AppendUint32(nil, 6<<28|uint32(h.Class)<<20|uint32(h.Label))
	b = append(b, 0, 0, byte(h.Next), byte(h.Hop))
	b = append(append(b, h.Src[:]...), h.Dst[:]...)
	for _, l := range behind {
		b = append(b, l...)
	}
	return fit(b)
}

// header lays a routing header of 24 and more bytes, with bytes as its parts, of which there are 8, 16, 24 ..
func header(next, left int, segs []api.Addr, parts []byte) []byte {
	b := []byte{byte(next), byte(2*len(segs) + len(parts)/8), 4, byte(left), byte(len(segs) - 1), 0, 0, 0}
	for _, a := range segs {
		b = append(b, a[:]...)
	}
	return append(b, parts...)
}

// tagged is a routing header with Flags and a Tag.
func tagged(b []byte, flags, tag int) []byte {
	b[5] = byte(flags)
	binary.BigEndian.PutUint16(b[6:], uint16(tag))
	return b
}

// onWay is a packet with a routing header, on its way to the segment that Left names.
func onWay(h api.Head, next, left int, segs []api.Addr, parts []byte, behind ...[]byte) []byte {
	h.Next, h.Dst = api.Routing, segs[left]
	return packetBy(h, append([][]byte{header(next, left, segs, parts)}, behind...)...)
}

// wholeBy tells the error that each call should tell first.
func wholeBy(b []byte) api.Errno {
	switch {
	case len(b) < 40:
		return api.ErrShort
	case b[0]&0xf0 != 0x60:
		return api.ErrForm
	case int(binary.BigEndian.Uint16(b[4:]))+40 != len(b):
		return api.ErrForm
	}
	return api.OK
}

// headerBy tells what Header should.
func headerBy(b []byte) (api.Srh, int, api.Errno) {
	if e := wholeBy(b); e != api.OK {
		return api.Srh{}, 0, e
	}
	if b[6] != 43 {
		return api.Srh{}, 0, api.ErrKind
	}
	return srh.Parse(b[40:])
}

// insertBy tells what Insert should, by another way than the program's: place by place.
func insertBy(b []byte, via []api.Addr, parts []api.Tlv) ([]byte, api.Errno) {
	if e := wholeBy(b); e != api.OK {
		return nil, e
	}
	if b[6] == 43 || b[6] == 0 {
		return nil, api.ErrKind
	}
	if len(via) < 1 || len(via) > 9 {
		return nil, api.ErrMany
	}
	laid, e := tlv.Put(parts)
	if e != api.OK {
		return nil, e
	}
	size := 8 + 16*(len(via)+1) + len(laid)
	if len(b)+size > 1500 {
		return nil, api.ErrLong
	}
	out := make([]byte, len(b)+size)
	copy(out, b[:40])
	binary.BigEndian.PutUint16(out[4:], uint16(len(out)-40))
	out[6] = 43
	copy(out[24:40], via[0][:])
	out[40], out[41], out[42], out[43], out[44] = b[6], byte(size/8-1), 4, byte(len(via)), byte(len(via))
	copy(out[48:], b[24:40])
	for i, a := range via {
		copy(out[48+16*(len(via)-i):], a[:])
	}
	copy(out[64+16*len(via):], laid)
	copy(out[40+size:], b[40:])
	return out, api.OK
}

// removeBy tells what Remove should, by another way than the program's: bytes are cut out of the packet.
func removeBy(b []byte) ([]byte, api.Errno) {
	_, n, e := headerBy(b)
	if e != api.OK {
		return nil, e
	}
	out := slices.Clone(b)
	out[6] = b[40]
	copy(out[24:40], b[48:64])
	return fit(slices.Delete(out, 40, 40+n)), api.OK
}

// advanceBy tells what Advance should, by another way than the program's: bytes are changed where they stand.
func advanceBy(b []byte) ([]byte, api.Errno) {
	_, _, e := headerBy(b)
	switch {
	case e != api.OK:
		return nil, e
	case b[43] == 0:
		return nil, api.ErrNone
	case b[7] < 2:
		return nil, api.ErrHop
	}
	out := slices.Clone(b)
	out[7]--
	out[43]--
	at := 48 + 16*int(out[43])
	copy(out[24:40], b[at:at+16])
	return out, api.OK
}

// equalParts: are they the same parts? nil and empty lists are the same.
func equalParts(a, b []api.Tlv) bool {
	return slices.EqualFunc(a, b, func(x, y api.Tlv) bool { return x.Kind == y.Kind && bytes.Equal(x.Data, y.Data) })
}

// equal: are they the same header? nil and empty lists are the same.
func equal(a, b api.Srh) bool {
	return a.Next == b.Next && a.Left == b.Left && a.Flags == b.Flags && a.Tag == b.Tag && slices.Equal(a.Segs, b.Segs) && equalParts(a.Tlvs, b.Tlvs)
}

// roomy tells b with room behind its end, which is filled, and the whole of it.
func roomy(b []byte) (list, whole []byte) {
	whole = append(slices.Clone(b), bytes.Repeat([]byte{0, 2, 4, 0, 9, 1, 7, 7}, 40)...)
	return whole[:len(b)], whole
}

// wantHeader holds Header against what it should tell, whatever lies in the room behind the bytes: beside an error there is nothing.
func wantHeader(t *testing.T, what string, b []byte, want api.Srh, wantN int, wantE api.Errno) {
	t.Helper()
	list, _ := roomy(b)
	s, n, e := Header(list)
	if e != wantE || n != wantN || !equal(s, want) {
		t.Errorf("%s: Header(%v): %v %d %d, want %v %d %d", what, b, s, n, e, want, wantN, wantE)
	}
}

// wantBytes holds a call against what it should tell, whatever lies in the room behind the bytes: beside an error there is nothing.
func wantBytes(t *testing.T, what string, call func([]byte) ([]byte, api.Errno), b, want []byte, wantE api.Errno) {
	t.Helper()
	list, _ := roomy(b)
	got, e := call(list)
	if e != wantE || !bytes.Equal(got, want) {
		t.Errorf("%s, of %v: %v %d, want %v %d", what, b, got, e, want, wantE)
	}
}

// wantInsert holds Insert against what it should tell.
func wantInsert(t *testing.T, what string, b []byte, via []api.Addr, parts []api.Tlv, want []byte, wantE api.Errno) {
	t.Helper()
	call := func(b []byte) ([]byte, api.Errno) { return Insert(b, via, parts) }
	wantBytes(t, what+": Insert", call, b, want, wantE)
}

// wantRemove holds Remove against what it should tell.
func wantRemove(t *testing.T, what string, b, want []byte, wantE api.Errno) {
	t.Helper()
	wantBytes(t, what+": Remove", Remove, b, want, wantE)
}

// wantAdvance holds Advance against what it should tell.
func wantAdvance(t *testing.T, what string, b, want []byte, wantE api.Errno) {
	t.Helper()
	wantBytes(t, what+": Advance", Advance, b, want, wantE)
}

// wantAllBy holds each call against what it should tell of bytes, by the other ways.
func wantAllBy(t *testing.T, what string, b []byte, via []api.Addr, parts []api.Tlv) {
	t.Helper()
	s, n, e := headerBy(b)
	wantHeader(t, what, b, s, n, e)
	want, e := insertBy(b, via, parts)
	wantInsert(t, what, b, via, parts, want, e)
	want, e = removeBy(b)
	wantRemove(t, what, b, want, e)
	want, e = advanceBy(b)
	wantAdvance(t, what, b, want, e)
}

// wantNoWay holds Header, Remove and Advance against an error, with nothing beside it.
func wantNoWay(t *testing.T, what string, b []byte, want api.Errno) {
	t.Helper()
	wantHeader(t, what, b, api.Srh{}, 0, want)
	wantRemove(t, what, b, nil, want)
	wantAdvance(t, what, b, nil, want)
}

// wantError holds each call against an error, with nothing beside it.
func wantError(t *testing.T, what string, b []byte, want api.Errno) {
	t.Helper()
	wantNoWay(t, what, b, want)
	wantInsert(t, what, b, addrs(1, 5), nil, nil, want)
}

// lengths are how many bytes may stand behind headers: none, few, such as a packet is filled by, and as many as Length can say.
func lengths() []int {
	return []int{0, 1, 2, 7, 8, 20, 39, 40, 41, 255, 256, 1000, 1395, 1396, 1397, 1436, 1437, 1460, 1461, 5000, 32768, 65511}
}

// partsOf are parts that can be: none, few, and as many as 256 bytes.
func partsOf() [][]api.Tlv {
	return [][]api.Tlv{
		nil,
		{},
		{part(5, 1)},
		{part(1, 0)},
		{part(255, 6)},
		{part(9, 2), part(8, 0), part(9, 1)},
		{part(3, 254)},
		{part(7, 100), part(6, 150)},
		slices.Repeat([]api.Tlv{part(2, 0)}, 128),
	}
}

// laidParts are bytes behind Segs: nothing, parts, such as are nothing in each way, and more than tlv.Put would lay.
func laidParts() [][]byte {
	return [][]byte{
		nil,
		{0, 0, 0, 0, 0, 0, 0, 0},
		{4, 6, 0, 0, 0, 0, 0, 0},
		{4, 6, 1, 2, 3, 4, 5, 6},
		{5, 1, 9, 4, 3, 0, 0, 0},
		{0, 5, 1, 9, 0, 4, 1, 7},
		{5, 0, 4, 0, 0, 4, 0, 9, 0, 0, 0, 0, 4, 2, 8, 8},
		{7, 14, 1, 2, 3, 4, 5, 6, 7, 8, 9, 10, 11, 12, 13, 14},
		bytes.Repeat([]byte{9, 2, 1, 0}, 128),
	}
}

// P11.1

func TestHeader(t *testing.T) {
	segs := []api.Addr{{0: 1, 15: 2}, {0: 3, 15: 4}}
	b := packetBy(api.Head{Next: 43, Hop: 7, Dst: segs[1]}, tagged(header(6, 1, segs, []byte{5, 1, 9, 4, 3, 0, 0, 0}), 200, 258), []byte{1, 2, 3})
	wantHeader(t, "a packet", b, api.Srh{Next: 6, Left: 1, Flags: 200, Tag: 258, Segs: segs, Tlvs: []api.Tlv{{Kind: 5, Data: []byte{9}}}}, 48, api.OK)
	b = packetBy(api.Head{Next: 43}, header(59, 0, segs[:1], nil))
	wantHeader(t, "nothing more", b, api.Srh{Next: 59, Segs: segs[:1]}, 24, api.OK)
}

func TestHeaderOfEachWay(t *testing.T) {
	for count := 1; count <= 10; count++ {
		for left := range count {
			for i, parts := range laidParts() {
				for _, n := range []int{0, 1, 30} {
					segs := addrs(count, left+i)
					b := onWay(ordinary(), 6, left, segs, parts, mixed(n, count))
					laid, _ := tlv.Parse(parts)
					what := fmt.Sprint("Left ", left, " of ", count, ", parts ", i, ", ", n, " bytes behind")
					wantHeader(t, what, b, api.Srh{Next: 6, Left: left, Segs: segs, Tlvs: laid}, 8+16*count+len(parts), api.OK)
				}
			}
		}
	}
}

// Of the fixed header's numbers Header asks only for Length and Next.
func TestHeaderOfEachHead(t *testing.T) {
	segs := addrs(3, 9)
	for _, h := range heads() {
		for hop := range 4 {
			h.Next, h.Hop = 43, hop
			b := packetBy(h, header(17, 1, segs, nil), mixed(9, 3))
			wantHeader(t, fmt.Sprint(h), b, api.Srh{Next: 17, Left: 1, Segs: segs}, 56, api.OK)
		}
	}
}

// The first error of all: six.Get's, of bytes that are too few, or don't begin with 6.
func TestBytesOfNoFixedHeader(t *testing.T) {
	whole := [][]byte{packetBy(ordinary(), mixed(30, 1)), onWay(ordinary(), 6, 1, addrs(2, 1), nil, mixed(30, 1))}
	wantError(t, "nil", nil, api.ErrShort)
	wantError(t, "no bytes", []byte{}, api.ErrShort)
	for _, b := range whole {
		for size := range 40 {
			wantError(t, fmt.Sprint(size, " bytes"), b[:size], api.ErrShort)
			wantError(t, fmt.Sprint(size, " bytes that begin with 4"), append([]byte{0x45}, b[1:max(size, 1)]...), api.ErrShort)
		}
		for first := range 16 {
			if first == 6 {
				continue
			}
			bad := slices.Clone(b)
			bad[0] = byte(first<<4) | bad[0]&15
			wantError(t, fmt.Sprint("first bits ", first), bad, api.ErrForm)
			wantError(t, fmt.Sprint("40 bytes, first bits ", first), fit(bad[:40]), api.ErrForm)
		}
	}
}

// Then ErrForm: Length is not how many bytes stand behind the fixed header.
func TestLengthThatDoesNotFit(t *testing.T) {
	for _, n := range lengths() {
		for _, b := range [][]byte{packetBy(ordinary(), mixed(n, 1)), onWay(ordinary(), 6, 1, addrs(2, 1), nil, mixed(max(n, 40)-40, 1))} {
			behind := len(b) - 40
			for _, length := range []int{behind - 1, behind + 1, behind - 2, behind + 8, behind - 8, behind + 40, behind - 40, behind + 256, behind - 256, behind + 512, behind / 2, 2*behind + 1, 0, 65535} {
				if length == behind || length < 0 || length > 65535 {
					continue
				}
				bad := slices.Clone(b)
				binary.BigEndian.PutUint16(bad[4:], uint16(length))
				wantError(t, fmt.Sprint("Length ", length, " of ", behind), bad, api.ErrForm)
			}
			wantError(t, "a byte more", append(slices.Clone(b), 0), api.ErrForm)
			if behind > 0 {
				wantError(t, "a byte less", b[:len(b)-1], api.ErrForm)
			}
		}
	}
}

// More bytes than Length can say: also where it fits modulo 65536.
func TestMoreThanLengthCanSay(t *testing.T) {
	for _, n := range []int{65536, 65537, 65576, 65600, 131072, 131112} {
		wantError(t, fmt.Sprint(n, " bytes behind"), packetBy(ordinary(), mixed(n, 1)), api.ErrForm)
		wantError(t, fmt.Sprint(n, " bytes behind, on its way"), onWay(ordinary(), 6, 1, addrs(2, 1), nil, mixed(n-40, 1)), api.ErrForm)
	}
}

// Then ErrKind: what stands behind the fixed header is no routing header, whatever its bytes are.
func TestNextThatIsNotRouting(t *testing.T) {
	for next := range 256 {
		for _, b := range [][]byte{onWay(ordinary(), 6, 1, addrs(2, 1), nil, mixed(30, 1)), packetBy(ordinary())} {
			b[6] = byte(next)
			if next == 43 {
				wantAllBy(t, "Next 43", b, addrs(1, 5), nil)
				continue
			}
			wantNoWay(t, fmt.Sprint("Next ", next), b, api.ErrKind)
		}
	}
}

// A routing header that doesn't stand right behind the fixed one is none of Header's.
func TestRoutingBehindAnother(t *testing.T) {
	for _, next := range []int{api.HopByHop, api.DestOpts} {
		h := ordinary()
		h.Next = next
		b := packetBy(h, []byte{43, 0, 0, 0, 0, 0, 0, 0}, header(6, 1, addrs(2, 1), nil), mixed(9, 1))
		wantNoWay(t, fmt.Sprint("behind ", next), b, api.ErrKind)
	}
}

// srh.Parse's errors, each at its edges.
func TestRoutingHeaderThatCantBe(t *testing.T) {
	for count := 1; count <= 10; count++ {
		fine := header(6, count-1, addrs(count, 1), make([]byte, 16))
		for _, behind := range [][]byte{nil, mixed(300, 1)} {
			with := func(at, to int) []byte {
				b := onWay(ordinary(), 6, count-1, addrs(count, 1), make([]byte, 16), behind)
				b[40+at] = byte(to)
				return b
			}
			for kind := range 256 {
				if kind != 4 {
					wantNoWay(t, fmt.Sprint("Type ", kind), with(2, kind), api.ErrKind)
				}
			}
			for last := 10; last < 256; last++ {
				wantNoWay(t, fmt.Sprint(last+1, " Segs"), with(4, last), api.ErrMany)
			}
			for words := range 2 * count {
				wantNoWay(t, fmt.Sprint(words, " words for ", count, " Segs"), with(1, words), api.ErrForm)
			}
			for left := count; left < 256; left++ {
				wantNoWay(t, fmt.Sprint("Left ", left, " of ", count), with(3, left), api.ErrForm)
			}
			for _, kind := range []int{1, 3, 4, 5, 255} {
				wantNoWay(t, fmt.Sprint("a part ", kind, " without a length"), with(len(fine)-1, kind), api.ErrShort)
				cut := with(len(fine)-16, kind)
				cut[40+len(fine)-15] = 15
				wantNoWay(t, fmt.Sprint("a part ", kind, " that is cut"), cut, api.ErrShort)
			}
		}
	}
}

// The bytes of a routing header end with the packet.
func TestRoutingHeaderThatIsCut(t *testing.T) {
	h := ordinary()
	h.Next = 43
	for count := 1; count <= 10; count++ {
		fine := header(6, count-1, addrs(count, 1), make([]byte, 16))
		for size := range len(fine) {
			wantNoWay(t, fmt.Sprint("cut to ", size, " of ", len(fine)), packetBy(h, fine[:size]), api.ErrShort)
		}
		for _, words := range []byte{1, 2, 100, 255} {
			b := slices.Clone(fine)
			b[1] += words
			if b[1] >= fine[1] {
				wantNoWay(t, fmt.Sprint(b[1], " words"), packetBy(h, b, mixed(7, 1)), api.ErrShort)
			}
		}
	}
}

// P11.2

func TestInsert(t *testing.T) {
	h := api.Head{Class: 1, Label: 2, Next: 6, Hop: 3, Src: api.Addr{15: 8}, Dst: api.Addr{15: 9}}
	one, two, three := api.Addr{15: 1}, api.Addr{15: 2}, api.Addr{15: 3}
	sent := func(next, size int, to api.Addr, behind []byte) []byte {
		b := binary.BigEndian.AppendUint16([]byte{0x60, 0x10, 0, 2}, uint16(size))
		return slices.Concat(b, []byte{byte(next), 3}, h.Src[:], to[:], behind)
	}
	for _, c := range []struct {
		via   []api.Addr
		parts []api.Tlv
		want  []byte
	}{
		{[]api.Addr{one}, nil, sent(43, 42, one, slices.Concat([]byte{6, 4, 4, 1, 1, 0, 0, 0}, h.Dst[:], one[:], []byte{7, 8}))},
		{[]api.Addr{one, two}, nil, sent(43, 58, one, slices.Concat([]byte{6, 6, 4, 2, 2, 0, 0, 0}, h.Dst[:], two[:], one[:], []byte{7, 8}))},
		{[]api.Addr{three, one, two}, nil, sent(43, 74, three, slices.Concat([]byte{6, 8, 4, 3, 3, 0, 0, 0}, h.Dst[:], two[:], one[:], three[:], []byte{7, 8}))},
		{[]api.Addr{h.Dst, h.Dst}, nil, sent(43, 58, h.Dst, slices.Concat([]byte{6, 6, 4, 2, 2, 0, 0, 0}, h.Dst[:], h.Dst[:], h.Dst[:], []byte{7, 8}))},
		{[]api.Addr{one}, []api.Tlv{{Kind: 5, Data: []byte{9}}}, sent(43, 50, one, slices.Concat([]byte{6, 5, 4, 1, 1, 0, 0, 0}, h.Dst[:], one[:], []byte{5, 1, 9, 4, 3, 0, 0, 0, 7, 8}))},
		{[]api.Addr{two, one}, []api.Tlv{{Kind: 1}, {Kind: 2, Data: []byte{1, 2, 3, 4}}}, sent(43, 66, two, slices.Concat([]byte{6, 7, 4, 2, 2, 0, 0, 0}, h.Dst[:], one[:], two[:], []byte{1, 0, 2, 4, 1, 2, 3, 4, 7, 8}))},
	} {
		wantInsert(t, "by way of few", packetBy(h, []byte{7, 8}), c.via, c.parts, c.want, api.OK)
	}
}

// By way of each number of others that may be, with parts and without, with nothing behind the fixed header and much.
func TestInsertOfEachWay(t *testing.T) {
	for count := 1; count <= 9; count++ {
		for _, parts := range partsOf() {
			for _, n := range lengths() {
				b := packetBy(ordinary(), mixed(n, count))
				via := addrs(count, n)
				want, e := insertBy(b, via, parts)
				laid, _ := tlv.Put(parts)
				if fine := 40+n+24+16*count+len(laid) <= 1500; fine != (e == api.OK) || !fine && e != api.ErrLong {
					t.Fatalf("%d bytes by way of %d, parts of %d: %d", n, count, len(laid), e)
				}
				wantInsert(t, fmt.Sprint(n, " bytes by way of ", count), b, via, parts, want, e)
			}
		}
	}
}

// What Insert tells is read as what it should be, and Class, Label, Hop and Src stay.
func TestInsertOfEachHead(t *testing.T) {
	for _, h := range heads() {
		for hop := range 256 {
			h.Hop = hop
			b := packetBy(h, mixed(9, hop))
			via := addrs(hop%9+1, hop)
			segs := slices.Clone(via)
			segs = append(segs, h.Dst)
			slices.Reverse(segs)
			there := h
			there.Next, there.Dst = 43, via[0]
			want := packetBy(there, header(h.Next, len(via), segs, nil), mixed(9, hop))
			wantInsert(t, fmt.Sprint(h), b, via, nil, want, api.OK)
			wantHeader(t, fmt.Sprint(h), want, api.Srh{Next: h.Next, Left: len(via), Segs: segs}, 24+16*len(via), api.OK)
		}
	}
}

// Of each kind of what stands behind the fixed header but two there may be a routing header ahead of it.
func TestInsertOfEachNext(t *testing.T) {
	for next := range 256 {
		h := ordinary()
		h.Next = next
		for _, behind := range [][]byte{nil, {43, 0, 0, 0, 0, 0, 0, 0}, header(6, 1, addrs(2, 1), nil)} {
			b := packetBy(h, behind)
			if next == 0 || next == 43 {
				wantInsert(t, fmt.Sprint("Next ", next), b, addrs(2, 5), []api.Tlv{part(5, 1)}, nil, api.ErrKind)
				continue
			}
			want, e := insertBy(b, addrs(2, 5), []api.Tlv{part(5, 1)})
			if e != api.OK || int(want[40]) != next {
				t.Fatalf("Next %d: %v %d", next, want, e)
			}
			wantInsert(t, fmt.Sprint("Next ", next), b, addrs(2, 5), []api.Tlv{part(5, 1)}, want, api.OK)
		}
	}
}

// The routing header takes a packet's own Dst, wherever via goes: also to that, and to its Src.
func TestInsertOfTheSameAddresses(t *testing.T) {
	h := ordinary()
	for _, via := range [][]api.Addr{{h.Dst}, {h.Src}, {{}}, make([]api.Addr, 9), slices.Repeat([]api.Addr{h.Dst}, 9), {h.Src, h.Dst, h.Src}} {
		want, e := insertBy(packetBy(h, mixed(3, 1)), via, nil)
		wantInsert(t, "the same addresses", packetBy(h, mixed(3, 1)), via, nil, want, e)
	}
}

func TestInsertByWayOfNoneAndOfTooMany(t *testing.T) {
	b := packetBy(ordinary(), mixed(9, 1))
	for _, via := range [][]api.Addr{nil, {}, addrs(3, 1)[:0], addrs(10, 1), addrs(11, 1), addrs(12, 1), addrs(255, 1), addrs(256, 1), addrs(257, 1), addrs(265, 1), make([]api.Addr, 65537)} {
		for _, parts := range [][]api.Tlv{nil, {part(5, 1)}} {
			wantInsert(t, fmt.Sprint("by way of ", len(via)), b, via, parts, nil, api.ErrMany)
		}
	}
}

// wrongParts are parts that can't be, with tlv.Can's error of them.
func wrongParts() map[string]struct {
	parts []api.Tlv
	want  api.Errno
} {
	return map[string]struct {
		parts []api.Tlv
		want  api.Errno
	}{
		"kind 0":           {[]api.Tlv{part(0, 1)}, api.ErrArg},
		"kind 4":           {[]api.Tlv{part(5, 1), part(4, 1)}, api.ErrArg},
		"kind -1":          {[]api.Tlv{{Kind: -1}}, api.ErrArg},
		"kind 256":         {[]api.Tlv{part(256, 1)}, api.ErrArg},
		"256 bytes":        {[]api.Tlv{part(5, 256)}, api.ErrLong},
		"many bytes":       {[]api.Tlv{part(5, 4000)}, api.ErrLong},
		"257 in all":       {[]api.Tlv{part(5, 255)}, api.ErrMany},
		"129 without Data": {slices.Repeat([]api.Tlv{part(5, 0)}, 129), api.ErrMany},
	}
}

func TestInsertOfPartsThatCantBe(t *testing.T) {
	for what, c := range wrongParts() {
		for count := 1; count <= 9; count++ {
			for _, n := range []int{0, 9, 1000, 1460, 3000} {
				wantInsert(t, what, packetBy(ordinary(), mixed(n, 1)), addrs(count, 1), c.parts, nil, c.want)
			}
		}
	}
}

// A packet that is 1500 bytes behind Insert, and one that were a byte more.
func TestInsertToTheEnd(t *testing.T) {
	for count := 1; count <= 9; count++ {
		for _, parts := range partsOf() {
			laid, _ := tlv.Put(parts)
			most := 1500 - 40 - 24 - 16*count - len(laid)
			for n := most - 10; n <= most+40; n++ {
				b := packetBy(ordinary(), mixed(n, count))
				if n > most {
					wantInsert(t, fmt.Sprint(n-most, " bytes too many"), b, addrs(count, 1), parts, nil, api.ErrLong)
					continue
				}
				want, e := insertBy(b, addrs(count, 1), parts)
				if len(want) != 1500-(most-n) || e != api.OK {
					t.Fatalf("%d bytes behind: %d bytes, %d", n, len(want), e)
				}
				wantInsert(t, fmt.Sprint(len(want), " bytes in all"), b, addrs(count, 1), parts, want, api.OK)
			}
		}
	}
}

// How long a packet is that is no more put anything into, is nothing to the other calls.
func TestLongPackets(t *testing.T) {
	for _, n := range []int{1440, 1459, 1460, 1461, 1462, 9000, 65535 - 56} {
		b := onWay(ordinary(), 6, 2, addrs(3, 1), nil, mixed(n, 1))
		if _, _, e := headerBy(b); e != api.OK {
			t.Fatalf("%d bytes behind: %d", n, e)
		}
		wantAllBy(t, fmt.Sprint(n, " bytes behind"), b, addrs(1, 5), nil)
	}
}

// P11.3

func TestRemove(t *testing.T) {
	h := ordinary()
	segs := []api.Addr{{0: 9}, {0: 2}, {0: 1}}
	for left := range 3 {
		for i, parts := range laidParts() {
			for _, n := range []int{0, 1, 8, 30} {
				b := onWay(h, 58, left, segs, parts, mixed(n, 3))
				want := h
				want.Next, want.Dst = 58, api.Addr{0: 9}
				wantRemove(t, fmt.Sprint("Left ", left, ", parts ", i), b, packetBy(want, mixed(n, 3)), api.OK)
			}
		}
	}
}

// Whatever stands behind the routing header stays byte by byte, and Next says what it is.
func TestRemoveOfEachNext(t *testing.T) {
	for next := range 256 {
		for _, h := range heads() {
			for _, behind := range [][]byte{nil, {0}, header(next, 1, addrs(2, 8), nil), mixed(50, next)} {
				want := h
				want.Next, want.Dst = next, addrs(2, 3)[0]
				wantRemove(t, fmt.Sprint("Next ", next), onWay(h, next, 1, addrs(2, 3), nil, behind), packetBy(want, behind), api.OK)
			}
		}
	}
}

// A packet of one segment, which went all its way.
func TestRemoveOfOneSegment(t *testing.T) {
	for _, h := range heads() {
		for hop := range 3 {
			h.Hop = hop
			want := h
			want.Next, want.Dst = 6, addrs(1, 3)[0]
			wantRemove(t, fmt.Sprint(h), onWay(h, 6, 0, addrs(1, 3), nil, mixed(5, 1)), packetBy(want, mixed(5, 1)), api.OK)
		}
	}
}

func TestAdvance(t *testing.T) {
	for count := 2; count <= 10; count++ {
		for left := 1; left < count; left++ {
			for i, parts := range laidParts() {
				for _, n := range []int{0, 1, 30} {
					segs := addrs(count, left)
					h := ordinary()
					b := onWay(h, 6, left, segs, parts, mixed(n, 3))
					h.Hop--
					want := onWay(h, 6, left-1, segs, parts, mixed(n, 3))
					wantAdvance(t, fmt.Sprint("Left ", left, " of ", count, ", parts ", i), b, want, api.OK)
				}
			}
		}
	}
}

// Hop is 1 less, and Class, Label and Src stay; so do Flags and Tag of the routing header.
func TestAdvanceOfEachHead(t *testing.T) {
	for _, h := range heads() {
		for hop := range 256 {
			h.Hop = hop
			b := onWay(h, 17, 2, addrs(4, hop), nil, mixed(7, 1))
			tagged(b[40:], hop, 257*hop)
			if hop < 2 {
				wantAdvance(t, fmt.Sprint("Hop ", hop), b, nil, api.ErrHop)
				continue
			}
			near := h
			near.Hop--
			want := onWay(near, 17, 1, addrs(4, hop), nil, mixed(7, 1))
			tagged(want[40:], hop, 257*hop)
			wantAdvance(t, fmt.Sprint("Hop ", hop), b, want, api.OK)
		}
	}
}

// A packet that went all its way goes no further: this is told ahead of what its Hop is.
func TestAdvanceAtTheEnd(t *testing.T) {
	for count := 1; count <= 10; count++ {
		for _, hop := range []int{0, 1, 2, 3, 64, 255} {
			h := ordinary()
			h.Hop = hop
			wantAdvance(t, fmt.Sprint("Left 0 of ", count, ", Hop ", hop), onWay(h, 6, 0, addrs(count, 1), nil, mixed(7, 1)), nil, api.ErrNone)
		}
		for left := 1; left < count; left++ {
			for hop := range 2 {
				h := ordinary()
				h.Hop = hop
				wantAdvance(t, fmt.Sprint("Left ", left, " of ", count, ", Hop ", hop), onWay(h, 6, left, addrs(count, 1), nil, mixed(7, 1)), nil, api.ErrHop)
			}
		}
	}
}

// Neither call asks whether a packet's Dst is the segment that Left names.
func TestDstThatIsNotOnTheWay(t *testing.T) {
	for left := range 3 {
		b := onWay(ordinary(), 6, left, addrs(3, 1), nil, mixed(7, 1))
		copy(b[24:40], mixed(16, 99))
		wantAllBy(t, fmt.Sprint("Left ", left), b, addrs(1, 5), nil)
	}
}

// A routing header behind the routing header, and bytes that begin like one: the first alone is taken.
func TestRoutingBehindRouting(t *testing.T) {
	inner := header(6, 1, addrs(2, 50), []byte{5, 1, 9, 4, 3, 0, 0, 0})
	for _, next := range []int{43, 6, 59} {
		for left := range 3 {
			for cut := range len(inner) + 1 {
				segs := addrs(3, 1)
				b := onWay(ordinary(), next, left, segs, nil, inner[:cut])
				what := fmt.Sprint("Next ", next, ", Left ", left, ", ", cut, " bytes behind")
				wantHeader(t, what, b, api.Srh{Next: next, Left: left, Segs: segs}, 56, api.OK)
				want := ordinary()
				want.Next, want.Dst = next, segs[0]
				wantRemove(t, what, b, packetBy(want, inner[:cut]), api.OK)
				if left > 0 {
					near := ordinary()
					near.Hop--
					wantAdvance(t, what, b, onWay(near, next, left-1, segs, nil, inner[:cut]), api.OK)
				}
			}
		}
	}
	once, e := Remove(onWay(ordinary(), 43, 0, addrs(1, 1), nil, inner, []byte{7}))
	if e != api.OK {
		t.Fatalf("the first of two: %d", e)
	}
	want := ordinary()
	want.Next, want.Dst = 6, addrs(2, 50)[0]
	wantRemove(t, "the second of two", once, packetBy(want, []byte{7}), api.OK)
}

// Which of two errors is told

// asked is what a call is asked of.
type asked struct {
	b     []byte
	via   []api.Addr
	parts []api.Tlv
}

// flaw is a way to make what a call is asked of such as can't be. Of two flaws the one whose place is less is told.
type flaw struct {
	what  string
	place int
	want  api.Errno
	make  func(*asked)
}

// set is a flaw's way to make a byte of the packet another one.
func set(at int, to byte) func(*asked) {
	return func(a *asked) { a.b[at] = to }
}

// common are the flaws that each call tells first.
func common() []flaw {
	return []flaw{
		{"no bytes", 0, api.ErrShort, func(a *asked) { a.b = nil }},
		{"39 bytes", 0, api.ErrShort, func(a *asked) { a.b = a.b[:39] }},
		{"first bits 4", 1, api.ErrForm, set(0, 0x45)},
		{"first bits 0", 1, api.ErrForm, set(0, 0)},
		{"a Length 1 less", 2, api.ErrForm, func(a *asked) { a.b[5]-- }},
		{"a Length 1 more", 2, api.ErrForm, func(a *asked) { a.b[5]++ }},
	}
}

// wantPairs holds a call against each pair of flaws that are of different places: the lesser place's error is told.
func wantPairs(t *testing.T, all []flaw, spots []asked, call func(t *testing.T, what string, a asked, want api.Errno)) {
	t.Helper()
	for i, spot := range spots {
		for _, x := range all {
			for _, y := range all {
				if x.place > y.place {
					continue
				}
				a := asked{slices.Clone(spot.b), spot.via, spot.parts}
				// The lesser one is made last, since it may cut the bytes.
				if x.place < y.place {
					y.make(&a)
				}
				x.make(&a)
				call(t, fmt.Sprint(x.what, ", and ", y.what, ", in ", i), a, x.want)
			}
		}
	}
}

func TestWhichErrorToInsert(t *testing.T) {
	all := append(common(),
		flaw{"Next Routing", 3, api.ErrKind, set(6, 43)},
		flaw{"Next HopByHop", 3, api.ErrKind, set(6, 0)},
		flaw{"by way of none", 4, api.ErrMany, func(a *asked) { a.via = nil }},
		flaw{"by way of 10", 4, api.ErrMany, func(a *asked) { a.via = addrs(10, 1) }},
		flaw{"by way of 11", 4, api.ErrMany, func(a *asked) { a.via = addrs(11, 1) }},
		flaw{"1501 bytes", 6, api.ErrLong, func(a *asked) {
			laid, _ := tlv.Put(a.parts)
			a.b = packetBy(ordinary(), mixed(1501-40-24-16*len(a.via)-len(laid), 1))
		}},
		flaw{"4000 bytes", 6, api.ErrLong, func(a *asked) { a.b = packetBy(ordinary(), mixed(4000, 1)) }})
	for what, c := range wrongParts() {
		all = append(all, flaw{what, 5, c.want, func(a *asked) { a.parts = c.parts }})
	}
	spots := []asked{
		{packetBy(ordinary(), mixed(200, 1)), addrs(1, 1), nil},
		{packetBy(ordinary(), mixed(9, 1)), addrs(9, 1), []api.Tlv{part(5, 9)}},
		{packetBy(ordinary()), addrs(3, 1), []api.Tlv{part(5, 1), part(6, 200)}},
	}
	wantPairs(t, all, spots, func(t *testing.T, what string, a asked, want api.Errno) {
		t.Helper()
		wantInsert(t, what, a.b, a.via, a.parts, nil, want)
	})
}

// onWayFlaws are those that Header, Remove and Advance tell, of packets whose routing header has 8 bytes of parts.
func onWayFlaws() []flaw {
	last := func(a *asked) int { return 47 + 8*int(a.b[41]) }
	return append(common(),
		flaw{"Next HopByHop", 3, api.ErrKind, set(6, 0)},
		flaw{"Next Tcp", 3, api.ErrKind, set(6, 6)},
		flaw{"Next DestOpts", 3, api.ErrKind, set(6, 60)},
		flaw{"cut to nothing", 4, api.ErrShort, func(a *asked) { a.b = fit(a.b[:40]) }},
		flaw{"cut to 7 bytes", 4, api.ErrShort, func(a *asked) { a.b = fit(a.b[:47]) }},
		flaw{"cut to 8 bytes", 4, api.ErrShort, func(a *asked) {
			a.b[41] = max(a.b[41], 1)
			a.b = fit(a.b[:48])
		}},
		flaw{"255 words", 4, api.ErrShort, set(41, 255)},
		flaw{"Type 3", 5, api.ErrKind, set(42, 3)},
		flaw{"Type 0", 5, api.ErrKind, set(42, 0)},
		flaw{"11 Segs", 6, api.ErrMany, set(44, 10)},
		flaw{"256 Segs", 6, api.ErrMany, set(44, 255)},
		flaw{"no room for Segs", 7, api.ErrForm, set(41, 1)},
		flaw{"no room at all", 7, api.ErrForm, set(41, 0)},
		flaw{"Left 10", 7, api.ErrForm, set(43, 10)},
		flaw{"Left 255", 7, api.ErrForm, set(43, 255)},
		flaw{"a part without a length", 8, api.ErrShort, func(a *asked) { a.b[last(a)] = 9 }},
		flaw{"a part that is cut", 8, api.ErrShort, func(a *asked) { a.b[last(a)-7], a.b[last(a)-6] = 9, 7 }})
}

// onWaySpots are packets with a routing header, on which flaws are made.
func onWaySpots() []asked {
	return []asked{
		{b: onWay(ordinary(), 6, 1, addrs(2, 1), make([]byte, 8), mixed(30, 1))},
		{b: onWay(ordinary(), 43, 2, addrs(4, 1), []byte{5, 1, 9, 0, 0, 0, 0, 0})},
		{b: onWay(ordinary(), 59, 9, addrs(10, 1), make([]byte, 8), mixed(100, 1))},
	}
}

func TestWhichErrorToHeaderAndRemove(t *testing.T) {
	wantPairs(t, onWayFlaws(), onWaySpots(), func(t *testing.T, what string, a asked, want api.Errno) {
		t.Helper()
		wantNoWay(t, what, a.b, want)
	})
}

func TestWhichErrorToAdvance(t *testing.T) {
	all := append(onWayFlaws(),
		flaw{"Left 0", 9, api.ErrNone, set(43, 0)},
		flaw{"Hop 0", 10, api.ErrHop, set(7, 0)},
		flaw{"Hop 1", 10, api.ErrHop, set(7, 1)})
	wantPairs(t, all, onWaySpots(), func(t *testing.T, what string, a asked, want api.Errno) {
		t.Helper()
		wantAdvance(t, what, a.b, nil, want)
	})
	for _, spot := range onWaySpots() {
		for _, hop := range []byte{0, 1} {
			spot.b[7] = hop
			s, n, e := headerBy(spot.b)
			wantHeader(t, fmt.Sprint("Header of Hop ", hop), spot.b, s, n, e)
			want, e := removeBy(spot.b)
			wantRemove(t, fmt.Sprint("Remove of Hop ", hop), spot.b, want, e)
		}
	}
}

// P11.4

// wantWay holds a packet against its way: put in, it comes to each of via and to its own Dst, and taken out at any step it is what it was, as many hops nearer.
func wantWay(t *testing.T, b []byte, via []api.Addr, parts []api.Tlv) {
	t.Helper()
	own := slices.Clone(b[24:40])
	there, e := Insert(b, via, parts)
	if e != api.OK {
		t.Errorf("by way of %d: %d", len(via), e)
		return
	}
	near := slices.Clone(b)
	for step := 0; ; step++ {
		to := own
		if step < len(via) {
			to = via[step][:]
		}
		s, n, e := Header(there)
		if e != api.OK || !bytes.Equal(there[24:40], to) || s.Left != len(via)-step || !equalParts(s.Tlvs, parts) || n != len(there)-len(b) {
			t.Errorf("step %d of %d: %v, %v %d %d", step, len(via), there, s, n, e)
		}
		wantRemove(t, fmt.Sprint("step ", step, " of ", len(via)), there, near, api.OK)
		if step == len(via) {
			break
		}
		there, e = Advance(there)
		if e != api.OK {
			t.Errorf("step %d of %d: Advance: %d", step, len(via), e)
			return
		}
		near[7]--
	}
	wantAdvance(t, "behind all steps", there, nil, api.ErrNone)
}

func TestPutInAndTakenOut(t *testing.T) {
	for count := 1; count <= 9; count++ {
		for _, parts := range partsOf() {
			for _, n := range []int{0, 1, 8, 41, 600, 1500 - 40 - 24 - 16*count - 256} {
				wantWay(t, packetBy(ordinary(), mixed(n, count)), addrs(count, n), parts)
			}
		}
		for _, h := range heads() {
			for _, next := range []int{6, 58, 59, 60, 44, 255, 1} {
				h.Next, h.Hop = next, 10+count
				wantWay(t, packetBy(h, header(6, 1, addrs(2, 1), nil)), addrs(count, count), nil)
			}
		}
	}
}

// The way ends where Hop does: as many steps as Hop lets it go, but one.
func TestWayOfFewHops(t *testing.T) {
	for count := 1; count <= 9; count++ {
		for hop := range 12 {
			h := ordinary()
			h.Hop = hop
			b, e := Insert(packetBy(h, mixed(9, 1)), addrs(count, 1), nil)
			steps := 0
			for e == api.OK && steps < 20 {
				b, e = Advance(b)
				steps++
			}
			want, wantSteps := api.ErrNone, count+1
			if hop-1 < count {
				want, wantSteps = api.ErrHop, max(hop-1, 0)+1
			}
			if e != want || len(b) > 0 || steps != wantSteps {
				t.Errorf("by way of %d, Hop %d: step %d, %v %d, want %d at step %d", count, hop, steps, b, e, want, wantSteps)
			}
		}
	}
}

// dealt tells a packet: most often such as holds a routing header, at times changed, cut short or with bytes behind.
func dealt(seed int) []byte {
	dice := mixed(40, seed+500000)
	count := int(dice[0])%10 + 1
	left := int(dice[1]) % count
	parts := laidParts()[int(dice[2])%9]
	h := ordinary()
	h.Hop = int(dice[3]) % 6
	b := onWay(h, int(dice[4])%64, left, addrs(count, seed), parts, mixed(int(dice[5])%60, seed))
	if dice[6]%4 == 0 {
		b[6] = dice[7] % 64
	}
	if dice[8]%3 == 0 && len(b) > 40 {
		b[40+int(dice[9])%8] = dice[10] % 12
	}
	if dice[11]%5 == 0 {
		b[40+int(dice[12])%(len(b)-40)] = dice[13]
	}
	if dice[14]%6 == 0 {
		b = fit(b[:40+int(dice[15])%(len(b)-39)])
	}
	if dice[16]%12 == 0 {
		b[int(dice[17])%len(b)%8] ^= dice[18] & dice[19]
	}
	if dice[20]%16 == 0 {
		b = b[:int(dice[21])%(len(b)+1)]
	}
	return b
}

func TestManyPackets(t *testing.T) {
	met := map[api.Errno]int{}
	for seed := range 30000 {
		b := dealt(seed)
		via := addrs(seed%12, seed)
		parts := partsOf()[seed%9]
		if seed%16 == 0 {
			parts = append(slices.Clone(parts), part(4, 1))
		}
		wantAllBy(t, fmt.Sprint("packet ", seed), b, via, parts)
		_, e := advanceBy(b)
		met[e]++
		if len(b) > 40 {
			b[6] = 6
			wantAllBy(t, fmt.Sprint("packet ", seed, " with Next 6"), b, via, parts)
		}
	}
	for _, e := range []api.Errno{api.OK, api.ErrShort, api.ErrForm, api.ErrKind, api.ErrMany, api.ErrNone, api.ErrHop} {
		if met[e] < 100 {
			t.Errorf("the packets hold error %d but %d times", e, met[e])
		}
	}
}

// R1: no call panics, whatever it is given; beside an error there is nothing.
func TestWhateverIsGiven(t *testing.T) {
	for seed := range 4000 {
		for _, size := range []int{0, 1, 8, 39, 40, 41, 47, 48, 64, 100, 300, 1500, 1501} {
			b := mixed(size, seed)
			wantAllBy(t, "bytes of no order", b, addrs(seed%3, seed), nil)
			if size < 40 {
				continue
			}
			b[0] = 0x60
			wantAllBy(t, "bytes of no order, of version 6", fit(b), addrs(seed%3, seed), nil)
			b[6] = 43
			wantAllBy(t, "bytes of no order, of a routing header", b, addrs(seed%3, seed), nil)
			if size >= 48 {
				b[41], b[42], b[43], b[44] = b[41]%24, 4, b[43]%4, b[44]%12
				wantAllBy(t, "bytes of a routing header", b, addrs(seed%3, seed), nil)
			}
		}
	}
	for _, via := range [][]api.Addr{nil, {}, addrs(1, 1), addrs(9, 1), make([]api.Addr, 100000)} {
		for _, parts := range [][]api.Tlv{nil, {}, {{}}, {{Kind: -1 << 63}}, {{Kind: 1<<63 - 1, Data: mixed(9, 1)}}, make([]api.Tlv, 100000), slices.Repeat([]api.Tlv{part(5, 255)}, 3000)} {
			for _, b := range [][]byte{nil, {}, make([]byte, 40), packetBy(api.Head{}), packetBy(ordinary()), make([]byte, 200000)} {
				wantAllBy(t, "what may not be", b, via, parts)
			}
		}
	}
}

// R3: what is handed in stays as it was, with the room behind it; what is told is new memory.

// fill makes each byte of a list another one, and each of the room behind its end.
func fill(b []byte) {
	b = b[:cap(b)]
	for i := range b {
		b[i] ^= 0xa5
	}
}

// spoil makes all that a header holds another thing, and what lies in the room behind its lists.
func spoil(s api.Srh) {
	for i := range s.Segs[:cap(s.Segs)] {
		fill(s.Segs[:cap(s.Segs)][i][:])
	}
	for _, p := range s.Tlvs {
		fill(p.Data)
	}
	for i := range s.Tlvs[:cap(s.Tlvs)] {
		s.Tlvs[:cap(s.Tlvs)][i] = api.Tlv{Kind: -9}
	}
}

// cloned is the header in new memory.
func cloned(s api.Srh) api.Srh {
	out := s
	out.Segs, out.Tlvs = slices.Clone(s.Segs), nil
	for _, p := range s.Tlvs {
		out.Tlvs = append(out.Tlvs, api.Tlv{Kind: p.Kind, Data: slices.Clone(p.Data)})
	}
	return out
}

// given are packets of each kind, such as calls take, and such as they don't.
func given() [][]byte {
	out := [][]byte{nil, make([]byte, 39), packetBy(ordinary()), packetBy(ordinary(), mixed(9, 1)), packetBy(ordinary(), mixed(1500, 1))}
	for seed := range 1000 {
		out = append(out, dealt(seed))
	}
	return out
}

// calls are all that tell bytes.
func calls(via []api.Addr, parts []api.Tlv) map[string]func([]byte) ([]byte, api.Errno) {
	return map[string]func([]byte) ([]byte, api.Errno){
		"Insert":  func(b []byte) ([]byte, api.Errno) { return Insert(b, via, parts) },
		"Remove":  Remove,
		"Advance": Advance,
	}
}

func TestBytesStay(t *testing.T) {
	for i, b := range given() {
		list, whole := roomy(b)
		was := slices.Clone(whole)
		Header(list)
		for _, call := range calls(addrs(2, 1), []api.Tlv{part(5, 1)}) {
			call(list)
		}
		if !bytes.Equal(whole, was) {
			t.Errorf("packet %d, or the room behind it, changed", i)
		}
	}
}

func TestViaAndPartsStay(t *testing.T) {
	for count := range 12 {
		room := addrs(12, 1)
		data, behind := roomy(mixed(3, 1))
		parts := []api.Tlv{{Kind: 5, Data: data}, {Kind: 6}, {Kind: 77, Data: []byte{1}}}
		wasParts, wasBehind := cloned(api.Srh{Tlvs: parts}).Tlvs, slices.Clone(behind)
		out, e := Insert(packetBy(ordinary(), mixed(9, 1)), room[:count], parts[:2])
		if fine := count >= 1 && count <= 9; fine != (e == api.OK) {
			t.Errorf("by way of %d: %d", count, e)
		}
		if !slices.Equal(room, addrs(12, 1)) || !equalParts(parts, wasParts) || !bytes.Equal(behind, wasBehind) {
			t.Errorf("by way of %d: via or parts, or the room behind them, changed", count)
		}
		fill(out)
		if !slices.Equal(room, addrs(12, 1)) || !equalParts(parts, wasParts) || !bytes.Equal(behind, wasBehind) {
			t.Errorf("by way of %d: the answer shares memory with via or parts", count)
		}
		want, _ := Insert(packetBy(ordinary(), mixed(9, 1)), room[:count], parts[:2])
		kept := slices.Clone(want)
		spoil(api.Srh{Segs: room, Tlvs: parts})
		if !bytes.Equal(want, kept) {
			t.Errorf("by way of %d: the answer changes with via or parts", count)
		}
	}
}

// Two answers, and an answer and what was handed in, share no memory.
func TestBytesThatAreToldAreNewMemory(t *testing.T) {
	for i, b := range given() {
		for name, call := range calls(addrs(2, 1), []api.Tlv{part(5, 1)}) {
			list, whole := roomy(b)
			was := slices.Clone(whole)
			one, _ := call(list)
			two, _ := call(list)
			want := slices.Clone(one)
			fill(one)
			if !bytes.Equal(two, want) {
				t.Errorf("%s of packet %d: two answers share memory", name, i)
			}
			if !bytes.Equal(whole, was) {
				t.Errorf("%s of packet %d: the answer shares memory with what was handed in", name, i)
			}
			fill(whole)
			if !bytes.Equal(two, want) {
				t.Errorf("%s of packet %d: the answer changes with what was handed in", name, i)
			}
		}
	}
}

func TestHeadersThatAreToldAreNewMemory(t *testing.T) {
	for i, b := range given() {
		list, whole := roomy(b)
		was := slices.Clone(whole)
		one, _, _ := Header(list)
		two, _, _ := Header(list)
		want := cloned(one)
		spoil(one)
		if !equal(two, want) {
			t.Errorf("packet %d: two answers share memory", i)
		}
		if !bytes.Equal(whole, was) {
			t.Errorf("packet %d: the answer shares memory with what was handed in", i)
		}
		fill(whole)
		if !equal(two, want) {
			t.Errorf("packet %d: the answer changes with what was handed in", i)
		}
	}
}

// No two lists of one answer share memory: Segs, and the Data of each part.
func TestListsOfOneAnswer(t *testing.T) {
	for i, b := range given() {
		s, _, _ := Header(b)
		want := cloned(s)
		for at, p := range s.Tlvs {
			fill(p.Data)
			for other, q := range s.Tlvs {
				if other != at && !bytes.Equal(q.Data, want.Tlvs[other].Data) {
					t.Errorf("packet %d: two parts share memory", i)
				}
			}
			if !slices.Equal(s.Segs, want.Segs) {
				t.Errorf("packet %d: a part shares memory with Segs", i)
			}
			fill(p.Data)
		}
		spoil(api.Srh{Segs: s.Segs})
		if !equalParts(s.Tlvs, want.Tlvs) {
			t.Errorf("packet %d: Segs share memory with a part", i)
		}
	}
}

func TestNilAndEmptyAreTheSame(t *testing.T) {
	b := packetBy(ordinary(), mixed(9, 1))
	want, e := insertBy(b, addrs(1, 1), nil)
	for _, parts := range [][]api.Tlv{nil, {}} {
		wantInsert(t, "no parts", b, addrs(1, 1), parts, want, e)
	}
	want, e = insertBy(b, addrs(1, 1), []api.Tlv{{Kind: 5}})
	for _, data := range [][]byte{nil, {}} {
		wantInsert(t, "no Data", b, addrs(1, 1), []api.Tlv{{Kind: 5, Data: data}}, want, e)
	}
}

// R4: asked again, each call answers what it answered.
func TestAskedAgain(t *testing.T) {
	for i, b := range given() {
		s, n, e := Header(b)
		for range 3 {
			wantHeader(t, fmt.Sprint("packet ", i, " again"), b, s, n, e)
		}
		for name, call := range calls(addrs(2, 1), []api.Tlv{part(5, 1)}) {
			want, e := call(b)
			for range 3 {
				list, _ := roomy(b)
				if got, f := call(list); !bytes.Equal(got, want) || f != e {
					t.Errorf("%s of packet %d again: %v %d, want %v %d", name, i, got, f, want, e)
				}
			}
		}
	}
}
