package packet

import (
	"bytes"
	"encoding/binary"
	"encoding/hex"
	"fmt"
	"math"
	"slices"
	"testing"

	"harrier/api"
	"harrier/detour"
	"harrier/srh"
	"harrier/tcp"
)

// mixed tells n bytes of no plain order; another seed tells others.
func mixed(n, seed int) []byte {
	b := make([]byte, n)
	x := uint32(seed)*2654435761 + 12345
	for i := range b {
		x = x*1664525 + 1013904223
		b[i] = byte(x >> 24)
	}
	return b
}

// addrs tells n addresses, each another one.
func addrs(n, seed int) []api.Addr {
	l := make([]api.Addr, n)
	for i := range l {
		copy(l[i][:], mixed(16, seed+i))
		l[i][0] = byte(i + 1)
	}
	return l
}

// full is the address of which each bit is 1.
func full() api.Addr { return api.Addr(bytes.Repeat([]byte{255}, 16)) }

// ends are pairs of addresses between which packets go.
func ends() [][2]api.Addr {
	return [][2]api.Addr{{{15: 1}, {15: 2}}, {}, {full(), full()}, {full(), {}}, {{}, full()}, {addrs(1, 5)[0], addrs(1, 6)[0]}, {addrs(1, 7)[0], addrs(1, 7)[0]}}
}

// part is bytes that stand behind one another in a packet: a header, or what stands behind all of them.
type part struct {
	kind int
	b    []byte
}

// plan is a packet that is to be: its headers, and its upper part. Length and each Next follow from these.
type plan struct {
	head    api.Head
	version int
	longer  int // what Length says more than it should
	exts    []part
	upper   part
	most    int // as many bytes are laid at most
}

// bytes tells the bytes of a plan, laid place by place.
func (p plan) bytes() []byte {
	var behind []byte
	kinds := []int{}
	for _, x := range p.exts {
		kinds = append(kinds, x.kind)
	}
	kinds = append(kinds, p.upper.kind)
	for i, x := range p.exts {
		b := slices.Clone(x.b)
		b[0] = byte(kinds[i+1])
		behind = append(behind, b...)
	}
	behind = append(behind, p.upper.b...)
	h := p.head
	b := binary.BigEndian.AppendUint32(nil, uint32(p.version)<<28|uint32(h.Class)<<20|uint32(h.Label))
	b = binary.BigEndian.AppendUint16(b, uint16(len(behind)+p.longer))
	b = append(b, byte(kinds[0]), byte(h.Hop))
	b = append(append(append(b, h.Src[:]...), h.Dst[:]...), behind...)
	return b[:min(len(b), p.most)]
}

// clone is a plan that shares nothing with p.
func (p plan) clone() plan {
	p.exts = slices.Clone(p.exts)
	for i := range p.exts {
		p.exts[i].b = slices.Clone(p.exts[i].b)
	}
	p.upper.b = slices.Clone(p.upper.b)
	return p
}

// straight is the plan of a packet without a routing header, from src to dst.
func straight(src, dst api.Addr, upper part) plan {
	h := api.Head{Class: 0xa5, Label: 0x9c3e7, Hop: 7, Src: src, Dst: dst}
	return plan{head: h, version: 6, upper: upper, most: 1 << 20}
}

// byWay is the plan of a packet from src on its way to segs[left], and at last to segs[0].
func byWay(src api.Addr, segs []api.Addr, left int, parts []byte, upper part) plan {
	p := straight(src, segs[left], upper)
	p.exts = []part{route(segs, left, parts)}
	return p
}

// route lays a routing header with Flags 200 and Tag 258; there are 0, 8, 16 .. bytes of parts.
func route(segs []api.Addr, left int, parts []byte) part {
	b := []byte{0, byte(2*len(segs) + len(parts)/8), 4, byte(left), byte(len(segs) - 1), 200, 1, 2}
	for _, a := range segs {
		b = append(b, a[:]...)
	}
	return part{api.Routing, append(b, parts...)}
}

// ext lays an extension header of 8 times words bytes.
func ext(kind, words int) part {
	b := mixed(8*words, kind+words)
	b[1] = byte(words - 1)
	return part{kind, b}
}

// totalBy sums the numbers of 2 bytes of lists, each of which is filled up by a byte 0, modulo 65535.
func totalBy(lists ...[]byte) int {
	total := 0
	for _, l := range lists {
		for i, x := range l {
			total += int(x) << (8 * (1 - i%2))
		}
	}
	return total % 65535
}

// leftBy is what the sum of an upper part, with what is summed ahead of it, leaves modulo 65535: 0, if it is fine.
func leftBy(src, dst api.Addr, kind int, b []byte) int {
	return totalBy(src[:], dst[:], binary.BigEndian.AppendUint32(nil, uint32(len(b))), []byte{0, byte(kind)}, b)
}

// sealBy lays the sum with which an upper part is fine at a place of it, and tells it.
func sealBy(src, dst api.Addr, kind int, b []byte, at int) []byte {
	b[at], b[at+1] = 0, 0
	// What is summed is never 0, so that a rest of 0 stands for 65535.
	sum := (65535 - leftBy(src, dst, kind, b)) % 65535
	binary.BigEndian.PutUint16(b[at:], uint16(sum))
	return b
}

// optsBy lays options, and fills them up to whole words.
func optsBy(l []api.Opt) []byte {
	var b []byte
	for _, o := range l {
		b = append(b, byte(o.Kind))
		if o.Kind != 1 {
			b = append(append(b, byte(2+len(o.Data))), o.Data...)
		}
	}
	return append(b, make([]byte, (4-len(b)%4)%4)...)
}

// segmentBy lays a segment, place by place, with the sum that it has between src and dst.
func segmentBy(src, dst api.Addr, s api.Tcp) part {
	opts := optsBy(s.Opts)
	b := binary.BigEndian.AppendUint16(nil, uint16(s.Sport))
	b = binary.BigEndian.AppendUint16(b, uint16(s.Dport))
	b = binary.BigEndian.AppendUint32(b, s.Seq)
	b = binary.BigEndian.AppendUint32(b, s.Ack)
	b = append(b, byte((20+len(opts))/4*16), byte(s.Flags))
	b = binary.BigEndian.AppendUint16(b, uint16(s.Window))
	b = append(b, 0, 0)
	b = binary.BigEndian.AppendUint16(b, uint16(s.Urgent))
	return part{api.TcpKind, sealBy(src, dst, api.TcpKind, append(append(b, opts...), s.Payload...), 16)}
}

// messageBy lays a message, place by place, with the sum that it has between src and dst.
func messageBy(src, dst api.Addr, m api.Msg) part {
	b := binary.BigEndian.AppendUint32([]byte{byte(m.Kind), byte(m.Code), 0, 0}, m.Word)
	return part{api.IcmpKind, sealBy(src, dst, api.IcmpKind, append(b, m.Body...), 2)}
}

// summed is the segment with the sum that stands in its bytes.
func summed(s api.Tcp, laid part) api.Tcp {
	s.Sum = int(binary.BigEndian.Uint16(laid.b[16:]))
	return s
}

// ordinary is a segment with a number of its own in each place.
func ordinary() api.Tcp {
	return api.Tcp{Sport: 258, Dport: 772, Seq: 0x05060708, Ack: 0x090a0b0c, Flags: 18, Window: 0x0d0e, Urgent: 0x1112,
		Opts: []api.Opt{{Kind: 2, Data: []byte{5, 220}}, {Kind: 1}}, Payload: []byte{0xaa, 0xbb, 0xcc}}
}

// echo is a message with a number of its own in each place.
func echo() api.Msg {
	return api.Msg{Kind: 128, Word: 0x01020304, Body: []byte{7, 8, 9}}
}

// segments are segments of each sort that can be.
func segments() []api.Tcp {
	l := []api.Tcp{
		{},
		ordinary(),
		{Sport: 1, Dport: 2, Flags: api.SYN, Payload: []byte{5}},
		{Sport: 65535, Dport: 65535, Seq: math.MaxUint32, Ack: math.MaxUint32, Flags: 255, Window: 65535, Urgent: 65535},
		{Flags: api.SYN, Opts: []api.Opt{{Kind: 2, Data: []byte{5, 220}}, {Kind: 4}, {Kind: 3, Data: []byte{7}}, {Kind: 8, Data: mixed(8, 1)}}},
		{Opts: slices.Repeat([]api.Opt{{Kind: 1}}, 40), Payload: mixed(300, 1)},
		{Opts: []api.Opt{{Kind: 254, Data: mixed(38, 2)}}},
		{Opts: []api.Opt{{Kind: 9}, {Kind: 1}}, Payload: make([]byte, 8)},
		{Payload: bytes.Repeat([]byte{255}, 101)},
	}
	for flags := range 256 {
		l = append(l, api.Tcp{Sport: flags, Flags: flags, Payload: mixed(flags%5, flags)})
	}
	return l
}

// messages are messages of each sort that can be: echoes, answers, errors, and others.
func messages() []api.Msg {
	l := []api.Msg{
		{},
		echo(),
		{Kind: 129, Word: 258, Body: mixed(64, 1)},
		{Kind: 1, Code: 3, Body: mixed(1232, 1)},
		{Kind: 2, Word: 1460, Body: mixed(48, 2)},
		{Kind: 3, Body: []byte{0x60}},
		{Kind: 4, Code: 2, Word: 40},
		{Kind: 255, Code: 255, Word: math.MaxUint32, Body: bytes.Repeat([]byte{255}, 101)},
	}
	for kind := range 256 {
		l = append(l, api.Msg{Kind: kind, Code: 255 - kind, Word: uint32(kind) << 20, Body: mixed(kind%5, kind)})
	}
	return l
}

// equalParts: are they the same parts? nil and empty lists are the same.
func equalParts(a, b []api.Tlv) bool {
	return slices.EqualFunc(a, b, func(x, y api.Tlv) bool { return x.Kind == y.Kind && bytes.Equal(x.Data, y.Data) })
}

// equalRoutes: are they the same routing header? nil and empty lists are the same.
func equalRoutes(a, b api.Srh) bool {
	return a.Next == b.Next && a.Left == b.Left && a.Flags == b.Flags && a.Tag == b.Tag && slices.Equal(a.Segs, b.Segs) && equalParts(a.Tlvs, b.Tlvs)
}

// equalSegments: are they the same segment? nil and empty lists are the same.
func equalSegments(a, b api.Tcp) bool {
	same := func(x, y api.Opt) bool { return x.Kind == y.Kind && bytes.Equal(x.Data, y.Data) }
	return a.Sport == b.Sport && a.Dport == b.Dport && a.Seq == b.Seq && a.Ack == b.Ack && a.Flags == b.Flags &&
		a.Window == b.Window && a.Sum == b.Sum && a.Urgent == b.Urgent && slices.EqualFunc(a.Opts, b.Opts, same) && bytes.Equal(a.Payload, b.Payload)
}

// equalMessages: are they the same message? nil and empty lists are the same.
func equalMessages(a, b api.Msg) bool {
	return a.Kind == b.Kind && a.Code == b.Code && a.Word == b.Word && bytes.Equal(a.Body, b.Body)
}

// equal: are they the same packet? nil and empty lists are the same.
func equal(a, b Packet) bool {
	return a.Head == b.Head && a.Routed == b.Routed && equalRoutes(a.Srh, b.Srh) && a.Final == b.Final && a.Kind == b.Kind &&
		equalSegments(a.Tcp, b.Tcp) && equalMessages(a.Msg, b.Msg) && bytes.Equal(a.Body, b.Body)
}

// roomy tells b with room behind its end, which is filled, and the whole of it.
func roomy(b []byte) (list, whole []byte) {
	whole = append(slices.Clone(b), bytes.Repeat([]byte{6, 0, 80, 4, 5, 220, 43, 9}, 40)...)
	return whole[:len(b)], whole
}

// wantParse holds Parse against what it should tell, whatever lies in the room behind the bytes.
func wantParse(t *testing.T, what string, b []byte, want Packet, wantE api.Errno) {
	t.Helper()
	list, _ := roomy(b)
	got, e := Parse(list)
	if e != wantE || !equal(got, want) {
		t.Errorf("%s: Parse(%v): %v %d, want %v %d", what, b, got, e, want, wantE)
	}
}

// wantError holds Parse against an error, with nothing beside it.
func wantError(t *testing.T, what string, b []byte, want api.Errno) {
	t.Helper()
	wantParse(t, what, b, Packet{}, want)
}

// wantBytes holds what a call told against what it should tell.
func wantBytes(t *testing.T, what string, got []byte, e api.Errno, want []byte, wantE api.Errno) {
	t.Helper()
	if e != wantE || !bytes.Equal(got, want) {
		t.Errorf("%s: %v %d, want %v %d", what, got, e, want, wantE)
	}
}

// wantTcp holds Tcp against what it should tell.
func wantTcp(t *testing.T, what string, src, dst api.Addr, s api.Tcp, want []byte, wantE api.Errno) {
	t.Helper()
	got, e := Tcp(src, dst, s)
	wantBytes(t, what+": Tcp", got, e, want, wantE)
}

// wantIcmp holds Icmp against what it should tell.
func wantIcmp(t *testing.T, what string, src, dst api.Addr, m api.Msg, want []byte, wantE api.Errno) {
	t.Helper()
	got, e := Icmp(src, dst, m)
	wantBytes(t, what+": Icmp", got, e, want, wantE)
}

// walkBy tells where the upper part stands, and of which kind it is, by another way than the program's; and the
// error of the headers ahead of it.
func walkBy(rest []byte, kind, count int) (upper part, second bool, e api.Errno) {
	switch {
	case kind == 44:
		return part{}, false, api.ErrKind
	case kind == 0 && count > 0:
		return part{}, false, api.ErrForm
	case kind != 0 && kind != 43 && kind != 60:
		return part{kind, rest}, false, api.OK
	case count == 8:
		return part{}, false, api.ErrMany
	case len(rest) < 2 || len(rest) < 8*int(rest[1])+8:
		return part{}, false, api.ErrShort
	}
	upper, second, e = walkBy(rest[8*int(rest[1])+8:], int(rest[0]), count+1)
	return upper, second || kind == 43 && count > 0, e
}

// headBy tells the fixed header of 40 bytes.
func headBy(b []byte) api.Head {
	first := int(binary.BigEndian.Uint32(b))
	return api.Head{Class: first / (1 << 20) % 256, Label: first % (1 << 20), Length: int(b[4])*256 + int(b[5]), Next: int(b[6]), Hop: int(b[7]),
		Src: api.Addr(b[8:24]), Dst: api.Addr(b[24:40])}
}

// parseBy tells what Parse should, by another way than the program's.
func parseBy(b []byte) (Packet, api.Errno) {
	switch {
	case len(b) > 1500:
		return Packet{}, api.ErrLong
	case len(b) < 40:
		return Packet{}, api.ErrShort
	case b[0]&0xf0 != 0x60:
		return Packet{}, api.ErrForm
	case int(b[4])*256+int(b[5]) != len(b)-40:
		return Packet{}, api.ErrForm
	}
	upper, second, e := walkBy(b[40:], int(b[6]), 0)
	if e == api.OK && second {
		e = api.ErrKind
	}
	if e != api.OK {
		return Packet{}, e
	}
	p := Packet{Head: headBy(b), Kind: upper.kind, Body: upper.b}
	p.Final = p.Head.Dst
	if b[6] == 43 {
		s, _, e := srh.Parse(b[40 : 48+8*int(b[41])])
		if e != api.OK {
			return Packet{}, e
		}
		if s.Segs[s.Left] != p.Head.Dst {
			return Packet{}, api.ErrForm
		}
		p.Routed, p.Srh, p.Final = true, s, s.Segs[0]
	}
	return upperBy(p)
}

// upperBy tells the packet with the segment or the message that its Body is, and its error.
func upperBy(p Packet) (Packet, api.Errno) {
	e := api.OK
	b := p.Body
	switch p.Kind {
	case 6:
		p.Tcp, e = tcp.Parse(b)
	case 58:
		if len(b) < 8 {
			return Packet{}, api.ErrShort
		}
		p.Msg = api.Msg{Kind: int(b[0]), Code: int(b[1]), Word: binary.BigEndian.Uint32(b[4:]), Body: b[8:]}
	default:
		e = api.ErrKind
	}
	if e == api.OK && leftBy(p.Head.Src, p.Final, p.Kind, b) != 0 {
		e = api.ErrSum
	}
	if e != api.OK {
		return Packet{}, e
	}
	return p, e
}

// wantBy holds Parse against the other way.
func wantBy(t *testing.T, what string, b []byte) {
	t.Helper()
	p, e := parseBy(b)
	wantParse(t, what, b, p, e)
}

// fromHex tells the bytes of a text of hexadecimal digits.
func fromHex(t *testing.T, s string) []byte {
	t.Helper()
	b, err := hex.DecodeString(s)
	if err != nil {
		t.Fatal(err)
	}
	return b
}

// P13.1

func TestNumberOfTheChapter(t *testing.T) {
	if Hop != 64 {
		t.Errorf("Hop: %d", Hop)
	}
}

func TestParseOfASegment(t *testing.T) {
	src, dst := api.Addr{0: 0x20, 1: 1, 2: 0xd, 3: 0xb8, 15: 1}, api.Addr{0: 0x20, 1: 1, 2: 0xd, 3: 0xb8, 15: 0xff}
	b := fromHex(t, "6a59c3e7001b060720010db800000000000000000000000120010db80000000000000000000000ff"+
		"0fa00050000000010000000260121000921d0000020405dc686921")
	wantParse(t, "a segment", b, Packet{
		Head:  api.Head{Class: 0xa5, Label: 0x9c3e7, Length: 27, Next: 6, Hop: 7, Src: src, Dst: dst},
		Final: dst,
		Kind:  6,
		Tcp: api.Tcp{Sport: 4000, Dport: 80, Seq: 1, Ack: 2, Flags: 18, Window: 4096, Sum: 37405,
			Opts: []api.Opt{{Kind: 2, Data: []byte{5, 220}}}, Payload: []byte("hi!")},
		Body: b[40:],
	}, api.OK)
}

func TestParseOfAMessageByWayOfOthers(t *testing.T) {
	src, dst := api.Addr{0: 0x20, 1: 1, 2: 0xd, 3: 0xb8, 15: 1}, api.Addr{0: 0x20, 1: 1, 2: 0xd, 3: 0xb8, 15: 0xff}
	now := api.Addr{0: 0xfd, 1: 0x6c, 3: 0x62, 9: 3, 10: 5}
	b := fromHex(t, "6000000000332b4020010db8000000000000000000000001fd6c0062000000000003050000000000"+
		"3a04040101c8010220010db80000000000000000000000fffd6c0062000000000003050000000000"+
		"8000133d00010002070809")
	wantParse(t, "a message", b, Packet{
		Head:   api.Head{Length: 51, Next: 43, Hop: 64, Src: src, Dst: now},
		Routed: true,
		Srh:    api.Srh{Next: 58, Left: 1, Flags: 200, Tag: 258, Segs: []api.Addr{dst, now}},
		Final:  dst,
		Kind:   58,
		Msg:    api.Msg{Kind: 128, Word: 65538, Body: []byte{7, 8, 9}},
		Body:   b[80:],
	}, api.OK)
}

// headOf is the fixed header that Parse should tell of a plan whose bytes are b.
func headOf(p plan, b []byte) api.Head {
	h := p.head
	h.Length, h.Next = len(b)-40, int(b[6])
	return h
}

func TestParseOfEachSegment(t *testing.T) {
	for i, s := range segments() {
		for _, e := range ends() {
			laid := segmentBy(e[0], e[1], s)
			p := straight(e[0], e[1], laid)
			b := p.bytes()
			wantParse(t, fmt.Sprint("segment ", i), b, Packet{Head: headOf(p, b), Final: e[1], Kind: 6, Tcp: summed(s, laid), Body: laid.b}, api.OK)
		}
	}
}

func TestParseOfEachMessage(t *testing.T) {
	for i, m := range messages() {
		for _, e := range ends() {
			laid := messageBy(e[0], e[1], m)
			p := straight(e[0], e[1], laid)
			b := p.bytes()
			wantParse(t, fmt.Sprint("message ", i), b, Packet{Head: headOf(p, b), Final: e[1], Kind: 58, Msg: m, Body: laid.b}, api.OK)
		}
	}
}

// Each number of the fixed header is told as it stands there, at its ends, too.
func TestParseOfEachHead(t *testing.T) {
	src, dst := addrs(1, 1)[0], addrs(1, 2)[0]
	laid := messageBy(src, dst, echo())
	for _, class := range []int{0, 1, 128, 255} {
		for _, label := range []int{0, 1, 1 << 19, 1<<20 - 1} {
			for _, hop := range []int{0, 1, 2, 64, 255} {
				p := straight(src, dst, laid)
				p.head.Class, p.head.Label, p.head.Hop = class, label, hop
				b := p.bytes()
				wantParse(t, fmt.Sprint("head ", p.head), b, Packet{Head: headOf(p, b), Final: dst, Kind: 58, Msg: echo(), Body: laid.b}, api.OK)
			}
		}
	}
}

// chains are extension headers that may stand ahead of an upper part behind a routing header.
func chains() [][]part {
	return [][]part{
		nil,
		{ext(60, 1)},
		{ext(60, 2), ext(60, 1)},
		{ext(60, 33)},
		slices.Repeat([]part{ext(60, 1)}, 7),
	}
}

// routedBy is what Parse should tell of a packet from src by way of others whose upper part is a segment.
func routedBy(p plan, b []byte, segs []api.Addr, left int, tlvs []api.Tlv, s api.Tcp) Packet {
	return Packet{
		Head:   headOf(p, b),
		Routed: true,
		Srh:    api.Srh{Next: int(b[40]), Left: left, Flags: 200, Tag: 258, Segs: segs, Tlvs: tlvs},
		Final:  segs[0],
		Kind:   6,
		Tcp:    summed(s, p.upper),
		Body:   p.upper.b,
	}
}

// With a routing header of each count of Segs, at each Left, with parts, and with others behind it.
func TestParseByWayOfOthers(t *testing.T) {
	src := addrs(1, 50)[0]
	for count := 1; count <= 10; count++ {
		for left := range count {
			for i, chain := range chains() {
				for parts, tlvs := range map[string][]api.Tlv{"": nil, "\x05\x01\x09\x04\x03\x00\x00\x00": {{Kind: 5, Data: []byte{9}}}, "\x00\x00\x00\x00\x00\x00\x00\x00": nil} {
					segs := addrs(count, 3*left)
					p := byWay(src, segs, left, []byte(parts), segmentBy(src, segs[0], ordinary()))
					p.exts = append(p.exts, chain...)
					b := p.bytes()
					want := routedBy(p, b, segs, left, tlvs, ordinary())
					wantParse(t, fmt.Sprint("Left ", left, " of ", count, ", chain ", i), b, want, api.OK)
					laid := messageBy(src, segs[0], echo())
					p.upper = laid
					b = p.bytes()
					want.Head, want.Srh.Next = headOf(p, b), int(b[40])
					want.Kind, want.Tcp, want.Msg, want.Body = 58, api.Tcp{}, echo(), laid.b
					wantParse(t, fmt.Sprint("a message, Left ", left, " of ", count, ", chain ", i), b, want, api.OK)
				}
			}
		}
	}
}

// Extension headers without a routing header: Final is Dst.
func TestParseBehindExtensionHeaders(t *testing.T) {
	src, dst := addrs(1, 1)[0], addrs(1, 2)[0]
	laid, said := segmentBy(src, dst, ordinary()), messageBy(src, dst, echo())
	all := append(chains(), slices.Repeat([]part{ext(60, 1)}, 8))
	for _, chain := range chains() {
		all = append(all, append([]part{ext(0, 1)}, chain...), append([]part{ext(0, 5)}, chain...))
	}
	for i, chain := range all {
		p := straight(src, dst, laid)
		p.exts = chain
		b := p.bytes()
		wantParse(t, fmt.Sprint("chain ", i), b, Packet{Head: headOf(p, b), Final: dst, Kind: 6, Tcp: summed(ordinary(), laid), Body: laid.b}, api.OK)
		p.upper = said
		b = p.bytes()
		wantParse(t, fmt.Sprint("a message, chain ", i), b, Packet{Head: headOf(p, b), Final: dst, Kind: 58, Msg: echo(), Body: said.b}, api.OK)
	}
}

// Packets of each length up to 1500 bytes are parsed, and none above.
func TestHowLongAPacketIs(t *testing.T) {
	src, segs := addrs(1, 50)[0], addrs(2, 1)
	for n := range 1600 {
		for _, p := range []plan{straight(src, segs[0], part{}), byWay(src, segs, 1, nil, part{})} {
			ahead := len(p.bytes())
			s, m := api.Tcp{Payload: mixed(max(n-ahead-20, 0), n)}, api.Msg{Kind: 129, Body: mixed(max(n-ahead-8, 0), n)}
			for _, upper := range []part{segmentBy(src, segs[0], s), messageBy(src, segs[0], m)} {
				p.upper = upper
				b := p.bytes()
				if len(b) > 1500 {
					wantError(t, fmt.Sprint(len(b), " bytes"), b, api.ErrLong)
					continue
				}
				wantBy(t, fmt.Sprint(len(b), " bytes"), b)
				if _, e := Parse(b); e != api.OK {
					t.Errorf("%d bytes: %d", len(b), e)
				}
			}
		}
	}
	for _, n := range []int{1501, 1502, 2000, 65575, 65576, 200000} {
		wantError(t, fmt.Sprint(n, " bytes 0"), make([]byte, n), api.ErrLong)
	}
}

// A packet of a fixed header alone has an upper part of no bytes.
func TestPacketOf40Bytes(t *testing.T) {
	for next := range 256 {
		b := straight(addrs(1, 1)[0], addrs(1, 2)[0], part{kind: next}).bytes()
		want := api.ErrKind
		switch next {
		case 0, 6, 43, 58, 60:
			want = api.ErrShort
		}
		wantError(t, fmt.Sprint("40 bytes, Next ", next), b, want)
	}
}

func TestBytesOfNoFixedHeader(t *testing.T) {
	wantError(t, "nil", nil, api.ErrShort)
	wantError(t, "no bytes", []byte{}, api.ErrShort)
	src, dst := addrs(1, 1)[0], addrs(1, 2)[0]
	whole := straight(src, dst, segmentBy(src, dst, ordinary()))
	for n := range 40 {
		wantError(t, fmt.Sprint(n, " bytes"), whole.bytes()[:n], api.ErrShort)
		wantError(t, fmt.Sprint(n, " bytes 0"), make([]byte, n), api.ErrShort)
	}
	for version := range 16 {
		p := whole
		p.version = version
		if version != 6 {
			wantError(t, fmt.Sprint("version ", version), p.bytes(), api.ErrForm)
		}
	}
}

func TestLengthThatDoesNotFit(t *testing.T) {
	src, segs := addrs(1, 50)[0], addrs(3, 1)
	for _, payload := range []int{0, 1, 2, 300, 1372} {
		s := api.Tcp{Payload: mixed(payload, 1)}
		for _, p := range []plan{straight(src, segs[0], segmentBy(src, segs[0], s)), byWay(src, segs, 2, nil, segmentBy(src, segs[0], s))} {
			for _, longer := range []int{-1, 1, -2, 2, 40, -8, 8, 256, 512, 1 << 12} {
				p.longer = longer
				wantError(t, fmt.Sprint("Length ", longer, " more"), p.bytes(), api.ErrForm)
			}
			p.longer = 0
			b := p.bytes()
			wantError(t, "a byte more", append(slices.Clone(b), 0), api.ErrForm)
			wantError(t, "a byte less", b[:len(b)-1], api.ErrForm)
			b[4], b[5] = 0, 0
			wantError(t, "Length 0", b, api.ErrForm)
			b[4], b[5] = 255, 255
			wantError(t, "Length 65535", b, api.ErrForm)
		}
	}
}

// Extension headers that may not stand where they do, that are too many, or end too soon.
func TestHeadersThatCantBeWalked(t *testing.T) {
	src, segs := addrs(1, 50)[0], addrs(2, 1)
	for _, first := range []plan{straight(src, segs[0], part{}), byWay(src, segs, 1, nil, part{}), byWay(src, segs, 0, nil, part{})} {
		first.upper = segmentBy(src, segs[0], ordinary())
		with := func(l ...part) []byte {
			p := first.clone()
			p.exts = append(p.exts, l...)
			return p.bytes()
		}
		wantError(t, "Fragment", with(ext(44, 1)), api.ErrKind)
		wantError(t, "Fragment behind another", with(ext(60, 1), ext(44, 1)), api.ErrKind)
		wantError(t, "HopByHop behind another", with(ext(60, 1), ext(0, 1)), api.ErrForm)
		wantError(t, "9 extension headers", with(slices.Repeat([]part{ext(60, 1)}, 9-len(first.exts))...), api.ErrMany)
		wantError(t, "9 with HopByHop", with(append([]part{ext(60, 1), ext(0, 1)}, slices.Repeat([]part{ext(60, 1)}, 7)...)...), api.ErrForm)
		for n := range 8 {
			p := first.clone()
			p.upper = part{60, ext(60, 1).b[:n]}
			wantError(t, fmt.Sprint("an extension header of ", n, " bytes"), p.bytes(), api.ErrShort)
		}
		for words := 2; words < 60; words++ {
			long := ext(60, words)
			for _, n := range []int{8, 9, 8*words - 8, 8*words - 1} {
				p := first.clone()
				p.upper = part{60, long.b[:n]}
				wantError(t, fmt.Sprint("an extension header of ", n, " bytes that should have ", 8*words), p.bytes(), api.ErrShort)
			}
		}
	}
	// A routing header that ends too soon is no other.
	p := byWay(src, segs, 1, nil, part{})
	for n := range len(p.exts[0].b) {
		q := p.clone()
		q.upper, q.exts = part{43, q.exts[0].b[:n]}, nil
		wantError(t, fmt.Sprint("a routing header of ", n, " bytes"), q.bytes(), api.ErrShort)
	}
}

// A routing header stands right behind the fixed one, or nowhere.
func TestRoutingThatIsNotTheFirst(t *testing.T) {
	src, segs := addrs(1, 50)[0], addrs(2, 1)
	bad := route(segs, 1, nil)
	bad.b[2] = 9
	for left := range segs {
		for _, upper := range []part{segmentBy(src, segs[0], ordinary()), messageBy(src, segs[0], echo()), {17, mixed(9, 1)}} {
			for i, chain := range [][]part{
				{ext(60, 1), route(segs, left, nil)},
				{ext(0, 1), route(segs, left, nil)},
				{ext(0, 1), ext(60, 3), route(segs, left, nil), ext(60, 1)},
				{route(segs, left, nil), route(segs, left, nil)},
				{route(segs, left, nil), ext(60, 1), route(segs, left, nil)},
				{route(segs, left, nil), bad},
				{bad, route(segs, left, nil)},
				{ext(60, 1), bad},
				append(slices.Repeat([]part{ext(60, 1)}, 7), route(segs, left, nil)),
			} {
				p := straight(src, segs[left], upper)
				p.exts = chain
				wantError(t, fmt.Sprint("chain ", i), p.bytes(), api.ErrKind)
			}
		}
	}
}

// srh.Parse's errors, of the bytes of the routing header alone.
func TestRoutingThatCantBeParsed(t *testing.T) {
	src := addrs(1, 50)[0]
	for count := 1; count <= 10; count++ {
		segs := addrs(count, 1)
		for _, upper := range []part{segmentBy(src, segs[0], ordinary()), messageBy(src, segs[0], echo())} {
			with := func(at, to int) []byte {
				p := byWay(src, segs, count-1, make([]byte, 16), upper).clone()
				p.exts[0].b[at] = byte(to)
				return p.bytes()
			}
			for kind := range 256 {
				if kind != 4 {
					wantError(t, fmt.Sprint("Type ", kind), with(2, kind), api.ErrKind)
				}
			}
			for last := 10; last < 256; last++ {
				wantError(t, fmt.Sprint(last+1, " Segs"), with(4, last), api.ErrMany)
			}
			for left := count; left < 256; left++ {
				wantError(t, fmt.Sprint("Left ", left, " of ", count), with(3, left), api.ErrForm)
			}
			if count+1 < 10 {
				wantError(t, fmt.Sprint("no room for ", count+2, " Segs"), with(4, count+1), api.ErrForm)
			}
			wantError(t, "a part without a length", with(8+16*count+15, 9), api.ErrShort)
			cut := byWay(src, segs, count-1, []byte{0, 0, 0, 0, 5, 3, 1, 1}, upper)
			wantError(t, "a part that is cut", cut.bytes(), api.ErrShort)
		}
		p := straight(src, segs[0], segmentBy(src, segs[0], ordinary()))
		p.exts = []part{{43, []byte{0, 0, 4, 0, 0, 0, 0, 0}}}
		wantError(t, "a routing header of 8 bytes", p.bytes(), api.ErrForm)
	}
}

// What stands behind the routing header is no room of it, and none of its parts' bytes.
func TestPartsEndWithTheirHeader(t *testing.T) {
	src, segs := addrs(1, 50)[0], addrs(2, 1)
	parts := []byte{0, 0, 0, 0, 0, 0, 9, 1}
	p := byWay(src, segs, 1, parts, segmentBy(src, segs[0], ordinary()))
	wantError(t, "a part whose Data would be the segment's", p.bytes(), api.ErrShort)
	p.exts[0].b[47] = 0
	wantBy(t, "a part without Data", p.bytes())
	if _, e := Parse(p.bytes()); e != api.OK {
		t.Errorf("a part without Data: %d", e)
	}
}

// Dst is where the routing header says that the packet goes now, and no other of its Segs.
func TestDstThatIsNotActive(t *testing.T) {
	src := addrs(1, 50)[0]
	for count := 1; count <= 10; count++ {
		segs := addrs(count, 1)
		for left := range count {
			for _, upper := range []part{segmentBy(src, segs[0], ordinary()), messageBy(src, segs[0], echo())} {
				p := byWay(src, segs, left, nil, upper)
				for bit := range 128 {
					q := p
					q.head.Dst[bit/8] ^= 1 << (bit % 8)
					wantError(t, fmt.Sprint("bit ", bit, " of Dst"), q.bytes(), api.ErrForm)
				}
				for other := range count {
					q := p.clone()
					q.exts[0].b[3] = byte(other)
					if other != left {
						wantError(t, fmt.Sprint("Dst is ", left, ", Left ", other), q.bytes(), api.ErrForm)
					}
				}
				for _, dst := range []api.Addr{{}, src, full()} {
					q := p
					q.head.Dst = dst
					wantError(t, "another Dst", q.bytes(), api.ErrForm)
				}
			}
		}
	}
}

// Where Segs are the same, Dst is all of them.
func TestSegsThatAreTheSame(t *testing.T) {
	src := addrs(1, 50)[0]
	segs := slices.Repeat(addrs(1, 1), 3)
	for left := range 3 {
		p := byWay(src, segs, left, nil, segmentBy(src, segs[0], ordinary()))
		b := p.bytes()
		wantParse(t, fmt.Sprint("Left ", left), b, routedBy(p, b, segs, left, nil, ordinary()), api.OK)
	}
}

func TestUpperPartOfAnotherKind(t *testing.T) {
	src, segs := addrs(1, 50)[0], addrs(2, 1)
	for kind := range 256 {
		switch kind {
		case 0, 43, 44, 60, 6, 58:
			continue
		}
		for _, b := range [][]byte{nil, {1}, segmentBy(src, segs[0], ordinary()).b, messageBy(src, segs[0], echo()).b, mixed(1000, kind)} {
			for _, p := range []plan{straight(src, segs[0], part{kind, b}), byWay(src, segs, 1, nil, part{kind, b})} {
				wantError(t, fmt.Sprint("upper part of kind ", kind), p.bytes(), api.ErrKind)
				p.exts = append(p.exts, ext(60, 1))
				wantError(t, fmt.Sprint("upper part of kind ", kind, " behind another"), p.bytes(), api.ErrKind)
			}
		}
	}
}

// A segment as a message, and a message as a segment: their sums are of their kinds.
func TestUpperPartsOfOneAnothersKind(t *testing.T) {
	src, dst := addrs(1, 1)[0], addrs(1, 2)[0]
	s := segmentBy(src, dst, ordinary())
	wantError(t, "a segment as a message", straight(src, dst, part{58, s.b}).bytes(), api.ErrSum)
	m := messageBy(src, dst, api.Msg{Kind: 128, Body: append([]byte{0, 0, 0, 0, 0x50}, make([]byte, 11)...)})
	wantError(t, "a message as a segment", straight(src, dst, part{6, m.b}).bytes(), api.ErrSum)
}

// tcp.Parse's errors stand ahead of a wrong sum.
func TestSegmentsThatCantBeParsed(t *testing.T) {
	src, segs := addrs(1, 50)[0], addrs(2, 1)
	whole := segmentBy(src, segs[0], api.Tcp{Opts: []api.Opt{{Kind: 2, Data: []byte{5, 220}}}})
	for _, p := range []plan{straight(src, segs[0], part{}), byWay(src, segs, 1, nil, part{})} {
		with := func(at, to int) []byte {
			p.upper = part{6, slices.Clone(whole.b)}
			p.upper.b[at] = byte(to)
			return p.bytes()
		}
		for n := range 20 {
			p.upper = part{6, whole.b[:n]}
			wantError(t, fmt.Sprint("a segment of ", n, " bytes"), p.bytes(), api.ErrShort)
		}
		for words := range 16 {
			for low := 1; low < 16; low++ {
				wantError(t, fmt.Sprint("lower bits ", low), with(12, words<<4|low), api.ErrForm)
			}
			if words < 5 {
				wantError(t, fmt.Sprint(words, " words"), with(12, words<<4), api.ErrForm)
			}
			if words > 6 {
				wantError(t, fmt.Sprint(words, " words"), with(12, words<<4), api.ErrShort)
			}
		}
		wantError(t, "an option that is too long", with(21, 5), api.ErrShort)
		wantError(t, "an option that is too short", with(21, 1), api.ErrForm)
		wantError(t, "an option of another kind's length", with(20, 3), api.ErrForm)
		wantError(t, "bytes behind the end", with(20, 0), api.ErrForm)
	}
}

func TestMessagesThatCantBeParsed(t *testing.T) {
	src, segs := addrs(1, 50)[0], addrs(2, 1)
	whole := messageBy(src, segs[0], echo())
	for _, p := range []plan{straight(src, segs[0], part{}), byWay(src, segs, 1, nil, part{})} {
		for n := range 8 {
			p.upper = part{58, whole.b[:n]}
			wantError(t, fmt.Sprint("a message of ", n, " bytes"), p.bytes(), api.ErrShort)
		}
		for n := 8; n < len(whole.b); n++ {
			p.upper = part{58, whole.b[:n]}
			wantError(t, fmt.Sprint("a message of ", n, " bytes"), p.bytes(), api.ErrSum)
		}
	}
}

// uppers are upper parts, with the place of their sum, and from which place on each bit may be another one.
func uppers(src, dst api.Addr) []struct {
	part
	sum, rest int
} {
	long := api.Tcp{Payload: mixed(700, 1)}
	return []struct {
		part
		sum, rest int
	}{
		{segmentBy(src, dst, ordinary()), 16, 28},
		{segmentBy(src, dst, long), 16, 20},
		{messageBy(src, dst, echo()), 2, 4},
		{messageBy(src, dst, api.Msg{Kind: 3, Body: mixed(700, 2)}), 2, 4},
	}
}

func TestABitOfTheSumOrOfThePayload(t *testing.T) {
	src, segs := addrs(1, 50)[0], addrs(3, 1)
	for i, u := range uppers(src, segs[0]) {
		for _, p := range []plan{straight(src, segs[0], u.part), byWay(src, segs, 2, nil, u.part), byWay(src, segs, 0, nil, u.part)} {
			for bit := range 8 * len(u.b) {
				at := bit / 8
				if at < u.rest && at != u.sum && at != u.sum+1 {
					continue
				}
				q := p.clone()
				q.upper.b[at] ^= 1 << (bit % 8)
				wantError(t, fmt.Sprint("part ", i, ", bit ", bit), q.bytes(), api.ErrSum)
			}
			for _, b := range [][]byte{append(slices.Clone(u.b), 1), u.b[:len(u.b)-1]} {
				q := p
				q.upper.b = b
				wantError(t, fmt.Sprint("part ", i, ", of ", len(b), " bytes"), q.bytes(), api.ErrSum)
			}
		}
	}
}

// The sum is one from Src to where the packet goes at last, not to where it goes now.
func TestSumForAnother(t *testing.T) {
	src := addrs(1, 50)[0]
	for count := 1; count <= 10; count++ {
		segs := addrs(count, 1)
		for left := range count {
			for to := range count {
				for _, u := range uppers(src, segs[to]) {
					want := api.ErrSum
					if to == 0 {
						want = api.OK
					}
					b := byWay(src, segs, left, nil, u.part).bytes()
					if _, e := Parse(b); e != want {
						t.Errorf("Left %d, a sum for %d: %d, want %d", left, to, e, want)
					}
					wantBy(t, fmt.Sprint("Left ", left, ", a sum for ", to), b)
				}
			}
			for _, u := range uppers(segs[0], segs[0]) {
				wantError(t, "a sum from another", byWay(src, segs, left, nil, u.part).bytes(), api.ErrSum)
			}
		}
	}
}

// Each bit of a packet, held against the other way.
func TestEachBit(t *testing.T) {
	src, segs := addrs(1, 50)[0], addrs(2, 1)
	for i, u := range uppers(src, segs[0])[:3] {
		for _, p := range []plan{straight(src, segs[0], u.part), byWay(src, segs, 1, []byte{5, 1, 9, 4, 3, 0, 0, 0}, u.part)} {
			p.exts = append(p.exts, ext(60, 2))
			b := p.bytes()
			for bit := range 8 * min(len(b), 200) {
				bad := slices.Clone(b)
				bad[bit/8] ^= 1 << (bit % 8)
				wantBy(t, fmt.Sprint("part ", i, ", bit ", bit), bad)
			}
			for n := range len(b) {
				bad := slices.Clone(b[:n])
				wantBy(t, fmt.Sprint("part ", i, ", ", n, " bytes"), bad)
				if n >= 40 {
					binary.BigEndian.PutUint16(bad[4:], uint16(n-40))
					wantBy(t, fmt.Sprint("part ", i, ", ", n, " bytes, with that Length"), bad)
				}
			}
		}
	}
}

// flaw is something that may be wrong in a packet, in which place of the order of errors it stands, and how it is made.
type flaw struct {
	what  string
	place int
	want  api.Errno
	make  func(*plan)
}

// commonFlaws are those that each packet may have.
func commonFlaws() []flaw {
	return []flaw{
		{"1501 bytes", 1, api.ErrLong, func(p *plan) { p.upper.b = append(p.upper.b, make([]byte, 1501-len(p.bytes()))...) }},
		{"70000 bytes", 1, api.ErrLong, func(p *plan) { p.upper.b = append(p.upper.b, make([]byte, 70000)...) }},
		{"version 4", 2, api.ErrForm, func(p *plan) { p.version = 4 }},
		{"Length 1 more", 3, api.ErrForm, func(p *plan) { p.longer = 1 }},
		{"Length 1 less", 3, api.ErrForm, func(p *plan) { p.longer = -1 }},
		{"Fragment", 4, api.ErrKind, func(p *plan) { p.exts = append(p.exts, ext(44, 1)) }},
		{"HopByHop", 4, api.ErrForm, func(p *plan) { p.exts = append(p.exts, ext(60, 1), ext(0, 1)) }},
		{"9 extension headers", 4, api.ErrMany, func(p *plan) { p.exts = append(p.exts, slices.Repeat([]part{ext(60, 1)}, 9)...) }},
		{"a header that ends too soon", 4, api.ErrShort, func(p *plan) {
			long := ext(60, 1)
			long.b[1] = 255
			p.exts = append(p.exts, long)
		}},
		{"a routing header that is not the first", 5, api.ErrKind, func(p *plan) {
			p.exts = append(p.exts, ext(60, 1), route(addrs(1, 3), 0, nil))
		}},
		{"kind 17", 8, api.ErrKind, func(p *plan) { p.upper.kind = 17 }},
		{"NoNext", 8, api.ErrKind, func(p *plan) { p.upper.kind = 59 }},
		{"an upper part of no bytes", 9, api.ErrShort, func(p *plan) { p.upper.b = nil }},
		{"an upper part of 7 bytes", 9, api.ErrShort, func(p *plan) { p.upper.b = p.upper.b[:7] }},
		{"another last byte", 10, api.ErrSum, func(p *plan) { p.upper.b[len(p.upper.b)-1] ^= 1 }},
		{"another Src", 10, api.ErrSum, func(p *plan) { p.head.Src[3] ^= 1 }},
	}
}

// setRoute is a change of a byte of the routing header, counted from its end where at is below 0.
func setRoute(at int, to byte) func(*plan) {
	return func(p *plan) {
		b := p.exts[0].b
		b[(at+len(b))%len(b)] = to
	}
}

// routeFlaws are those of packets with a routing header of 3 Segs and 8 bytes of parts, at Left 1.
func routeFlaws() []flaw {
	return []flaw{
		{"Type 3", 6, api.ErrKind, setRoute(2, 3)},
		{"11 Segs", 6, api.ErrMany, setRoute(4, 10)},
		{"Left 3", 6, api.ErrForm, setRoute(3, 3)},
		{"a part without a length", 6, api.ErrShort, setRoute(-1, 9)},
		{"no room for Segs", 6, api.ErrForm, func(p *plan) { p.exts[0].b = append([]byte{0, 0}, p.exts[0].b[2:8]...) }},
		{"another Dst", 7, api.ErrForm, func(p *plan) { p.head.Dst[15] ^= 1 }},
		{"another Left", 7, api.ErrForm, setRoute(3, 2)},
		{"Left 0", 7, api.ErrForm, setRoute(3, 0)},
	}
}

// segmentFlaws are those of packets with a segment that has options.
func segmentFlaws() []flaw {
	set := func(at int, to byte) func(*plan) { return func(p *plan) { p.upper.b[at] = to } }
	return []flaw{
		{"a segment of 19 bytes", 9, api.ErrShort, func(p *plan) { p.upper.b = p.upper.b[:19] }},
		{"lower bits that are not 0", 9, api.ErrForm, set(12, 0x71)},
		{"4 words", 9, api.ErrForm, set(12, 0x40)},
		{"15 words", 9, api.ErrShort, set(12, 0xf0)},
		{"options that can't be", 9, api.ErrForm, set(21, 1)},
		{"another sum", 10, api.ErrSum, func(p *plan) { p.upper.b[16] ^= 128 }},
	}
}

// wantPairs holds Parse of packets with one flaw, and with each two of them, against the one that comes first.
func wantPairs(t *testing.T, all []flaw, spots []plan) {
	t.Helper()
	for i, spot := range spots {
		if _, e := Parse(spot.bytes()); e != api.OK {
			t.Errorf("packet %d without a flaw: %d", i, e)
		}
		for _, x := range all {
			for _, y := range all {
				if x.place > y.place || x.place == y.place && x.what != y.what {
					continue
				}
				p := spot.clone()
				// The lesser one is made last, since it may cut the bytes.
				if x.place < y.place {
					y.make(&p)
				}
				x.make(&p)
				what := fmt.Sprint(x.what, ", and ", y.what, ", in ", i)
				wantError(t, what, p.bytes(), x.want)
				if x.place > 2 {
					p.most = 39
					wantError(t, what+", of 39 bytes", p.bytes(), api.ErrShort)
				}
			}
		}
	}
}

func TestWhichErrorOfAPacket(t *testing.T) {
	src, segs := addrs(1, 50)[0], addrs(3, 1)
	s, m := segmentBy(src, segs[0], ordinary()), messageBy(src, segs[0], echo())
	direct := func(upper part) []plan {
		p, q := straight(src, segs[0], upper), straight(src, segs[0], upper)
		q.exts = []part{ext(0, 1), ext(60, 2)}
		return []plan{p, q}
	}
	led := func(upper part) []plan {
		p, q := byWay(src, segs, 1, make([]byte, 8), upper), byWay(src, segs, 1, make([]byte, 8), upper)
		q.exts = append(q.exts, ext(60, 2))
		return []plan{p, q}
	}
	wantPairs(t, commonFlaws(), direct(m))
	wantPairs(t, append(commonFlaws(), segmentFlaws()...), direct(s))
	wantPairs(t, append(commonFlaws(), routeFlaws()...), led(m))
	wantPairs(t, append(append(commonFlaws(), routeFlaws()...), segmentFlaws()...), led(s))
}

// P13.2

// madeBy is the packet that should be made with an upper part.
func madeBy(src, dst api.Addr, upper part) []byte {
	p := straight(src, dst, upper)
	p.head.Class, p.head.Label, p.head.Hop = 0, 0, 64
	return p.bytes()
}

func TestTcp(t *testing.T) {
	src, dst := api.Addr{0: 0x20, 1: 1, 2: 0xd, 3: 0xb8, 15: 1}, api.Addr{0: 0x20, 1: 1, 2: 0xd, 3: 0xb8, 15: 0xff}
	want := fromHex(t, "60000000001b064020010db800000000000000000000000120010db80000000000000000000000ff"+
		"0fa00050000000010000000260121000921d0000020405dc686921")
	s := api.Tcp{Sport: 4000, Dport: 80, Seq: 1, Ack: 2, Flags: 18, Window: 4096, Opts: []api.Opt{{Kind: 2, Data: []byte{5, 220}}}, Payload: []byte("hi!")}
	wantTcp(t, "a segment", src, dst, s, want, api.OK)
}

// Example 1: a segment without payload makes 60 bytes.
func TestTcpWithoutPayload(t *testing.T) {
	b, e := Tcp(api.Addr{}, api.Addr{}, api.Tcp{})
	if len(b) != 60 || e != api.OK {
		t.Errorf("%v %d, want 60 bytes", b, e)
	}
}

func TestTcpOfEachSegment(t *testing.T) {
	for i, s := range segments() {
		for _, e := range ends() {
			want := madeBy(e[0], e[1], segmentBy(e[0], e[1], s))
			// Whatever Sum it has, it is sealed.
			for _, sum := range []int{0, 1, 258, 65534, 65535} {
				s.Sum = sum
				wantTcp(t, fmt.Sprint("segment ", i, ", Sum ", sum), e[0], e[1], s, want, api.OK)
			}
		}
	}
}

func TestIcmp(t *testing.T) {
	src, dst := api.Addr{0: 0x20, 1: 1, 2: 0xd, 3: 0xb8, 15: 1}, api.Addr{0: 0x20, 1: 1, 2: 0xd, 3: 0xb8, 15: 0xff}
	want := fromHex(t, "60000000000b3a4020010db800000000000000000000000120010db80000000000000000000000ff"+"8000133d00010002070809")
	wantIcmp(t, "a message", src, dst, api.Msg{Kind: 128, Word: 65538, Body: []byte{7, 8, 9}}, want, api.OK)
	b, e := Icmp(src, dst, api.Msg{})
	if len(b) != 48 || e != api.OK {
		t.Errorf("without Body: %v %d, want 48 bytes", b, e)
	}
}

func TestIcmpOfEachMessage(t *testing.T) {
	for i, m := range messages() {
		for _, e := range ends() {
			wantIcmp(t, fmt.Sprint("message ", i), e[0], e[1], m, madeBy(e[0], e[1], messageBy(e[0], e[1], m)), api.OK)
		}
	}
}

// Packets of just 1500 bytes are made, and none above.
func TestHowLongAPacketIsMade(t *testing.T) {
	src, dst := addrs(1, 1)[0], addrs(1, 2)[0]
	for _, opts := range [][]api.Opt{nil, {{Kind: 1}}, {{Kind: 2, Data: []byte{5, 220}}}, slices.Repeat([]api.Opt{{Kind: 1}}, 40)} {
		ahead := 60 + len(optsBy(opts))
		for _, n := range []int{1200, 1498, 1499, 1500, 1501, 1502, 1503, 1504, 2000, 3000, 65535, 65575, 65576, 65600, 131112, 200000} {
			s := api.Tcp{Flags: 24, Opts: opts, Payload: mixed(n-ahead, n)}
			if n > 1500 {
				wantTcp(t, fmt.Sprint(n, " bytes"), src, dst, s, nil, api.ErrLong)
				continue
			}
			wantTcp(t, fmt.Sprint(n, " bytes"), src, dst, s, madeBy(src, dst, segmentBy(src, dst, s)), api.OK)
		}
	}
	for _, n := range []int{1200, 1498, 1499, 1500, 1501, 1502, 1503, 2000, 3000, 65535, 65575, 65576, 65600, 131112, 200000} {
		m := api.Msg{Kind: 128, Body: mixed(n-48, n)}
		if n > 1500 {
			wantIcmp(t, fmt.Sprint(n, " bytes"), src, dst, m, nil, api.ErrLong)
			continue
		}
		wantIcmp(t, fmt.Sprint(n, " bytes"), src, dst, m, madeBy(src, dst, messageBy(src, dst, m)), api.OK)
	}
}

// wrongSegments are segments that can't be, and the error of each.
func wrongSegments() []struct {
	s api.Tcp
	e api.Errno
} {
	var l []struct {
		s api.Tcp
		e api.Errno
	}
	add := func(s api.Tcp, e api.Errno) {
		l = append(l, struct {
			s api.Tcp
			e api.Errno
		}{s, e})
	}
	for _, n := range []int{-1, -65536, 65536, 65537, 1 << 32, math.MinInt, math.MaxInt} {
		for _, of := range []func(*api.Tcp) *int{
			func(s *api.Tcp) *int { return &s.Sport },
			func(s *api.Tcp) *int { return &s.Dport },
			func(s *api.Tcp) *int { return &s.Window },
			func(s *api.Tcp) *int { return &s.Sum },
			func(s *api.Tcp) *int { return &s.Urgent },
			func(s *api.Tcp) *int { return &s.Flags },
		} {
			s := ordinary()
			*of(&s) = n
			add(s, api.ErrArg)
		}
	}
	s := ordinary()
	s.Flags = 256
	add(s, api.ErrArg)
	for _, c := range []struct {
		opts []api.Opt
		e    api.Errno
	}{
		{[]api.Opt{{}}, api.ErrArg},
		{[]api.Opt{{Kind: 256}}, api.ErrArg},
		{[]api.Opt{{Kind: 2, Data: []byte{5}}}, api.ErrForm},
		{[]api.Opt{{Kind: 1, Data: []byte{0}}}, api.ErrForm},
		{slices.Repeat([]api.Opt{{Kind: 1}}, 41), api.ErrMany},
		{[]api.Opt{{Kind: 9, Data: mixed(39, 1)}}, api.ErrMany},
	} {
		s := ordinary()
		s.Opts = c.opts
		add(s, c.e)
	}
	return l
}

// tcp.Can's error stands ahead of ErrLong.
func TestTcpOfSegmentsThatCantBe(t *testing.T) {
	src, dst := addrs(1, 1)[0], addrs(1, 2)[0]
	for i, c := range wrongSegments() {
		for _, n := range []int{0, 3, 1440, 1441, 1460, 1461, 65515, 65516, 100000} {
			c.s.Payload = mixed(n, i)
			wantTcp(t, fmt.Sprint("segment ", i, " with ", n, " bytes"), src, dst, c.s, nil, c.e)
		}
	}
}

// ErrArg stands ahead of ErrLong.
func TestIcmpOfMessagesThatCantBe(t *testing.T) {
	src, dst := addrs(1, 1)[0], addrs(1, 2)[0]
	for _, no := range []int{-1, -2, -128, -256, 256, 257, 384, 512, 65536 + 128, 1 << 32, math.MinInt, math.MinInt + 128, math.MaxInt} {
		for _, n := range []int{0, 3, 1452, 1453, 100000} {
			wantIcmp(t, fmt.Sprint("Kind ", no), src, dst, api.Msg{Kind: no, Body: mixed(n, 1)}, nil, api.ErrArg)
			wantIcmp(t, fmt.Sprint("Code ", no), src, dst, api.Msg{Kind: 128, Code: no, Body: mixed(n, 1)}, nil, api.ErrArg)
			wantIcmp(t, fmt.Sprint("Kind and Code ", no), src, dst, api.Msg{Kind: no, Code: no, Body: mixed(n, 1)}, nil, api.ErrArg)
		}
	}
}

// P13.3

func TestReason(t *testing.T) {
	// The numbers are written out here, so that a reason by another name is seen.
	for e, want := range []int{0, 2, 2, 1, 10, 2, 3, 4, 2, 2, 2, 2, 2, 9, 2} {
		if got := Reason(api.Errno(e)); got != want {
			t.Errorf("Reason(%d): %d, want %d", e, got, want)
		}
	}
	for e, want := range map[api.Errno]int{api.OK: 0, api.ErrShort: api.DropShort, api.ErrSum: api.DropSum, api.ErrKind: api.DropKind,
		api.ErrLong: api.DropBig, api.ErrHop: api.DropHop, api.ErrForm: api.DropForm, api.ErrTwice: api.DropForm} {
		if got := Reason(e); got != want {
			t.Errorf("Reason(%d): %d, want %d", e, got, want)
		}
	}
}

func TestReasonOfNoError(t *testing.T) {
	for _, e := range []api.Errno{-1, -2, -3, -13, -256, 15, 16, 99, 256, 259, 65536, 1 << 32, 1<<32 + 3, 1<<32 + 7, math.MinInt, math.MinInt + 3, math.MaxInt, math.MaxInt - 1} {
		if got := Reason(e); got != 2 {
			t.Errorf("Reason(%d): %d, want 2", e, got)
		}
	}
	for e := -1000; e < 1000; e++ {
		if got := Reason(api.Errno(e)); (e < 0 || e > 14) && got != 2 {
			t.Errorf("Reason(%d): %d, want 2", e, got)
		}
	}
}

// P13.4

// wantMadeIsParsed holds packets that were made against what Parse tells of them.
func wantMadeIsParsed(t *testing.T, what string, src, dst api.Addr, s api.Tcp, m api.Msg) {
	t.Helper()
	b, e := Tcp(src, dst, s)
	p, f := Parse(b)
	s.Sum = p.Tcp.Sum
	h := api.Head{Length: len(b) - 40, Next: 6, Hop: 64, Src: src, Dst: dst}
	if e != api.OK || f != api.OK || !equal(p, Packet{Head: h, Final: dst, Kind: 6, Tcp: s, Body: b[40:]}) {
		t.Errorf("%s: made %v %d, parsed %v %d", what, b, e, p, f)
	}
	b, e = Icmp(src, dst, m)
	p, f = Parse(b)
	h.Length, h.Next = len(b)-40, 58
	if e != api.OK || f != api.OK || !equal(p, Packet{Head: h, Final: dst, Kind: 58, Msg: m, Body: b[40:]}) {
		t.Errorf("%s: made %v %d, parsed %v %d", what, b, e, p, f)
	}
}

func TestMadeIsParsed(t *testing.T) {
	for i, s := range segments() {
		for j, e := range ends() {
			wantMadeIsParsed(t, fmt.Sprint(i, " between ", j), e[0], e[1], s, messages()[i%256])
		}
	}
	for n := 0; n <= 1440; n += 7 {
		wantMadeIsParsed(t, fmt.Sprint(n, " bytes"), addrs(1, n)[0], addrs(1, n+1)[0], api.Tcp{Payload: mixed(n, n)}, api.Msg{Kind: 129, Body: mixed(n+12, n)})
	}
}

// wantOnWay holds a packet against what is parsed of it at each step of its way.
func wantOnWay(t *testing.T, b []byte, via []api.Addr, parts []api.Tlv) {
	t.Helper()
	was, e := Parse(b)
	if e != api.OK {
		t.Fatalf("%v: %d", b, e)
	}
	there, e := detour.Insert(b, via, parts)
	for step := 0; e == api.OK; step++ {
		p, f := Parse(there)
		want := was
		want.Head = api.Head{Length: len(there) - 40, Next: 43, Hop: 64 - step, Src: was.Head.Src, Dst: was.Head.Dst}
		want.Routed, want.Srh = true, api.Srh{Next: was.Kind, Left: len(via) - step, Segs: []api.Addr{was.Head.Dst}, Tlvs: parts}
		for i := range via {
			want.Srh.Segs = append(want.Srh.Segs, via[len(via)-1-i])
		}
		if step < len(via) {
			want.Head.Dst = via[step]
		}
		if f != api.OK || !equal(p, want) {
			t.Errorf("by way of %d, step %d: %v %d, want %v", len(via), step, p, f, want)
		}
		straight, _ := detour.Remove(there)
		q, f := Parse(straight)
		want = was
		want.Head.Hop -= step
		if f != api.OK || !equal(q, want) {
			t.Errorf("by way of %d, taken out at step %d: %v %d, want %v", len(via), step, q, f, want)
		}
		there, e = detour.Advance(there)
	}
	if e != api.ErrNone {
		t.Errorf("by way of %d: %d", len(via), e)
	}
}

func TestSentByWayOfOthers(t *testing.T) {
	for count := 1; count <= 9; count++ {
		for i, e := range ends() {
			for _, parts := range [][]api.Tlv{nil, {{Kind: 5, Data: []byte{9}}}, {{Kind: 1}, {Kind: 255, Data: mixed(200, 1)}}} {
				for _, s := range segments()[:12] {
					b, _ := Tcp(e[0], e[1], s)
					wantOnWay(t, b, addrs(count, i), parts)
				}
				for _, n := range []int{0, 1, 900} {
					b, _ := Icmp(e[0], e[1], api.Msg{Kind: 128, Word: uint32(n), Body: mixed(n, i)})
					wantOnWay(t, b, addrs(count, i), parts)
				}
			}
		}
	}
}

// The longest packet that goes by way of others is one of just 1500 bytes then.
func TestLongestByWayOfOthers(t *testing.T) {
	src, dst := addrs(1, 1)[0], addrs(1, 2)[0]
	for count := 1; count <= 9; count++ {
		n := 1500 - 40 - 20 - 24 - 16*count
		b, _ := Tcp(src, dst, api.Tcp{Payload: mixed(n, count)})
		wantOnWay(t, b, addrs(count, 3), nil)
		out, _ := detour.Insert(b, addrs(count, 3), nil)
		if len(out) != 1500 {
			t.Errorf("by way of %d: %d bytes", count, len(out))
		}
	}
}

// dealt tells a packet of a plan that dice throw, at times changed, cut short or with bytes behind.
func dealt(seed int) []byte {
	dice := mixed(60, seed+700000)
	src, segs := addrs(1, seed)[0], addrs(int(dice[0])%4+1, seed+1)
	dst := segs[0]
	if dice[1]%8 == 0 {
		dst = segs[len(segs)-1]
	}
	upper := segmentBy(src, dst, api.Tcp{Flags: int(dice[2]), Opts: []api.Opt{{Kind: 9, Data: mixed(int(dice[3])%10, seed)}}, Payload: mixed(int(dice[4])%50, seed)})
	if dice[5]%2 == 0 {
		upper = messageBy(src, dst, api.Msg{Kind: int(dice[6]), Code: int(dice[7]), Word: uint32(seed), Body: mixed(int(dice[8])%50, seed)})
	}
	p := straight(src, segs[0], upper)
	if dice[9]%3 > 0 {
		p = byWay(src, segs, int(dice[10])%len(segs), make([]byte, dice[11]%3*8), upper)
	}
	for i := range int(dice[12]) % 12 {
		p.exts = append(p.exts, ext([]int{60, 60, 60, 60, 60, 60, 60, 60, 60, 60, 0, 43}[dice[13+i]%12], int(dice[25+i])%3+1))
	}
	if dice[40]%8 == 0 {
		p.upper.kind = int(dice[41]) % 64
	}
	if dice[42]%8 == 0 && len(p.exts) > 0 {
		x := p.exts[int(dice[43])%len(p.exts)].b
		x[int(dice[44])%min(len(x), 8)] = dice[45] % 12
	}
	if dice[46]%8 == 0 {
		p.upper.b = p.upper.b[:int(dice[47])%len(p.upper.b)]
	}
	if dice[48]%16 == 0 {
		p.longer = int(dice[49]%5) - 2
	}
	if dice[50]%32 == 0 {
		p.upper.b = append(p.upper.b, make([]byte, 1400)...)
	}
	b := p.bytes()
	if dice[51]%4 == 0 {
		b[int(dice[52])%len(b)] ^= 1 << (dice[53] % 8)
	}
	if dice[54]%16 == 0 {
		b = b[:int(dice[55])%(len(b)+1)]
	}
	return b
}

func TestManyPackets(t *testing.T) {
	met := map[api.Errno]int{}
	for seed := range 40000 {
		b := dealt(seed)
		wantBy(t, fmt.Sprint("packet ", seed), b)
		_, e := parseBy(b)
		met[e]++
	}
	for _, e := range []api.Errno{api.OK, api.ErrShort, api.ErrLong, api.ErrForm, api.ErrSum, api.ErrKind, api.ErrMany} {
		if met[e] < 100 {
			t.Errorf("the packets hold error %d but %d times", e, met[e])
		}
	}
}

// R1: no call panics, whatever it is given; beside an error there is nothing.
func TestWhateverIsGiven(t *testing.T) {
	for seed := range 2000 {
		for _, size := range []int{0, 1, 8, 39, 40, 41, 47, 48, 60, 100, 300, 1500, 1501} {
			b := mixed(size, seed)
			wantBy(t, "bytes of no order", b)
			if size < 40 {
				continue
			}
			b[0] = 0x60
			binary.BigEndian.PutUint16(b[4:], uint16(size-40))
			wantBy(t, "bytes of version 6", b)
			for _, next := range []byte{0, 6, 43, 58, 60} {
				b[6] = next
				wantBy(t, "bytes of an upper part or a header", b)
			}
			for at := 40; at+1 < size; at += 8 {
				b[at], b[at+1] = []byte{6, 58, 60, 60, 43, 60}[b[at]%6], b[at+1]%3
			}
			for _, next := range []byte{0, 43, 60} {
				b[6] = next
				wantBy(t, "bytes of headers", b)
			}
		}
	}
}

func TestWhateverIsToBeMade(t *testing.T) {
	numbers := []int{math.MinInt, -65536, -1, 0, 1, 255, 256, 65535, 65536, math.MaxInt}
	for i, x := range numbers {
		for j, y := range numbers {
			for _, n := range []int{0, 3, 1452, 1453, 100000} {
				m := api.Msg{Kind: x, Code: y, Body: make([]byte, n)}
				b, e := Icmp(full(), api.Addr{}, m)
				if fine := i > 2 && i < 6 && j > 2 && j < 6 && n <= 1452; fine != (e == api.OK) || fine != (len(b) > 0) {
					t.Errorf("Kind %d, Code %d, %d bytes: %d bytes, %d", x, y, n, len(b), e)
				}
			}
			s := api.Tcp{Sport: x, Dport: y, Flags: y, Window: x, Sum: x, Urgent: x}
			b, e := Tcp(api.Addr{}, full(), s)
			if fine := i > 2 && i < 8 && j > 2 && j < 6; fine != (e == api.OK) || fine != (len(b) > 0) {
				t.Errorf("%v: %v %d", s, b, e)
			}
		}
	}
	for _, s := range []api.Tcp{{Opts: make([]api.Opt, 100000)}, {Opts: []api.Opt{{Kind: 9, Data: make([]byte, 100000)}}}, {Opts: slices.Repeat([]api.Opt{{Kind: 1}}, 100000)}} {
		if b, e := Tcp(api.Addr{}, api.Addr{}, s); e == api.OK || len(b) > 0 {
			t.Errorf("options that can't be: %v %d", b, e)
		}
	}
}

// R3: what is handed in stays as it was, with the room behind it; what is told is new memory.

// fill makes each byte of a list another one, and each of the room behind its end.
func fill(b []byte) {
	b = b[:cap(b)]
	for i := range b {
		b[i] ^= 0xa5
	}
}

// cloned is the packet in new memory.
func cloned(p Packet) Packet {
	p.Srh.Segs, p.Srh.Tlvs = slices.Clone(p.Srh.Segs), slices.Clone(p.Srh.Tlvs)
	for i := range p.Srh.Tlvs {
		p.Srh.Tlvs[i].Data = slices.Clone(p.Srh.Tlvs[i].Data)
	}
	p.Tcp = clonedSegment(p.Tcp)
	p.Msg.Body, p.Body = slices.Clone(p.Msg.Body), slices.Clone(p.Body)
	return p
}

// clonedSegment is the segment in new memory.
func clonedSegment(s api.Tcp) api.Tcp {
	s.Opts, s.Payload = slices.Clone(s.Opts), slices.Clone(s.Payload)
	for i := range s.Opts {
		s.Opts[i].Data = slices.Clone(s.Opts[i].Data)
	}
	return s
}

// spoils are changes of each list that a packet holds, with the room behind it.
func spoils(p Packet) []func() {
	segs, parts, opts := p.Srh.Segs[:cap(p.Srh.Segs)], p.Srh.Tlvs[:cap(p.Srh.Tlvs)], p.Tcp.Opts[:cap(p.Tcp.Opts)]
	l := []func(){
		func() { fill(p.Body) },
		func() { fill(p.Tcp.Payload) },
		func() { fill(p.Msg.Body) },
		func() {
			for i := range segs {
				fill(segs[i][:])
			}
		},
	}
	for _, x := range p.Srh.Tlvs {
		l = append(l, func() { fill(x.Data) })
	}
	for _, x := range p.Tcp.Opts {
		l = append(l, func() { fill(x.Data) })
	}
	return append(l, func() {
		for i := range parts {
			parts[i] = api.Tlv{Kind: -9}
		}
		for i := range opts {
			opts[i] = api.Opt{Kind: -9}
		}
	})
}

// given are packets of each kind, such as are parsed, and such as aren't.
func given() [][]byte {
	src, segs := addrs(1, 50)[0], addrs(3, 1)
	parts := []byte{5, 1, 9, 7, 2, 8, 8, 0}
	out := [][]byte{nil, make([]byte, 39), make([]byte, 1501)}
	for _, upper := range []part{segmentBy(src, segs[0], ordinary()), segmentBy(src, segs[0], segments()[4]), messageBy(src, segs[0], echo())} {
		out = append(out, straight(src, segs[0], upper).bytes(), byWay(src, segs, 1, parts, upper).bytes())
	}
	for seed := range 1000 {
		out = append(out, dealt(seed))
	}
	return out
}

func TestBytesStay(t *testing.T) {
	for i, b := range given() {
		list, whole := roomy(b)
		was := slices.Clone(whole)
		p, _ := Parse(list)
		want := cloned(p)
		if !bytes.Equal(whole, was) {
			t.Errorf("packet %d, or the room behind it, changed", i)
		}
		fill(whole)
		if !equal(p, want) {
			t.Errorf("packet %d: the answer changes with what was handed in", i)
		}
		fill(whole)
		for j, spoil := range spoils(p) {
			spoil()
			if !bytes.Equal(whole, was) {
				t.Errorf("packet %d: list %d of the answer shares memory with what was handed in", i, j)
			}
		}
	}
}

// No list of an answer shares memory with another one of it, nor with one of another answer: Body can be written to, as each can.
func TestListsOfAnAnswer(t *testing.T) {
	for i, b := range given() {
		p, _ := Parse(b)
		other, _ := Parse(b)
		// What is cloned shares nothing: what is done to each list of it changes that alone.
		want, was := cloned(p), cloned(p)
		alone := spoils(want)
		for j, spoil := range spoils(p) {
			spoil()
			alone[j]()
			if !equal(p, want) {
				t.Errorf("packet %d: list %d shares memory with another one", i, j)
			}
			if !equal(other, was) {
				t.Errorf("packet %d: list %d is another answer's, too", i, j)
			}
		}
	}
}

// givenUppers are segments and messages, such as can be and such as can't.
func givenUppers() ([]api.Tcp, []api.Msg) {
	s, m := segments()[:12], messages()[:12]
	for _, c := range wrongSegments() {
		s = append(s, c.s)
	}
	s = append(s, api.Tcp{Payload: mixed(1440, 1)}, api.Tcp{Payload: mixed(1441, 1)})
	m = append(m, api.Msg{Kind: -1, Body: mixed(9, 1)}, api.Msg{Body: mixed(1452, 1)}, api.Msg{Body: mixed(1453, 1)})
	return s, m
}

func TestSegmentsStay(t *testing.T) {
	l, _ := givenUppers()
	for i, s := range l {
		s = clonedSegment(s)
		var behind []byte
		s.Payload, behind = roomy(s.Payload)
		s.Opts = append(s.Opts, api.Opt{Kind: 77, Data: []byte{1}})[:len(s.Opts)]
		was, wasBehind := clonedSegment(s), slices.Clone(behind)
		stays := func() bool {
			return equalSegments(s, was) && bytes.Equal(behind, wasBehind) && s.Opts[:len(s.Opts)+1][len(s.Opts)].Kind == 77
		}
		one, _ := Tcp(addrs(1, 1)[0], full(), s)
		two, e := Tcp(addrs(1, 1)[0], full(), s)
		if !stays() {
			t.Errorf("segment %d, or the room behind its lists, changed", i)
		}
		want := slices.Clone(one)
		fill(one)
		if !stays() {
			t.Errorf("segment %d shares memory with the answer", i)
		}
		if !bytes.Equal(two, want) {
			t.Errorf("segment %d: two answers share memory", i)
		}
		fill(behind)
		for _, o := range s.Opts {
			fill(o.Data)
		}
		if !bytes.Equal(two, want) {
			t.Errorf("segment %d: the answer changes with it", i)
		}
		wantTcp(t, fmt.Sprint("segment ", i, " again"), addrs(1, 1)[0], full(), was, want, e)
	}
}

func TestMessagesStay(t *testing.T) {
	_, l := givenUppers()
	for i, m := range l {
		var behind []byte
		m.Body, behind = roomy(m.Body)
		was, wasBehind := api.Msg{Kind: m.Kind, Code: m.Code, Word: m.Word, Body: slices.Clone(m.Body)}, slices.Clone(behind)
		one, _ := Icmp(full(), addrs(1, 1)[0], m)
		two, e := Icmp(full(), addrs(1, 1)[0], m)
		want := slices.Clone(one)
		fill(one)
		if !equalMessages(m, was) || !bytes.Equal(behind, wasBehind) {
			t.Errorf("message %d, or the room behind its Body, changed", i)
		}
		fill(behind)
		if !bytes.Equal(two, want) {
			t.Errorf("message %d: the answer changes with it, or with another answer", i)
		}
		wantIcmp(t, fmt.Sprint("message ", i, " again"), full(), addrs(1, 1)[0], was, want, e)
	}
}

func TestNilAndEmptyAreTheSame(t *testing.T) {
	wantError(t, "nil", nil, api.ErrShort)
	wantError(t, "empty", []byte{}, api.ErrShort)
	for _, opts := range [][]api.Opt{nil, {}} {
		for _, payload := range [][]byte{nil, {}} {
			s := api.Tcp{Sport: 5, Opts: opts, Payload: payload}
			wantTcp(t, "no lists", api.Addr{}, full(), s, madeBy(api.Addr{}, full(), segmentBy(api.Addr{}, full(), api.Tcp{Sport: 5})), api.OK)
			m := api.Msg{Kind: 5, Body: payload}
			wantIcmp(t, "no Body", api.Addr{}, full(), m, madeBy(api.Addr{}, full(), messageBy(api.Addr{}, full(), api.Msg{Kind: 5})), api.OK)
			for _, data := range [][]byte{nil, {}} {
				s := api.Tcp{Opts: []api.Opt{{Kind: 9, Data: data}}}
				wantTcp(t, "no Data", api.Addr{}, full(), s, madeBy(api.Addr{}, full(), segmentBy(api.Addr{}, full(), s)), api.OK)
			}
		}
	}
}

// R4: asked again, each call answers what it answered, whatever was asked between.
func TestAskedAgain(t *testing.T) {
	all := given()
	var told []Packet
	var errors []api.Errno
	for _, b := range all {
		p, e := Parse(b)
		told, errors = append(told, cloned(p)), append(errors, e)
	}
	for i := range all {
		i = len(all) - 1 - i
		wantParse(t, fmt.Sprint("packet ", i, " again"), all[i], told[i], errors[i])
	}
	var reasons []int
	for e := range api.Errno(15) {
		reasons = append(reasons, Reason(e))
	}
	for e, want := range slices.Backward(reasons) {
		if got := Reason(api.Errno(e)); got != want {
			t.Errorf("Reason(%d) again: %d, want %d", e, got, want)
		}
	}
}
