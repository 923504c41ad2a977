package flow

import (
	"bytes"
	"encoding/binary"
	"fmt"
	"math"
	"math/rand"
	"slices"
	"strings"
	"testing"

	"harrier/addr"
	"harrier/api"
	"harrier/detour"
	"harrier/packet"
	"harrier/six"
	"harrier/srh"
	"harrier/tcp"
)

// full is the address of which each bit is 1.
func full() api.Addr { return api.Addr(bytes.Repeat([]byte{255}, 16)) }

// mixed tells an address of no plain order; another seed tells another.
func mixed(seed int) api.Addr {
	var a api.Addr
	rand.New(rand.NewSource(int64(seed))).Read(a[:])
	return a
}

// hosts are addresses that lie near one another in several ways, in the order in which they come; each byte counts, and a
// byte of 128 and more is no number below 0.
func hosts() []api.Addr {
	return []api.Addr{{}, {15: 1}, {15: 2}, {15: 127}, {15: 128}, {15: 255}, {14: 1}, {14: 1, 15: 255}, {8: 9}, {7: 1}, {0: 1}, {0: 1, 15: 1}, {0: 127, 15: 255}, {0: 128}, full()}
}

// ports are numbers that a segment may have, in the order in which they come, at the ends of each byte and between.
func ports() []int {
	return []int{0, 1, 2, 9, 10, 80, 127, 128, 254, 255, 256, 257, 258, 443, 511, 512, 4000, 32767, 32768, 43981, 65280, 65534, 65535}
}

// noPorts are numbers that no segment has, also those that would be one, if they were cut to 16 or 32 bits.
func noPorts() []int {
	return []int{-1, -2, -80, -255, -256, -65535, -65536, -65537, -1 << 31, -1 << 32, math.MinInt + 65535, math.MinInt + 1, math.MinInt,
		65536, 65537, 65616, 131071, 131072, 1<<31 - 1, 1 << 31, 1<<32 - 1, 1 << 32, 1<<32 + 80, 1 << 48, math.MaxInt - 65535, math.MaxInt - 1, math.MaxInt}
}

// plain is a flow of which no field is as another.
func plain() api.Flow {
	return api.Flow{Src: addr.Of(0x2001, 0xdb8, 0, 0, 1, 2, 3, 4), Sport: 4000, Dst: addr.Of(0x2001, 0xdb8, 0, 0, 0, 0, 0, 0xff), Dport: 80}
}

// drawn tells a flow; another seed tells mostly another. Few addresses and ports are drawn, so that flows agree in some
// fields, and some stand twice.
func drawn(r *rand.Rand) api.Flow {
	port := func() int {
		switch r.Intn(4) {
		case 0:
			return ports()[r.Intn(len(ports()))]
		case 1:
			return noPorts()[r.Intn(len(noPorts()))]
		default:
			return r.Intn(3)
		}
	}
	host := func() api.Addr {
		if r.Intn(2) == 0 {
			return hosts()[r.Intn(3)]
		}
		return hosts()[r.Intn(len(hosts()))]
	}
	return api.Flow{Src: host(), Sport: port(), Dst: host(), Dport: port()}
}

// many are flows of each port and of each address at each end, Right ones and others, and some of no plain order.
func many() []api.Flow {
	var l []api.Flow
	for _, n := range append(ports(), noPorts()...) {
		for _, base := range []api.Flow{{}, plain(), {Src: full(), Sport: 65535, Dst: full(), Dport: 65535}, {Sport: -1, Dport: -1}} {
			here, there := base, base
			here.Sport, there.Dport = n, n
			l = append(l, here, there)
		}
	}
	for _, a := range hosts() {
		for _, base := range []api.Flow{{}, plain(), {Src: full(), Sport: 65535, Dst: full(), Dport: 65535}} {
			here, there := base, base
			here.Src, there.Dst = a, a
			l = append(l, here, there)
		}
	}
	r := rand.New(rand.NewSource(14))
	for range 500 {
		l = append(l, drawn(r))
	}
	return l
}

// rights are flows whose ports a segment may have: each pair of ports at the ends, and those of some addresses.
func rights() []api.Flow {
	var l []api.Flow
	for _, s := range ports() {
		for _, d := range ports() {
			l = append(l, api.Flow{Src: mixed(s), Sport: s, Dst: mixed(d + 1), Dport: d}, api.Flow{Sport: s, Dport: d})
		}
	}
	for _, a := range hosts() {
		for _, b := range hosts() {
			l = append(l, api.Flow{Src: a, Dst: b}, api.Flow{Src: a, Sport: 258, Dst: b, Dport: 772})
		}
	}
	return l
}

// backBy tells the flow the other way, field by field.
func backBy(f api.Flow) api.Flow {
	f.Src, f.Dst = f.Dst, f.Src
	f.Sport, f.Dport = f.Dport, f.Sport
	return f
}

// rightBy tells by another way than the program's whether both ports are right: as they are when they are cut to 16 bits.
func rightBy(f api.Flow) bool {
	return int(uint16(f.Sport)) == f.Sport && int(uint16(f.Dport)) == f.Dport
}

// bytesBy tells the flow's bytes by another way than the program's: what is left of a port is counted up to be 0 and more.
func bytesBy(f api.Flow) []byte {
	cut := func(n int) uint16 { return uint16((n%65536 + 65536) % 65536) }
	b := append([]byte{}, f.Src[:]...)
	b = binary.BigEndian.AppendUint16(b, cut(f.Sport))
	b = append(b, f.Dst[:]...)
	return binary.BigEndian.AppendUint16(b, cut(f.Dport))
}

// compareBy tells which of two flows comes ahead by another way than the program's: by one row of bytes, in which a port has
// eight, and of which the order is that of the flows.
func compareBy(a, b api.Flow) int {
	row := func(f api.Flow) []byte {
		up := func(n int) uint64 { return uint64(n) + 1<<63 }
		l := append([]byte{}, f.Src[:]...)
		l = binary.BigEndian.AppendUint64(l, up(f.Sport))
		l = append(l, f.Dst[:]...)
		return binary.BigEndian.AppendUint64(l, up(f.Dport))
	}
	return bytes.Compare(row(a), row(b))
}

// sortBy tells flows in order by another way than the program's: each is put ahead of the first that comes behind it.
func sortBy(l []api.Flow) []api.Flow {
	var out []api.Flow
	for _, f := range l {
		at := 0
		for at < len(out) && compareBy(out[at], f) < 0 {
			at++
		}
		if at == len(out) || out[at] != f {
			out = slices.Insert(out, at, f)
		}
	}
	return out
}

// textBy tells the flow's text by another way than the program's.
func textBy(f api.Flow) string {
	return fmt.Sprintf("[%s]:%d > [%s]:%d", addr.Text(f.Src), f.Sport, addr.Text(f.Dst), f.Dport)
}

// wantOf asks Of.
func wantOf(t *testing.T, what string, p packet.Packet, want api.Flow, is bool) {
	t.Helper()
	if got, ok := Of(p); got != want || ok != is {
		t.Errorf("Of, %s: %+v %v, want %+v %v", what, got, ok, want, is)
	}
}

// wantRight asks Right of f and of the flow the other way.
func wantRight(t *testing.T, f api.Flow, want bool) {
	t.Helper()
	if got := Right(f); got != want {
		t.Errorf("Right(%+v): %v, want %v", f, got, want)
	}
	if got := Right(backBy(f)); got != want {
		t.Errorf("Right(%+v): %v, want %v", backBy(f), got, want)
	}
}

// wantBytes asks Bytes.
func wantBytes(t *testing.T, f api.Flow, want []byte) {
	t.Helper()
	if got := Bytes(f); !bytes.Equal(got, want) {
		t.Errorf("Bytes(%+v): %v, want %v", f, got, want)
	}
}

// wantLess asks Less which of two comes ahead, in both orders: below 0, it is a, above 0, it is b.
func wantLess(t *testing.T, a, b api.Flow, want int) {
	t.Helper()
	if got := Less(a, b); got != (want < 0) {
		t.Errorf("Less(%+v, %+v): %v", a, b, got)
	}
	if got := Less(b, a); got != (want > 0) {
		t.Errorf("Less(%+v, %+v): %v", b, a, got)
	}
}

// wantSort asks Sort.
func wantSort(t *testing.T, what string, l, want []api.Flow) {
	t.Helper()
	if got := Sort(l); !slices.Equal(got, want) {
		t.Errorf("Sort, %s: %v, want %v", what, got, want)
	}
}

// wantText asks Text.
func wantText(t *testing.T, f api.Flow, want string) {
	t.Helper()
	if got := Text(f); got != want {
		t.Errorf("Text(%+v): %q, want %q", f, got, want)
	}
}

// parsed tells the packet of b, which must be one.
func parsed(t *testing.T, b []byte) packet.Packet {
	t.Helper()
	p, e := packet.Parse(b)
	if e != api.OK {
		t.Fatalf("packet %v: %d", b, e)
	}
	return p
}

// sent tells a packet with a segment of the flow.
func sent(t *testing.T, f api.Flow) []byte {
	t.Helper()
	b, e := packet.Tcp(f.Src, f.Dst, api.Tcp{Sport: f.Sport, Dport: f.Dport, Flags: api.SYN, Payload: []byte{7, 8, 9}})
	if e != api.OK {
		t.Fatalf("%+v: %d", f, e)
	}
	return b
}

// routed tells a packet with a segment of the flow and a routing header of some segments, of which left are left; the last
// segment is where the flow goes.
func routed(t *testing.T, f api.Flow, count, left int) []byte {
	t.Helper()
	segs := []api.Addr{f.Dst}
	for i := 1; i < count; i++ {
		segs = append(segs, mixed(1000+i))
	}
	body, e := tcp.Put(tcp.Seal(f.Src, f.Dst, api.Tcp{Sport: f.Sport, Dport: f.Dport, Flags: api.ACK}))
	route, d := srh.Put(api.Srh{Next: api.TcpKind, Left: left, Segs: segs})
	if e != api.OK || d != api.OK {
		t.Fatalf("%+v: %d %d", f, e, d)
	}
	h := api.Head{Length: len(route) + len(body), Next: api.Routing, Hop: 9, Src: f.Src, Dst: segs[left]}
	return slices.Concat(six.Put(nil, h), route, body)
}

// P14.1

func TestOfASegment(t *testing.T) {
	for _, f := range rights() {
		wantOf(t, "a segment", parsed(t, sent(t, f)), f, true)
	}
}

// Where the packet goes now is not where the flow goes.
func TestOfASegmentByWayOfOthers(t *testing.T) {
	for i, f := range rights() {
		if i%5 != 0 {
			continue
		}
		for count := 1; count <= 3; count++ {
			for left := range count {
				p := parsed(t, routed(t, f, count, left))
				if !p.Routed || len(p.Srh.Segs) != count || p.Srh.Left != left {
					t.Fatalf("%+v: no routing header of %d segments, %d left", p, count, left)
				}
				wantOf(t, fmt.Sprint(count, " segments, ", left, " left"), p, f, true)
			}
		}
	}
}

// The flow stays as it was from the first segment of a packet's way to the last one, and behind it.
func TestOfAPacketOnItsWay(t *testing.T) {
	f := plain()
	for count := 1; count <= 9; count++ {
		var via []api.Addr
		for i := range count {
			via = append(via, mixed(i))
		}
		b, e := detour.Insert(sent(t, f), via, nil)
		for step := 0; e == api.OK; step++ {
			wantOf(t, fmt.Sprint("by way of ", count, ", step ", step), parsed(t, b), f, true)
			straight, _ := detour.Remove(b)
			wantOf(t, fmt.Sprint("by way of ", count, ", taken out at step ", step), parsed(t, straight), f, true)
			b, e = detour.Advance(b)
		}
		if e != api.ErrNone {
			t.Errorf("by way of %d: %d", count, e)
		}
	}
}

// Of a packet that no call made, the four fields are told as they stand, whatever they are, and no other.
func TestOfEachField(t *testing.T) {
	other := packet.Packet{
		Head:   api.Head{Class: 1, Label: 2, Length: 3, Next: 4, Hop: 5, Dst: mixed(1)},
		Routed: true,
		Srh:    api.Srh{Next: 58, Left: 1, Flags: 7, Tag: 8, Segs: []api.Addr{mixed(2), mixed(3)}},
		Kind:   6,
		Tcp:    api.Tcp{Seq: 9, Ack: 10, Flags: 11, Window: 12, Sum: 13, Urgent: 14, Payload: []byte{15}},
		Msg:    api.Msg{Kind: 16, Code: 17, Word: 18, Body: []byte{19}},
		Body:   bytes.Repeat([]byte{20}, 40),
	}
	for _, f := range many() {
		for _, p := range []packet.Packet{{Kind: 6}, other} {
			p.Head.Src, p.Tcp.Sport, p.Final, p.Tcp.Dport = f.Src, f.Sport, f.Dst, f.Dport
			wantOf(t, "fields", p, f, true)
			p.Routed = !p.Routed
			wantOf(t, "fields, routed or not", p, f, true)
		}
	}
	wantOf(t, "nothing but its kind", packet.Packet{Kind: 6}, api.Flow{}, true)
}

func TestOfAMessage(t *testing.T) {
	for _, m := range []api.Msg{{Kind: 128, Word: 258, Body: []byte{7}}, {Kind: 129}, {Kind: 3, Body: sent(t, plain())}, {Kind: 6, Code: 6}} {
		b, e := packet.Icmp(plain().Src, plain().Dst, m)
		if e != api.OK {
			t.Fatalf("%+v: %d", m, e)
		}
		wantOf(t, "a message", parsed(t, b), api.Flow{}, false)
		there, e := detour.Insert(b, []api.Addr{mixed(1)}, nil)
		if e != api.OK {
			t.Fatalf("%+v: %d", m, e)
		}
		wantOf(t, "a message by way of another", parsed(t, there), api.Flow{}, false)
	}
}

func TestOfNone(t *testing.T) {
	wantOf(t, "a zero one", packet.Packet{}, api.Flow{}, false)
	p, e := packet.Parse(nil)
	if e == api.OK {
		t.Fatal("nil is a packet")
	}
	wantOf(t, "one that was not parsed", p, api.Flow{}, false)
}

// A packet that holds all of a segment is of no flow, if it is of another kind.
func TestOfAnotherKind(t *testing.T) {
	p := parsed(t, routed(t, plain(), 2, 1))
	kinds := []int{-1, -6, -250, 256, 262, 65542, 1<<32 + 6, math.MinInt, math.MinInt + 6, math.MaxInt}
	for kind := range 256 {
		kinds = append(kinds, kind)
	}
	for _, kind := range kinds {
		p.Kind = kind
		if kind == 6 {
			wantOf(t, "kind 6", p, plain(), true)
			continue
		}
		wantOf(t, fmt.Sprint("kind ", kind), p, api.Flow{}, false)
	}
}

func TestBack(t *testing.T) {
	f := plain()
	want := api.Flow{Src: f.Dst, Sport: 80, Dst: f.Src, Dport: 4000}
	if got := Back(f); got != want {
		t.Errorf("Back(%+v): %+v, want %+v", f, got, want)
	}
	for _, f := range append(many(), rights()...) {
		if got := Back(f); got != backBy(f) {
			t.Errorf("Back(%+v): %+v, want %+v", f, got, backBy(f))
		}
		if got := Back(Back(f)); got != f {
			t.Errorf("Back of Back of %+v: %+v", f, got)
		}
	}
}

// What is answered to a segment goes the other way.
func TestBackOfASegment(t *testing.T) {
	for i, f := range rights() {
		if i%9 == 0 {
			wantOf(t, "an answer", parsed(t, sent(t, Back(f))), backBy(f), true)
		}
	}
}

func TestRight(t *testing.T) {
	for _, s := range append(ports(), 3, 77) {
		for _, d := range ports() {
			wantRight(t, api.Flow{Sport: s, Dport: d}, true)
			wantRight(t, api.Flow{Src: full(), Sport: s, Dst: mixed(d), Dport: d}, true)
		}
		for _, n := range noPorts() {
			wantRight(t, api.Flow{Sport: s, Dport: n}, false)
			wantRight(t, api.Flow{Src: mixed(s), Sport: s, Dst: full(), Dport: n}, false)
		}
	}
	for _, a := range noPorts() {
		for _, b := range noPorts() {
			wantRight(t, api.Flow{Sport: a, Dport: b}, false)
		}
	}
}

func TestRightOfEachPort(t *testing.T) {
	for n := -1000; n < 67000; n++ {
		wantRight(t, api.Flow{Sport: n, Dport: 80}, n >= 0 && n <= 65535)
		wantRight(t, api.Flow{Sport: n, Dport: n}, n >= 0 && n <= 65535)
	}
	for _, f := range many() {
		wantRight(t, f, rightBy(f))
	}
}

func TestBytes(t *testing.T) {
	host := func(from byte) api.Addr {
		var a api.Addr
		for i := range a {
			a[i] = from + byte(i)
		}
		return a
	}
	wantBytes(t, api.Flow{Src: host(10), Sport: 0x0102, Dst: host(100), Dport: 0xfefd},
		[]byte{10, 11, 12, 13, 14, 15, 16, 17, 18, 19, 20, 21, 22, 23, 24, 25, 1, 2, 100, 101, 102, 103, 104, 105, 106, 107, 108, 109, 110, 111, 112, 113, 114, 115, 254, 253})
	wantBytes(t, api.Flow{}, make([]byte, 36))
	wantBytes(t, api.Flow{Src: full(), Sport: 65535, Dst: full(), Dport: 65535}, bytes.Repeat([]byte{255}, 36))
}

func TestBytesOfPorts(t *testing.T) {
	for _, c := range []struct {
		port int
		want [2]byte
	}{
		{0, [2]byte{0, 0}}, {1, [2]byte{0, 1}}, {80, [2]byte{0, 80}}, {255, [2]byte{0, 255}}, {256, [2]byte{1, 0}}, {258, [2]byte{1, 2}},
		{32768, [2]byte{128, 0}}, {65280, [2]byte{255, 0}}, {65535, [2]byte{255, 255}},
		{-1, [2]byte{255, 255}}, {-2, [2]byte{255, 254}}, {-256, [2]byte{255, 0}}, {-65535, [2]byte{0, 1}}, {-65536, [2]byte{0, 0}}, {-65537, [2]byte{255, 255}},
		{65536, [2]byte{0, 0}}, {65537, [2]byte{0, 1}}, {131071, [2]byte{255, 255}}, {1<<32 + 80, [2]byte{0, 80}},
		{math.MinInt, [2]byte{0, 0}}, {math.MinInt + 1, [2]byte{0, 1}}, {math.MaxInt, [2]byte{255, 255}}, {math.MaxInt - 1, [2]byte{255, 254}},
	} {
		want := make([]byte, 36)
		copy(want[16:], c.want[:])
		wantBytes(t, api.Flow{Sport: c.port}, want)
		want = make([]byte, 36)
		copy(want[34:], c.want[:])
		wantBytes(t, api.Flow{Dport: c.port}, want)
	}
}

func TestBytesOfMany(t *testing.T) {
	for _, f := range append(many(), rights()...) {
		wantBytes(t, f, bytesBy(f))
	}
	for n := -1000; n < 67000; n++ {
		f := api.Flow{Src: full(), Sport: n, Dport: 31 * n}
		wantBytes(t, f, bytesBy(f))
	}
}

// P14.2

func TestLessByOneField(t *testing.T) {
	for _, base := range []api.Flow{{}, plain(), {Src: full(), Sport: math.MaxInt, Dst: full(), Dport: math.MinInt}} {
		all := append(append([]int{}, noPorts()...), ports()...)
		slices.Sort(all)
		for i, m := range all {
			for j, n := range all {
				a, b := base, base
				a.Sport, b.Sport = m, n
				wantLess(t, a, b, i-j)
				a, b = base, base
				a.Dport, b.Dport = m, n
				wantLess(t, a, b, i-j)
			}
		}
		for i, m := range hosts() {
			for j, n := range hosts() {
				a, b := base, base
				a.Src, b.Src = m, n
				wantLess(t, a, b, i-j)
				a, b = base, base
				a.Dst, b.Dst = m, n
				wantLess(t, a, b, i-j)
			}
		}
	}
}

// Each bit of an address counts.
func TestLessByOneBit(t *testing.T) {
	for bit := range 128 {
		a, b := plain(), plain()
		b.Src[bit/8] ^= 1 << (bit % 8)
		wantLess(t, a, b, bytes.Compare(a.Src[:], b.Src[:]))
		a, b = plain(), plain()
		b.Dst[bit/8] ^= 1 << (bit % 8)
		wantLess(t, a, b, bytes.Compare(a.Dst[:], b.Dst[:]))
	}
}

// steps are changes of a flow, a field each, in the order in which the fields count; the first makes it less, the other more.
func steps() [][2]func(*api.Flow) {
	return [][2]func(*api.Flow){
		{func(f *api.Flow) { f.Src[15]-- }, func(f *api.Flow) { f.Src[15]++ }},
		{func(f *api.Flow) { f.Sport-- }, func(f *api.Flow) { f.Sport++ }},
		{func(f *api.Flow) { f.Dst[3]-- }, func(f *api.Flow) { f.Dst[3]++ }},
		{func(f *api.Flow) { f.Dport-- }, func(f *api.Flow) { f.Dport++ }},
	}
}

// Where one field speaks for the one and a later field for the other, the first counts.
func TestLessByTheFirstField(t *testing.T) {
	all := steps()
	for i := range all {
		for j := i + 1; j < len(all); j++ {
			a, b := plain(), plain()
			all[i][0](&a)
			all[j][1](&a)
			wantLess(t, a, b, -1)
			a = plain()
			all[i][1](&a)
			all[j][0](&a)
			wantLess(t, a, b, 1)
		}
	}
	for how := range 16 {
		a, b := plain(), plain()
		for i := range all {
			all[i][how>>i&1](&a)
		}
		wantLess(t, a, b, how%2*2-1)
	}
}

func TestLessOfOneAndItself(t *testing.T) {
	for _, f := range append(many(), rights()...) {
		wantLess(t, f, f, 0)
	}
}

func TestLessOfMany(t *testing.T) {
	r := rand.New(rand.NewSource(2))
	for range 40000 {
		a, b := drawn(r), drawn(r)
		if r.Intn(2) == 0 {
			b.Src = a.Src
			if r.Intn(2) == 0 {
				b.Sport = a.Sport
			}
		}
		wantLess(t, a, b, compareBy(a, b))
	}
}

// Of two flows one comes ahead, if they are others, and what comes ahead of one comes ahead of those behind it.
func TestLessIsAnOrder(t *testing.T) {
	r := rand.New(rand.NewSource(3))
	for range 20000 {
		a, b, c := drawn(r), drawn(r), drawn(r)
		if a != b && Less(a, b) == Less(b, a) {
			t.Errorf("%+v and %+v: both come ahead, or none", a, b)
		}
		if Less(a, b) && Less(b, c) && !Less(a, c) {
			t.Errorf("%+v comes ahead of %+v, this of %+v, but not the first of the last", a, b, c)
		}
	}
}

// row are flows in order.
func row() []api.Flow {
	one, two := api.Addr{15: 1}, api.Addr{15: 2}
	return []api.Flow{
		{Src: one, Sport: math.MinInt, Dst: two, Dport: 80},
		{Src: one, Sport: -1, Dst: two, Dport: 80},
		{Src: one, Sport: 5, Dst: one, Dport: 81},
		{Src: one, Sport: 5, Dst: two, Dport: -80},
		{Src: one, Sport: 5, Dst: two, Dport: 80},
		{Src: one, Sport: 5, Dst: two, Dport: 443},
		{Src: one, Sport: 10, Dst: one, Dport: 1},
		{Src: one, Sport: math.MaxInt, Dst: one, Dport: 1},
		{Src: two, Sport: 1, Dst: one, Dport: 1},
		{Src: full(), Sport: 0, Dst: one, Dport: 0},
	}
}

func TestSort(t *testing.T) {
	wantSort(t, "nil", nil, nil)
	wantSort(t, "nothing", []api.Flow{}, nil)
	want := row()
	for _, f := range want {
		wantSort(t, "one", []api.Flow{f}, []api.Flow{f})
	}
	wantSort(t, "a zero one", []api.Flow{{}}, []api.Flow{{}})
	wantSort(t, "in order", row(), want)
	back := row()
	slices.Reverse(back)
	wantSort(t, "in the other order", back, want)
	r := rand.New(rand.NewSource(5))
	for range 500 {
		l := row()
		r.Shuffle(len(l), func(i, j int) { l[i], l[j] = l[j], l[i] })
		wantSort(t, "mixed", l, want)
	}
}

func TestSortOfTwo(t *testing.T) {
	for i, a := range row() {
		for j, b := range row() {
			switch {
			case i < j:
				wantSort(t, "two", []api.Flow{a, b}, []api.Flow{a, b})
			case i > j:
				wantSort(t, "two", []api.Flow{a, b}, []api.Flow{b, a})
			default:
				wantSort(t, "one twice", []api.Flow{a, b}, []api.Flow{a})
			}
		}
	}
}

// Flows that stand twice and more are told once, wherever they stand.
func TestSortOfSomeThatStandTwice(t *testing.T) {
	want, back := row(), row()
	slices.Reverse(back)
	wantSort(t, "twice", append(row(), row()...), want)
	wantSort(t, "twice, there and back", append(row(), back...), want)
	wantSort(t, "three times", slices.Concat(back, row(), back), want)
	r := rand.New(rand.NewSource(6))
	for i := range want {
		for times := 2; times <= 4; times++ {
			l := append(row(), slices.Repeat(row()[i:i+1], times-1)...)
			wantSort(t, fmt.Sprint("flow ", i, " ", times, " times, at the end"), l, want)
			l = append(slices.Repeat(row()[i:i+1], times-1), row()...)
			wantSort(t, fmt.Sprint("flow ", i, " ", times, " times, at the beginning"), l, want)
			r.Shuffle(len(l), func(i, j int) { l[i], l[j] = l[j], l[i] })
			wantSort(t, fmt.Sprint("flow ", i, " ", times, " times, mixed"), l, want)
		}
	}
}

func TestSortOfAllTheSame(t *testing.T) {
	for _, f := range append(row(), api.Flow{}, plain()) {
		for _, n := range []int{2, 3, 12, 13, 100} {
			wantSort(t, fmt.Sprint(n, " times the same"), slices.Repeat([]api.Flow{f}, n), []api.Flow{f})
		}
	}
}

// Flows that differ in what Bytes or a cut port does not tell are others, and each is told.
func TestSortOfOnesWithTheSameBytes(t *testing.T) {
	want := []api.Flow{{Sport: -65536}, {Sport: 0}, {Sport: 0, Dport: 65536}, {Sport: 65536}, {Sport: 1 << 32}}
	back := slices.Clone(want)
	slices.Reverse(back)
	wantSort(t, "with the same bytes", back, want)
}

func TestSortOfMany(t *testing.T) {
	r := rand.New(rand.NewSource(7))
	twice := 0
	for i := range 200 {
		var l []api.Flow
		for range i * i / 80 {
			l = append(l, drawn(r))
			if r.Intn(6) == 0 {
				l = append(l, l[r.Intn(len(l))])
			}
		}
		want := sortBy(l)
		if len(want) < len(l) {
			twice++
		}
		wantSort(t, fmt.Sprint(len(l), " flows"), l, want)
		wantSort(t, fmt.Sprint(len(l), " flows that are in order"), want, want)
		r.Shuffle(len(l), func(i, j int) { l[i], l[j] = l[j], l[i] })
		wantSort(t, fmt.Sprint(len(l), " flows, mixed"), l, want)
	}
	if twice < 100 {
		t.Errorf("some stand twice in %d of 200 lists: too few for a test", twice)
	}
}

func TestText(t *testing.T) {
	one, two := api.Addr{15: 1}, api.Addr{15: 2}
	for _, c := range []struct {
		f    api.Flow
		want string
	}{
		{api.Flow{Sport: 1, Dst: one, Dport: 2}, "[::]:1 > [::1]:2"},
		{api.Flow{}, "[::]:0 > [::]:0"},
		{api.Flow{Src: one, Sport: 5, Dst: two, Dport: 80}, "[::1]:5 > [::2]:80"},
		{api.Flow{Src: two, Sport: 443, Dst: one, Dport: 9}, "[::2]:443 > [::1]:9"},
		{plain(), "[2001:db8::1:2:3:4]:4000 > [2001:db8::ff]:80"},
		{api.Flow{Src: full(), Sport: 65535, Dst: addr.Of(1, 2, 3, 4, 5, 6, 7, 8), Dport: 10000}, "[ffff:ffff:ffff:ffff:ffff:ffff:ffff:ffff]:65535 > [1:2:3:4:5:6:7:8]:10000"},
		{api.Flow{Src: one, Sport: -1, Dst: one, Dport: -80}, "[::1]:-1 > [::1]:-80"},
		{api.Flow{Src: one, Sport: 65536, Dst: one, Dport: -65536}, "[::1]:65536 > [::1]:-65536"},
		{api.Flow{Sport: math.MinInt, Dport: math.MaxInt}, "[::]:-9223372036854775808 > [::]:9223372036854775807"},
		{api.Flow{Sport: math.MaxInt, Dport: math.MinInt}, "[::]:9223372036854775807 > [::]:-9223372036854775808"},
	} {
		wantText(t, c.f, c.want)
	}
}

func TestTextOfMany(t *testing.T) {
	for _, f := range append(many(), rights()...) {
		wantText(t, f, textBy(f))
	}
}

// The text of a flow the other way has the same ends, in the other order.
func TestTextOfBack(t *testing.T) {
	for _, f := range append(many(), rights()...) {
		here, there, ok := strings.Cut(Text(f), " > ")
		if !ok {
			t.Errorf("Text(%+v): %q", f, Text(f))
		}
		wantText(t, Back(f), there+" > "+here)
	}
}

// P14.3

// wantOtherBytes asks Bytes of flows that are Right; only of the same ones may it tell the same.
func wantOtherBytes(t *testing.T, l []api.Flow) {
	t.Helper()
	told := map[string]api.Flow{}
	for _, f := range l {
		if !Right(f) {
			t.Fatalf("%+v is not Right", f)
		}
		b := string(Bytes(f))
		if was, ok := told[b]; ok && was != f {
			t.Errorf("%+v and %+v: the same bytes", was, f)
		}
		told[b] = f
	}
}

func TestOtherBytes(t *testing.T) {
	wantOtherBytes(t, rights())
	var l []api.Flow
	for n := range 65536 {
		l = append(l, api.Flow{Sport: n}, api.Flow{Dport: n}, api.Flow{Sport: n, Dport: n})
	}
	wantOtherBytes(t, l)
	l = nil
	for _, f := range many() {
		if rightBy(f) {
			l = append(l, f)
		}
	}
	if len(l) < 200 {
		t.Errorf("%d flows are Right: too few for a test", len(l))
	}
	wantOtherBytes(t, l)
}

// Flows that differ in one bit, and those whose fields are exchanged, are others.
func TestOtherBytesOfEachBit(t *testing.T) {
	for _, f := range []api.Flow{{}, plain(), {Src: full(), Sport: 65535, Dst: full(), Dport: 65535}} {
		l := []api.Flow{f, Back(f), {Src: f.Dst, Sport: f.Sport, Dst: f.Src, Dport: f.Dport}, {Src: f.Src, Sport: f.Dport, Dst: f.Dst, Dport: f.Sport}}
		for bit := range 128 {
			a, b := f, f
			a.Src[bit/8] ^= 1 << (bit % 8)
			b.Dst[bit/8] ^= 1 << (bit % 8)
			l = append(l, a, b)
		}
		for bit := range 16 {
			a, b := f, f
			a.Sport ^= 1 << bit
			b.Dport ^= 1 << bit
			l = append(l, a, b)
		}
		wantOtherBytes(t, l)
	}
}

// R1: no call panics, whatever the fields.
func TestWhateverIsGiven(t *testing.T) {
	all := append(many(), rights()...)
	for i, f := range all {
		g := all[len(all)-1-i]
		p := packet.Packet{Head: api.Head{Src: f.Src, Length: f.Sport}, Srh: api.Srh{Left: f.Dport}, Final: f.Dst, Kind: f.Sport, Tcp: api.Tcp{Sport: f.Sport, Dport: f.Dport}}
		Of(p)
		Back(f)
		Right(f)
		Bytes(f)
		Text(f)
		Less(f, g)
		Sort([]api.Flow{f, g, f})
	}
	if got := Sort(all); len(got) != len(sortBy(all)) {
		t.Errorf("%d flows of %d, want %d", len(got), len(all), len(sortBy(all)))
	}
}

// R3: what is handed in stays as it was, with the room behind it; what is told is new memory.

// given are lists for Sort: in order, in the other order, mixed, and such as hold some twice.
func given() [][]api.Flow {
	back := row()
	slices.Reverse(back)
	out := [][]api.Flow{nil, {plain()}, row(), back, append(row(), row()...), append(back, row()...), slices.Repeat([]api.Flow{plain()}, 5)}
	r := rand.New(rand.NewSource(8))
	for i := range 100 {
		var l []api.Flow
		for range i {
			l = append(l, drawn(r))
		}
		out = append(out, l)
	}
	return out
}

// spoil makes each flow of a list another one, and each of the room behind its end.
func spoil(l []api.Flow) {
	l = l[:cap(l)]
	for i := range l {
		l[i] = api.Flow{Sport: -l[i].Sport - 1, Dport: i}
	}
}

func TestFlowsStay(t *testing.T) {
	for i, l := range given() {
		whole := append(slices.Clone(l), plain(), api.Flow{Sport: 9}, api.Flow{Sport: 1})
		list, was := whole[:len(l)], slices.Clone(whole)
		one := Sort(list)
		two := Sort(list)
		want := slices.Clone(one)
		if !slices.Equal(whole, was) {
			t.Errorf("list %d, or the room behind it, changed", i)
		}
		spoil(one)
		if !slices.Equal(whole, was) {
			t.Errorf("list %d shares memory with the answer", i)
		}
		if !slices.Equal(two, want) {
			t.Errorf("list %d: two answers share memory", i)
		}
		spoil(whole)
		if !slices.Equal(two, want) {
			t.Errorf("list %d: the answer changes with it", i)
		}
		wantSort(t, fmt.Sprint("list ", i, " again"), was[:len(l)], want)
	}
}

func TestBytesAreTheCallersOwn(t *testing.T) {
	for _, f := range append(row(), plain()) {
		one, two := Bytes(f), Bytes(f)
		one = one[:cap(one)]
		for i := range one {
			one[i] ^= 0xa5
		}
		if !bytes.Equal(two, bytesBy(f)) {
			t.Errorf("Bytes(%+v): two answers share memory", f)
		}
		wantBytes(t, f, bytesBy(f))
	}
}

// A packet stays as it was; a change of its lists changes no flow that was told, nor is one told by them.
func TestPacketsStay(t *testing.T) {
	b := routed(t, plain(), 3, 1)
	p, was := parsed(t, b), parsed(t, b)
	f, ok := Of(p)
	if fmt.Sprint(p) != fmt.Sprint(was) {
		t.Errorf("Of changed the packet %v", was)
	}
	p.Srh.Segs[0], p.Srh.Segs[1] = mixed(5), mixed(6)
	for i := range p.Body {
		p.Body[i] ^= 255
	}
	if f != plain() || !ok {
		t.Errorf("%+v %v, behind a change of the packet", f, ok)
	}
	wantOf(t, "lists that changed", p, plain(), true)
}

func TestNilAndEmptyAreTheSame(t *testing.T) {
	for _, l := range [][]api.Flow{nil, {}, make([]api.Flow, 0, 9), row()[:0]} {
		if got := Sort(l); len(got) != 0 {
			t.Errorf("Sort of nothing: %v", got)
		}
	}
}

// R4: asked again, each call answers what it answered, whatever was asked between.
func TestAskedAgain(t *testing.T) {
	var told []string
	ask := func(i int, l []api.Flow) string {
		f := api.Flow{Sport: i}
		if len(l) > 0 {
			f = l[i%len(l)]
		}
		of, ok := Of(packet.Packet{Head: api.Head{Src: f.Src}, Final: f.Dst, Kind: 5 + i%3, Tcp: api.Tcp{Sport: f.Sport, Dport: f.Dport}})
		return fmt.Sprint(of, ok, Back(f), Right(f), Bytes(f), Less(f, plain()), Less(plain(), f), Sort(l), Text(f))
	}
	all := given()
	for i, l := range all {
		told = append(told, ask(i, l))
	}
	for i := range all {
		i = len(all) - 1 - i
		if got := ask(i, all[i]); got != told[i] {
			t.Errorf("list %d again: %s, want %s", i, got, told[i])
		}
	}
}
