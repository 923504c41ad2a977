package sid

import (
	"fmt"
	"math"
	"math/big"
	"math/rand"
	"net/netip"
	"testing"

	"harrier/addr"
	"harrier/api"
)

// The numbers of what a node is to do, as the document counts them: they are written out here, so that a table by other names is seen.
const (
	toEnd     = 0
	toWitness = 1
	toDecide  = 2
	toLast    = 3
	toRecover = 4
	toSteer   = 5
	toLearn   = 6
)

// nodes are numbers that a node has, at the ends of each byte and between.
func nodes() []int {
	return []int{0, 1, 2, 9, 10, 15, 16, 127, 128, 254, 255, 256, 257, 258, 511, 512, 32767, 32768, 43981, 65280, 65534, 65535}
}

// dos are all numbers that stand in a byte.
func dos() []int {
	var l []int
	for do := range 256 {
		l = append(l, do)
	}
	return l
}

// args are numbers of 32 bits, at the ends of each byte and between.
func args() []uint32 {
	return []uint32{0, 1, 7, 9, 10, 128, 254, 255, 256, 257, 65535, 65536, 65537, 1<<24 - 1, 1 << 24, 16909060, 1<<31 - 1, 1 << 31, 4294967294, 4294967295}
}

// noNodes are numbers that no node has, also those that would be one, if they were cut to 16 or 32 bits.
func noNodes() []int {
	return []int{-1, -2, -255, -256, -65535, -65536, -65537, -1 << 32, math.MinInt + 65535, math.MinInt + 1, math.MinInt,
		65536, 65537, 65536 + 258, 131071, 131072, 1<<31 - 1, 1 << 31, 1<<32 - 1, 1 << 32, 1<<32 + 1, 1 << 48, math.MaxInt - 65535, math.MaxInt - 1, math.MaxInt}
}

// noDos are numbers that don't stand in a byte, also those that would be one, if they were cut to 8, 16 or 32 bits.
func noDos() []int {
	return []int{-1, -2, -6, -128, -250, -255, -256, -257, -65536, -1 << 32, math.MinInt + 255, math.MinInt + 1, math.MinInt,
		256, 257, 262, 511, 512, 65535, 65536, 65537, 1 << 31, 1 << 32, 1<<32 + 6, math.MaxInt - 255, math.MaxInt - 1, math.MaxInt}
}

// fields tells the eight numbers of the segment's address, one behind the other.
func fields(s api.Sid) []int {
	return []int{0xfd6c, 0x62, 0, 0, s.Node, s.Do * 256, int(s.Arg / 65536), int(s.Arg % 65536)}
}

// madeBy tells the segment's address by another way than the program's: by its text, which the library reads.
func madeBy(t *testing.T, s api.Sid) api.Addr {
	t.Helper()
	n := fields(s)
	text := fmt.Sprintf("%x:%x:%x:%x:%x:%x:%x:%x", n[0], n[1], n[2], n[3], n[4], n[5], n[6], n[7])
	a, err := netip.ParseAddr(text)
	if err != nil {
		t.Fatalf("%+v: %v", s, err)
	}
	return a.As16()
}

// splitBy tells the segment by another way than the program's: as numbers of any size, of which parts are cut out.
func splitBy(a api.Addr) (api.Sid, bool) {
	n := new(big.Int).SetBytes(a[:])
	next := func(bits uint) int {
		part := new(big.Int)
		n.DivMod(n, new(big.Int).Lsh(big.NewInt(1), bits), part)
		return int(part.Int64())
	}
	arg, zero, do, node := next(32), next(8), next(8), next(16)
	ours := new(big.Int).SetBytes([]byte{0xfd, 0x6c, 0, 0x62, 0, 0, 0, 0})
	if zero != 0 || n.Cmp(ours) != 0 {
		return api.Sid{}, false
	}
	return api.Sid{Node: node, Do: do, Arg: uint32(arg)}, true
}

// textBy tells the segment's text by another way than the program's.
func textBy(s api.Sid) string {
	what := fmt.Sprint(s.Do)
	switch s.Do {
	case toEnd:
		what = "end"
	case toWitness:
		what = "witness"
	case toDecide:
		what = "decide"
	case toLast:
		what = "last"
	case toRecover:
		what = "recover"
	case toSteer:
		what = "steer"
	case toLearn:
		what = "learn"
	}
	return fmt.Sprintf("%d.%s.%d", s.Node, what, s.Arg)
}

// segments are segments of each node, do and Arg at the ends, and some of no plain order.
func segments() []api.Sid {
	var l []api.Sid
	for _, node := range nodes() {
		for _, do := range dos() {
			l = append(l, api.Sid{Node: node, Do: do, Arg: args()[(node+do)%len(args())]})
		}
		for _, arg := range args() {
			l = append(l, api.Sid{Node: node, Do: int(arg % 7), Arg: arg})
		}
	}
	r := rand.New(rand.NewSource(12))
	for range 2000 {
		l = append(l, api.Sid{Node: r.Intn(65536), Do: r.Intn(256), Arg: r.Uint32()})
	}
	return l
}

// mixed tells an address of no plain order; another seed tells another.
func mixed(seed int) api.Addr {
	var a api.Addr
	rand.New(rand.NewSource(int64(seed))).Read(a[:])
	return a
}

// near tells an address that is one of ours, but for some bits by turns: none, one, or those of some bytes.
func near(t *testing.T, seed int) api.Addr {
	t.Helper()
	r := rand.New(rand.NewSource(int64(seed)))
	a := madeBy(t, api.Sid{Node: r.Intn(65536), Do: r.Intn(256), Arg: r.Uint32()})
	switch seed % 4 {
	case 1:
		a[r.Intn(16)] ^= 1 << r.Intn(8)
	case 2:
		a[r.Intn(16)] = byte(r.Intn(256))
		a[r.Intn(16)] = byte(r.Intn(256))
	case 3:
		a[11] = byte(r.Intn(3))
	}
	return a
}

// foreign are addresses that are none of ours: also those that differ from one in just one bit.
func foreign(t *testing.T) []api.Addr {
	t.Helper()
	l := []api.Addr{{}, {15: 1}, {0: 0xfd}, {0: 0xfd, 1: 0x6c}, addr.Of(0xfd6c, 0x6200), addr.Of(0x6cfd, 0x6200), addr.Of(0, 0, 0, 0, 0xfd6c, 0x62),
		addr.Of(0x2001, 0xdb8, 0, 0, 0, 0, 0, 0xff), addr.Of(0xfd6c, 0x62, 0, 0, 0, 1), addr.Of(0xfd6c, 0x62, 0, 1)}
	for i := range 16 {
		var a api.Addr
		a[i] = 255
		l = append(l, a)
	}
	for _, s := range []api.Sid{{}, {Node: 1}, {Node: 3, Do: toSteer, Arg: 7}, {Node: 65535, Do: 255, Arg: math.MaxUint32}} {
		for bit := range 64 {
			a := madeBy(t, s)
			a[bit/8] ^= 1 << (bit % 8)
			l = append(l, a)
		}
		for b := 1; b < 256; b++ {
			a := madeBy(t, s)
			a[11] = byte(b)
			l = append(l, a)
		}
	}
	return l
}

// wantMade asks Make for the address of s.
func wantMade(t *testing.T, s api.Sid, want api.Addr) {
	t.Helper()
	if got, e := Make(s); got != want || e != api.OK {
		t.Errorf("Make(%+v): %v %d, want %v %d", s, got, e, want, api.OK)
	}
}

// wantNotMade asks Make for no address of s.
func wantNotMade(t *testing.T, s api.Sid) {
	t.Helper()
	if got, e := Make(s); got != (api.Addr{}) || e != api.ErrArg {
		t.Errorf("Make(%+v): %v %d, want nothing and %d", s, got, e, api.ErrArg)
	}
}

// wantSplit asks Split for the segment of a.
func wantSplit(t *testing.T, a api.Addr, want api.Sid, is bool) {
	t.Helper()
	if got, ok := Split(a); got != want || ok != is {
		t.Errorf("Split(%v): %+v %v, want %+v %v", a, got, ok, want, is)
	}
}

// wantIs asks Is.
func wantIs(t *testing.T, a api.Addr, node, do int, want bool) {
	t.Helper()
	if got := Is(a, node, do); got != want {
		t.Errorf("Is(%v, %d, %d): %v, want %v", a, node, do, got, want)
	}
}

// wantText asks Text.
func wantText(t *testing.T, s api.Sid, want string) {
	t.Helper()
	if got := Text(s); got != want {
		t.Errorf("Text(%+v): %q, want %q", s, got, want)
	}
}

// P12.1

func TestMake(t *testing.T) {
	for _, c := range []struct {
		s    api.Sid
		want api.Addr
	}{
		{api.Sid{}, api.Addr{0xfd, 0x6c, 0, 0x62}},
		{api.Sid{Node: 1}, api.Addr{0xfd, 0x6c, 0, 0x62, 9: 1}},
		{api.Sid{Node: 255}, api.Addr{0xfd, 0x6c, 0, 0x62, 9: 255}},
		{api.Sid{Node: 256}, api.Addr{0xfd, 0x6c, 0, 0x62, 8: 1}},
		{api.Sid{Node: 258, Do: toLearn, Arg: 3}, api.Addr{253, 108, 0, 98, 0, 0, 0, 0, 1, 2, 6, 0, 0, 0, 0, 3}},
		{api.Sid{Node: 65535}, api.Addr{0xfd, 0x6c, 0, 0x62, 8: 255, 9: 255}},
		{api.Sid{Do: toWitness}, api.Addr{0xfd, 0x6c, 0, 0x62, 10: 1}},
		{api.Sid{Do: toDecide}, api.Addr{0xfd, 0x6c, 0, 0x62, 10: 2}},
		{api.Sid{Do: toLast}, api.Addr{0xfd, 0x6c, 0, 0x62, 10: 3}},
		{api.Sid{Do: toRecover}, api.Addr{0xfd, 0x6c, 0, 0x62, 10: 4}},
		{api.Sid{Do: toSteer}, api.Addr{0xfd, 0x6c, 0, 0x62, 10: 5}},
		{api.Sid{Do: toLearn}, api.Addr{0xfd, 0x6c, 0, 0x62, 10: 6}},
		{api.Sid{Do: 7}, api.Addr{0xfd, 0x6c, 0, 0x62, 10: 7}},
		{api.Sid{Do: 255}, api.Addr{0xfd, 0x6c, 0, 0x62, 10: 255}},
		{api.Sid{Arg: 1}, api.Addr{0xfd, 0x6c, 0, 0x62, 15: 1}},
		{api.Sid{Arg: 255}, api.Addr{0xfd, 0x6c, 0, 0x62, 15: 255}},
		{api.Sid{Arg: 256}, api.Addr{0xfd, 0x6c, 0, 0x62, 14: 1}},
		{api.Sid{Arg: 65536}, api.Addr{0xfd, 0x6c, 0, 0x62, 13: 1}},
		{api.Sid{Arg: 1 << 24}, api.Addr{0xfd, 0x6c, 0, 0x62, 12: 1}},
		{api.Sid{Arg: 4294967295}, api.Addr{0xfd, 0x6c, 0, 0x62, 12: 255, 13: 255, 14: 255, 15: 255}},
		{api.Sid{Node: 0x0102, Do: 3, Arg: 0x04050607}, api.Addr{0xfd, 0x6c, 0, 0x62, 0, 0, 0, 0, 1, 2, 3, 0, 4, 5, 6, 7}},
		{api.Sid{Node: 65535, Do: 255, Arg: 4294967295}, api.Addr{0xfd, 0x6c, 0, 0x62, 0, 0, 0, 0, 255, 255, 255, 0, 255, 255, 255, 255}},
	} {
		wantMade(t, c.s, c.want)
	}
}

func TestMakeEachOfMany(t *testing.T) {
	for _, s := range segments() {
		wantMade(t, s, madeBy(t, s))
	}
}

// Example 2 of the whole: a segment of our own as text.
func TestMakeAsText(t *testing.T) {
	for _, c := range []struct {
		s    api.Sid
		want string
	}{
		{api.Sid{Node: 3, Do: toSteer}, "fd6c:62::3:500:0:0"},
		{api.Sid{Node: 0, Do: toLearn, Arg: 2}, "fd6c:62::600:0:2"},
		{api.Sid{}, "fd6c:62::"},
		{api.Sid{Node: 65535, Do: 255, Arg: 4294967295}, "fd6c:62::ffff:ff00:ffff:ffff"},
	} {
		a, e := Make(c.s)
		if got := addr.Text(a); got != c.want || e != api.OK {
			t.Errorf("Make(%+v): %s %d, want %s", c.s, got, e, c.want)
		}
	}
}

func TestMakeOfNumbersThatNoSegmentHas(t *testing.T) {
	for _, node := range noNodes() {
		for _, do := range []int{0, 1, 6, 7, 255} {
			wantNotMade(t, api.Sid{Node: node, Do: do, Arg: 1})
		}
	}
	for _, do := range noDos() {
		for _, node := range []int{0, 1, 256, 65535} {
			wantNotMade(t, api.Sid{Node: node, Do: do, Arg: 1})
		}
	}
	for _, node := range noNodes() {
		for _, do := range noDos() {
			wantNotMade(t, api.Sid{Node: node, Do: do})
		}
	}
}

func TestSplit(t *testing.T) {
	for _, c := range []struct {
		a    api.Addr
		want api.Sid
	}{
		{api.Addr{0xfd, 0x6c, 0, 0x62}, api.Sid{}},
		{api.Addr{0xfd, 0x6c, 0, 0x62, 9: 1}, api.Sid{Node: 1}},
		{api.Addr{0xfd, 0x6c, 0, 0x62, 8: 1}, api.Sid{Node: 256}},
		{api.Addr{0xfd, 0x6c, 0, 0x62, 8: 255, 9: 255}, api.Sid{Node: 65535}},
		{api.Addr{0xfd, 0x6c, 0, 0x62, 10: 7}, api.Sid{Do: 7}},
		{api.Addr{0xfd, 0x6c, 0, 0x62, 10: 255}, api.Sid{Do: 255}},
		{api.Addr{0xfd, 0x6c, 0, 0x62, 12: 1}, api.Sid{Arg: 1 << 24}},
		{api.Addr{0xfd, 0x6c, 0, 0x62, 13: 1}, api.Sid{Arg: 65536}},
		{api.Addr{0xfd, 0x6c, 0, 0x62, 14: 1}, api.Sid{Arg: 256}},
		{api.Addr{0xfd, 0x6c, 0, 0x62, 15: 1}, api.Sid{Arg: 1}},
		{api.Addr{0xfd, 0x6c, 0, 0x62, 0, 0, 0, 0, 1, 2, 3, 0, 4, 5, 6, 7}, api.Sid{Node: 0x0102, Do: 3, Arg: 0x04050607}},
		{api.Addr{0xfd, 0x6c, 0, 0x62, 0, 0, 0, 0, 255, 255, 255, 0, 255, 255, 255, 255}, api.Sid{Node: 65535, Do: 255, Arg: 4294967295}},
	} {
		wantSplit(t, c.a, c.want, true)
	}
}

// Example 1: `::` is none; nor is any other that is not as the chapter says, were it just by a bit.
func TestSplitOfNone(t *testing.T) {
	wantSplit(t, api.Addr{}, api.Sid{}, false)
	for _, a := range foreign(t) {
		wantSplit(t, a, api.Sid{}, false)
	}
}

// Each bit of each address counts: it makes another segment, or none.
func TestSplitOfEachBit(t *testing.T) {
	for _, s := range []api.Sid{{}, {Node: 3, Do: toSteer, Arg: 7}, {Node: 43981, Do: 90, Arg: 2779096485}, {Node: 65535, Do: 255, Arg: 4294967295}} {
		for bit := range 128 {
			a := madeBy(t, s)
			a[bit/8] ^= 128 >> (bit % 8)
			want, is := s, true
			switch {
			case bit < 64 || bit >= 88 && bit < 96:
				want, is = api.Sid{}, false
			case bit < 80:
				want.Node ^= 1 << (79 - bit)
			case bit < 88:
				want.Do ^= 1 << (87 - bit)
			default:
				want.Arg ^= 1 << (127 - bit)
			}
			wantSplit(t, a, want, is)
		}
	}
}

func TestSplitOfMany(t *testing.T) {
	found := 0
	for seed := range 8000 {
		a := near(t, seed)
		want, is := splitBy(a)
		wantSplit(t, a, want, is)
		if is {
			found++
		}
		a = mixed(seed)
		want, is = splitBy(a)
		wantSplit(t, a, want, is)
	}
	if found < 1000 || found > 7000 {
		t.Errorf("%d of 8000 addresses are ours: too few or too many for a test", found)
	}
}

func TestNode(t *testing.T) {
	for _, c := range []struct {
		n    int
		want api.Addr
	}{
		{0, api.Addr{0xfd, 0x6c, 0, 0x62}},
		{1, api.Addr{0xfd, 0x6c, 0, 0x62, 9: 1}},
		{2, api.Addr{0xfd, 0x6c, 0, 0x62, 9: 2}},
		{255, api.Addr{0xfd, 0x6c, 0, 0x62, 9: 255}},
		{256, api.Addr{0xfd, 0x6c, 0, 0x62, 8: 1}},
		{258, api.Addr{0xfd, 0x6c, 0, 0x62, 8: 1, 9: 2}},
		{65535, api.Addr{0xfd, 0x6c, 0, 0x62, 8: 255, 9: 255}},
	} {
		if got := Node(c.n); got != c.want {
			t.Errorf("Node(%d): %v, want %v", c.n, got, c.want)
		}
	}
}

func TestNodeOfEachNumber(t *testing.T) {
	for n := -1000; n < 67000; n++ {
		made, e := Make(api.Sid{Node: n})
		if got := Node(n); got != made {
			t.Errorf("Node(%d): %v, want %v", n, got, made)
		}
		if is := n >= 0 && n <= 65535; is != (e == api.OK) || is == (made == api.Addr{}) {
			t.Errorf("Make of node %d: %v %d", n, made, e)
		}
	}
	for _, n := range noNodes() {
		if got := Node(n); got != (api.Addr{}) {
			t.Errorf("Node(%d): %v, want nothing", n, got)
		}
	}
}

// P12.2

func TestIs(t *testing.T) {
	for _, node := range nodes() {
		for _, do := range []int{0, 1, 2, 3, 4, 5, 6, 7, 128, 254, 255} {
			for _, arg := range args() {
				a := madeBy(t, api.Sid{Node: node, Do: do, Arg: arg})
				wantIs(t, a, node, do, true)
				for _, other := range []int{node + 1, node - 1, node ^ 256, node + 65536, node - 65536} {
					wantIs(t, a, other, do, false)
				}
				for _, other := range []int{do + 1, do - 1, do ^ 128, do + 256, do - 256} {
					wantIs(t, a, node, other, false)
					wantIs(t, a, node+1, other, false)
					wantIs(t, a, node^1, other, false)
				}
			}
		}
	}
}

// A node and a do are not taken for each other, nor an Arg for one of them.
func TestIsOfEachField(t *testing.T) {
	a := madeBy(t, api.Sid{Node: 1, Do: 2, Arg: 3})
	for node := range 5 {
		for do := range 5 {
			wantIs(t, a, node, do, node == 1 && do == 2)
		}
	}
}

func TestIsOfNone(t *testing.T) {
	for _, a := range foreign(t) {
		wantIs(t, a, 0, 0, false)
		wantIs(t, a, 1, 0, false)
		wantIs(t, a, 3, toSteer, false)
		wantIs(t, a, 65535, 255, false)
		wantIs(t, a, -1, -1, false)
		wantIs(t, a, int(a[8])*256+int(a[9]), int(a[10]), false)
	}
}

func TestIsOfNumbersThatNoSegmentHas(t *testing.T) {
	for _, s := range []api.Sid{{}, {Node: 1, Do: 6}, {Node: 258, Do: 1, Arg: 9}, {Node: 65535, Do: 255, Arg: 4294967295}} {
		a := madeBy(t, s)
		for _, node := range noNodes() {
			wantIs(t, a, node, s.Do, false)
			for _, do := range noDos() {
				wantIs(t, a, node, do, false)
			}
		}
		for _, do := range noDos() {
			wantIs(t, a, s.Node, do, false)
		}
	}
}

func TestIsOfMany(t *testing.T) {
	r := rand.New(rand.NewSource(3))
	for seed := range 8000 {
		a := near(t, seed)
		s, is := splitBy(a)
		wantIs(t, a, s.Node, s.Do, is)
		node, do := r.Intn(4)-1, r.Intn(9)-1
		if is {
			a[8], a[9], a[10] = 0, byte(r.Intn(3)), byte(r.Intn(8))
		}
		s, is = splitBy(a)
		wantIs(t, a, node, do, is && s.Node == node && s.Do == do)
	}
}

func TestText(t *testing.T) {
	for _, c := range []struct {
		s    api.Sid
		want string
	}{
		{api.Sid{Node: 3, Do: toSteer, Arg: 7}, "3.steer.7"},
		{api.Sid{}, "0.end.0"},
		{api.Sid{Node: 1, Do: toWitness, Arg: 2}, "1.witness.2"},
		{api.Sid{Node: 12, Do: toDecide, Arg: 10}, "12.decide.10"},
		{api.Sid{Node: 255, Do: toLast, Arg: 256}, "255.last.256"},
		{api.Sid{Node: 9, Do: toRecover, Arg: 65536}, "9.recover.65536"},
		{api.Sid{Node: 258, Do: toLearn, Arg: 3}, "258.learn.3"},
		{api.Sid{Node: 65535, Do: toSteer, Arg: 4294967295}, "65535.steer.4294967295"},
		{api.Sid{Do: 7}, "0.7.0"},
		{api.Sid{Do: 8, Arg: 1}, "0.8.1"},
		{api.Sid{Do: 10}, "0.10.0"},
		{api.Sid{Node: 4, Do: 255, Arg: 100}, "4.255.100"},
		{api.Sid{Node: 10, Do: 256, Arg: 9}, "10.256.9"},
		{api.Sid{Node: -1, Do: 9}, "-1.9.0"},
		{api.Sid{Node: 1, Do: -1, Arg: 1}, "1.-1.1"},
		{api.Sid{Node: -65536, Do: -6, Arg: 1 << 31}, "-65536.-6.2147483648"},
		{api.Sid{Node: 65536, Do: toEnd}, "65536.end.0"},
		{api.Sid{Node: math.MinInt, Do: math.MinInt, Arg: 4294967295}, "-9223372036854775808.-9223372036854775808.4294967295"},
		{api.Sid{Node: math.MaxInt, Do: math.MaxInt}, "9223372036854775807.9223372036854775807.0"},
		{api.Sid{Node: math.MinInt, Do: toLearn, Arg: 1}, "-9223372036854775808.learn.1"},
	} {
		wantText(t, c.s, c.want)
	}
}

func TestTextOfMany(t *testing.T) {
	for _, s := range segments() {
		wantText(t, s, textBy(s))
	}
	for do := -300; do <= 300; do++ {
		s := api.Sid{Node: do * 31, Do: do, Arg: uint32(do * 65537)}
		wantText(t, s, textBy(s))
	}
	for _, node := range append(noNodes(), nodes()...) {
		for _, do := range append(noDos(), toEnd, toWitness, toDecide, toLast, toRecover, toSteer, toLearn, 7) {
			s := api.Sid{Node: node, Do: do, Arg: args()[(len(args())+do%len(args()))%len(args())]}
			wantText(t, s, textBy(s))
		}
	}
}

// P12.3

func TestMadeAndSplit(t *testing.T) {
	for _, s := range segments() {
		a, e := Make(s)
		if e != api.OK {
			t.Errorf("Make(%+v): %d", s, e)
		}
		wantSplit(t, a, s, true)
	}
	for n := range 65536 {
		wantSplit(t, Node(n), api.Sid{Node: n}, true)
		wantIs(t, Node(n), n, api.End, true)
	}
}

func TestSplitAndMade(t *testing.T) {
	for seed := range 8000 {
		a := near(t, seed)
		if s, ok := Split(a); ok {
			wantMade(t, s, a)
			wantIs(t, a, s.Node, s.Do, true)
		}
	}
}

// What is split is a segment that can be made, whatever the address; what cannot be made has an address that is none.
func TestNoneIsMadeOfNone(t *testing.T) {
	for _, node := range noNodes() {
		for _, s := range []api.Sid{{Node: node}, {Node: node, Do: 256}, {Do: node}, {Node: 65535, Do: node, Arg: 1}} {
			if s.Do >= 0 && s.Do <= 255 && s.Node >= 0 && s.Node <= 65535 {
				continue
			}
			a, _ := Make(s)
			wantSplit(t, a, api.Sid{}, false)
		}
		wantSplit(t, Node(node), api.Sid{}, false)
		wantIs(t, Node(node), node, api.End, false)
	}
}

// R1 and R4: no call panics, whatever the numbers, and asked again each answers what it answered.
func TestAskedAgain(t *testing.T) {
	numbers := append(append(append(noNodes(), noDos()...), nodes()...), 7, 42)
	for i, node := range numbers {
		for j, do := range numbers {
			s := api.Sid{Node: node, Do: do, Arg: args()[(i+j)%len(args())]}
			made, e := Make(s)
			text, a := Text(s), near(t, i*len(numbers)+j)
			split, ok := Split(a)
			is, of := Is(a, node, do), Node(node)
			for range 2 {
				again, f := Make(s)
				part, yes := Split(a)
				if again != made || f != e || part != split || yes != ok || Is(a, node, do) != is || Node(node) != of || Text(s) != text {
					t.Errorf("%+v and %v: asked again, a call answers another thing", s, a)
				}
			}
		}
	}
}

// R3: an address that was told is the caller's own: changed, it changes no other.
func TestAnswersAreTheCallersOwn(t *testing.T) {
	s := api.Sid{Node: 3, Do: toSteer, Arg: 7}
	want := madeBy(t, s)
	for i := range 16 {
		a, _ := Make(s)
		n := Node(3)
		a[i], n[i] = a[i]^255, n[i]^255
		wantMade(t, s, want)
		if got := Node(3); got != madeBy(t, api.Sid{Node: 3}) {
			t.Errorf("Node(3): %v, behind a change of an address that was told", got)
		}
		wantSplit(t, want, s, true)
	}
}
