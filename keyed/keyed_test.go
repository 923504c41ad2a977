package keyed

import (
	"bytes"
	"encoding/binary"
	"fmt"
	"math"
	"math/big"
	"math/rand"
	"slices"
	"testing"

	"harrier/addr"
	"harrier/api"
	"harrier/flow"
)

// ones is the number of which each bit is 1.
const ones = math.MaxUint64

// plain is the key of the chapter's example.
func plain() Key { return Key{A: 0x0706050403020100, B: 0x0f0e0d0c0b0a0908} }

// keys are the ones at the edges, and some of no plain order.
func keys() []Key {
	l := []Key{plain(), {}, {A: ones, B: ones}, {A: ones}, {B: ones}, {A: plain().A}, {B: plain().B}, {A: plain().B, B: plain().A}, {A: 1}, {B: 1}, {A: 1 << 63}, {B: 1 << 63}}
	r := rand.New(rand.NewSource(15))
	for range 8 {
		l = append(l, Key{A: r.Uint64(), B: r.Uint64()})
	}
	return l
}

// counted are n bytes of which each is one more than the one ahead; the first is 0.
func counted(n int) []byte {
	b := make([]byte, n)
	for i := range b {
		b[i] = byte(i)
	}
	return b
}

func zeros(n int) []byte { return make([]byte, n) }

// full are n bytes of which each bit is 1.
func full(n int) []byte { return bytes.Repeat([]byte{255}, n) }

// mixed are n bytes of no plain order; another seed tells others.
func mixed(n, seed int) []byte {
	b := make([]byte, n)
	rand.New(rand.NewSource(int64(seed))).Read(b)
	return b
}

// lengths are those of all remainders by 8, and those at which the byte of the length goes round.
func lengths() []int {
	var l []int
	for n := range 66 {
		l = append(l, n)
	}
	return append(l, 127, 128, 129, 247, 248, 249, 254, 255, 256, 257, 258, 263, 264, 265, 503, 504, 511, 512, 513, 768, 1000, 1499, 1500, 2999, 3000, 3001)
}

// lists are bytes of each of the lengths: counted, all 0, all 255, and of no plain order.
func lists() [][]byte {
	var l [][]byte
	for _, n := range lengths() {
		l = append(l, counted(n), zeros(n), full(n), mixed(n, n))
	}
	return l
}

// sumBy tells the hash by another way than the program's: by four plain numbers, of bytes behind which zeros and the length
// are put, so that all of them are words.
func sumBy(k Key, b []byte) uint64 {
	l := slices.Clone(b)
	for len(l)%8 != 7 {
		l = append(l, 0)
	}
	l = append(l, byte(len(b)%256))
	seed := []byte("somepseudorandomlygeneratedbytes")
	v0, v1 := k.A^binary.BigEndian.Uint64(seed), k.B^binary.BigEndian.Uint64(seed[8:])
	v2, v3 := k.A^binary.BigEndian.Uint64(seed[16:]), k.B^binary.BigEndian.Uint64(seed[24:])
	left := func(x uint64, n int) uint64 { return x<<n | x>>(64-n) }
	rounds := func(n int) {
		for ; n > 0; n-- {
			v0, v2 = v0+v1, v2+v3
			v1, v3 = left(v1, 13)^v0, left(v3, 16)^v2
			v0, v2 = left(v0, 32)+v3, v2+v1
			v3, v1 = left(v3, 21)^v0, left(v1, 17)^v2
			v2 = left(v2, 32)
		}
	}
	for ; len(l) > 0; l = l[8:] {
		m := binary.LittleEndian.Uint64(l)
		v3 ^= m
		rounds(2)
		v0 ^= m
	}
	v2 ^= 255
	rounds(4)
	return v0 ^ v1 ^ v2 ^ v3
}

// ports are numbers that a segment may have, and such as it may not, at the ends.
func ports() []int {
	return []int{0, 1, 80, 127, 128, 255, 256, 258, 4000, 32767, 32768, 65280, 65535,
		-1, -2, -80, -255, -256, -65535, -65536, -65537, -1 << 32, math.MinInt + 1, math.MinInt,
		65536, 65537, 65616, 131071, 1 << 31, 1 << 32, 1<<32 + 80, math.MaxInt - 1, math.MaxInt}
}

// some is a flow of which no field is as another.
func some() api.Flow {
	return api.Flow{Src: addr.Of(0x2001, 0xdb8, 0, 0, 1, 2, 3, 4), Sport: 4000, Dst: addr.Of(0x2001, 0xdb8, 0, 0, 0, 0, 0, 0xff), Dport: 80}
}

// flows are flows of each of the ports at each end, with several addresses.
func flows() []api.Flow {
	whole := api.Addr(full(16))
	l := []api.Flow{{}, some(), flow.Back(some()), {Src: whole, Sport: 65535, Dst: whole, Dport: 65535}}
	for i, n := range ports() {
		for j, m := range ports() {
			l = append(l, api.Flow{Sport: n, Dport: m}, api.Flow{Src: api.Addr(mixed(16, i)), Sport: n, Dst: api.Addr(mixed(16, 100+j)), Dport: m})
		}
	}
	return l
}

// flowBytes tells the flow's bytes by another way than the program's.
func flowBytes(f api.Flow) []byte {
	cut := func(n int) uint16 { return uint16((n%65536 + 65536) % 65536) }
	b := slices.Clone(f.Src[:])
	b = binary.BigEndian.AppendUint16(b, cut(f.Sport))
	b = append(b, f.Dst[:]...)
	return binary.BigEndian.AppendUint16(b, cut(f.Dport))
}

// numbers are those of one byte and of four, and such as four bytes can't hold.
func numbers() []int {
	return []int{0, 1, 2, 3, 16, 61, 127, 128, 254, 255, 256, 257, 65535, 65536, 1 << 24, 16909060, 1<<31 - 1, 1 << 31, 1<<31 + 1, 1<<32 - 2, 1<<32 - 1,
		-1, -2, -255, -256, -65536, -1<<31 + 1, -1 << 31, -1<<31 - 1, -1<<32 + 1, -1 << 32, -1<<32 - 1, math.MinInt + 1, math.MinInt,
		1 << 32, 1<<32 + 1, 1<<32 + 255, 1 << 33, 1 << 40, 1<<48 + 7, math.MaxInt - 1, math.MaxInt}
}

// pairBytes tells the bytes of two numbers by another way than the program's: what is left of one is counted up to be 0 and more.
func pairBytes(a, b int) []byte {
	const round = 1 << 32
	cut := func(n int) uint32 { return uint32((n%round + round) % round) }
	return binary.BigEndian.AppendUint32(binary.BigEndian.AppendUint32(nil, cut(a)), cut(b))
}

// wantSum asks Sum.
func wantSum(t *testing.T, k Key, b []byte, want uint64) {
	t.Helper()
	if got := Sum(k, b); got != want {
		t.Errorf("Sum(%x, %d bytes %v): %016x, want %016x", k, len(b), b[:min(len(b), 40)], got, want)
	}
}

// wantFlow asks Flow.
func wantFlow(t *testing.T, k Key, f api.Flow, want uint64) {
	t.Helper()
	if got := Flow(k, f); got != want {
		t.Errorf("Flow(%x, %+v): %016x, want %016x", k, f, got, want)
	}
}

// wantPair asks Pair.
func wantPair(t *testing.T, k Key, a, b int, want uint64) {
	t.Helper()
	if got := Pair(k, a, b); got != want {
		t.Errorf("Pair(%x, %d, %d): %016x, want %016x", k, a, b, got, want)
	}
}

// wantMod asks Mod.
func wantMod(t *testing.T, u uint64, n, want int) {
	t.Helper()
	if got := Mod(u, n); got != want {
		t.Errorf("Mod(%d, %d): %d, want %d", u, n, got, want)
	}
}

// others holds hashes against each other: of what is not the same none may be told twice.
type others struct {
	t    *testing.T
	told map[uint64]string
}

func newOthers(t *testing.T) others { return others{t, map[uint64]string{}} }

func (o others) add(u uint64, what string) {
	o.t.Helper()
	if was, ok := o.told[u]; ok {
		o.t.Errorf("%s and %s: both %016x", was, what, u)
	}
	o.told[u] = what
}

// P15.1 and P15.2: the sums that stand here as numbers are those of another program's SipHash-2-4.

func TestSumOfTheExample(t *testing.T) {
	wantSum(t, plain(), nil, 0x726fdb47dd0e0e31)
	wantSum(t, plain(), []byte{0, 1, 2, 3, 4, 5, 6, 7, 8, 9, 10, 11, 12, 13, 14}, 0xa129ca6149be45e5)
}

func TestSumOfNothing(t *testing.T) {
	for _, c := range []struct {
		k    Key
		want uint64
	}{
		{plain(), 0x726fdb47dd0e0e31},
		{Key{}, 0x1e924b9d737700d7},
		{Key{A: ones, B: ones}, 0x35dd279ee86ce565},
		{Key{A: ones}, 0xa4e3fdab06a40925},
		{Key{B: ones}, 0x4d0617e48cf8737b},
		{Key{A: plain().A}, 0xa402ec86ee528132},
		{Key{B: plain().B}, 0x6c3fa37c19150328},
	} {
		for _, b := range [][]byte{nil, {}, make([]byte, 0, 9), full(9)[:0], full(9)[9:]} {
			wantSum(t, c.k, b, c.want)
		}
	}
}

func TestSumOfEachLength(t *testing.T) {
	for n, want := range []uint64{
		0x726fdb47dd0e0e31, 0x74f839c593dc67fd, 0x0d6c8009d9a94f5a, 0x85676696d7fb7e2d,
		0xcf2794e0277187b7, 0x18765564cd99a68d, 0xcbc9466e58fee3ce, 0xab0200f58b01d137,
		0x93f5f5799a932462, 0x9e0082df0ba9e4b0, 0x7a5dbbc594ddb9f3, 0xf4b32f46226bada7,
		0x751e8fbc860ee5fb, 0x14ea5627c0843d90, 0xf723ca908e7af2ee, 0xa129ca6149be45e5,
		0x3f2acc7f57c29bdb, 0x699ae9f52cbe4794, 0x4bc1b3f0968dd39c, 0xbb6dc91da77961bd,
		0xbed65cf21aa2ee98, 0xd0f2cbb02e3b67c7, 0x93536795e3a33e88, 0xa80c038ccd5ccec8,
		0xb8ad50c6f649af94, 0xbce192de8a85b8ea, 0x17d835b85bbb15f3, 0x2f2e6163076bcfad,
		0xde4daaaca71dc9a5, 0xa6a2506687956571, 0xad87a3535c49ef28, 0x32d892fad841c342,
		0x7127512f72f27cce, 0xa7f32346f95978e3, 0x12e0b01abb051238, 0x15e034d40fa197ae,
		0x314dffbe0815a3b4, 0x027990f029623981, 0xcadcd4e59ef40c4d, 0x9abfd8766a33735c,
		0x0e3ea96b5304a7d0, 0xad0c42d6fc585992, 0x187306c89bc215a9, 0xd4a60abcf3792b95,
		0xf935451de4f21df2, 0xa9538f0419755787, 0xdb9acddff56ca510, 0xd06c98cd5c0975eb,
		0xe612a3cb9ecba951, 0xc766e62cfcadaf96, 0xee64435a9752fe72, 0xa192d576b245165a,
		0x0a8787bf8ecb74b2, 0x81b3e73d20b49b6f, 0x7fa8220ba3b2ecea, 0x245731c13ca42499,
		0xb78dbfaf3a8d83bd, 0xea1ad565322a1a0b, 0x60e61c23a3795013, 0x6606d7e446282b93,
		0x6ca4ecb15c5f91e1, 0x9f626da15c9625f3, 0xe51b38608ef25f57, 0x958a324ceb064572,
	} {
		wantSum(t, plain(), counted(n), want)
	}
}

func TestSumByEachKey(t *testing.T) {
	at := [7]int{1, 8, 17, 255, 256, 257, 512}
	for _, c := range []struct {
		k    Key
		of   func(n int) []byte
		want [7]uint64
	}{
		{plain(), counted, [7]uint64{0x74f839c593dc67fd, 0x93f5f5799a932462, 0x699ae9f52cbe4794, 0xa9c169fec74db21a, 0x999d0526d2a7bfd7, 0x8a817b8d55b29748, 0x883b57c3e55ada0e}},
		{plain(), zeros, [7]uint64{0x74f839c593dc67fd, 0x39d3851ca07681a7, 0xad46f6034bd4b856, 0x91c97abab4cdbf56, 0x7408248d2694d61c, 0x95b2db4c59428646, 0x8c27ab541c5b67bc}},
		{plain(), full, [7]uint64{0xcad12f7b27ddb802, 0x2a68ff30a3d9da34, 0x28a447da70a115da, 0x0a13f5bfc90d46c4, 0xa7eafdce7eaf859f, 0x7954351b0a747ab1, 0x0ccab73b60c75cfa}},
		{Key{}, counted, [7]uint64{0x8b5a0baa49fbc58d, 0xc72b1c24fc2f7938, 0xe05a24800edfeef2, 0x893cc0a3c6b6cc38, 0x9d3b1c289668a3d1, 0xe8398ddcd9729e96, 0x26a05b4cab122e05}},
		{Key{}, zeros, [7]uint64{0x8b5a0baa49fbc58d, 0xe849e8bb6ffe2567, 0x30fed5b17612e278, 0x8b21238d5527793f, 0x80d978d6fa417c1e, 0x2d0244227390b43d, 0x8c1f7f6785370046}},
		{Key{}, full, [7]uint64{0x20dd4eb33d9590f2, 0x8050c18b6ac9d15e, 0x1be2b405e26ef4fc, 0xed6ad001220f838e, 0x3d1256410bf214a1, 0x638e4604e867face, 0x294f1507212736ec}},
		{Key{A: ones, B: ones}, counted, [7]uint64{0x63e8f5ae8073d111, 0x60102fcb8d4d6ae7, 0x372ec52d9f3b6029, 0x6b7375786d64f023, 0xae6222ca85b72680, 0x62c6d61ed89a5f2b, 0xaaf1da53e7fad23c}},
		{Key{A: ones, B: ones}, zeros, [7]uint64{0x63e8f5ae8073d111, 0x93e9a1f113e70a00, 0xdae8fdca9aa3512c, 0x6b30a7d3c1f5b672, 0x90dad0fb812baea8, 0xc70fea7105b10b4f, 0x952aa1723f12789e}},
		{Key{A: ones, B: ones}, full, [7]uint64{0xeb45304aebf4e114, 0xf13e77491777f9d0, 0x5bcee02a61c29836, 0xb6da527cf0f604e3, 0xc1774ddffc4ff77e, 0xf4ba1291607478ee, 0x0a68ec116f24c349}},
		{Key{A: ones}, counted, [7]uint64{0x9979006651df2010, 0xd71db6e97a78de3a, 0x5cd8adf926d160db, 0xf1bf633545669151, 0x38443d08313eb3e1, 0x9adf6f191902567f, 0x9630a8ed3e015c63}},
		{Key{A: ones}, zeros, [7]uint64{0x9979006651df2010, 0x298a0ec060aa1c1c, 0x132a195e4ae0e0be, 0x1f1e48178ff81aa7, 0xb5680187f21ec925, 0x168c35153f1a344e, 0xe40773610dee5624}},
		{Key{A: ones}, full, [7]uint64{0x853bdf538a6b81d3, 0xd9ed40d616ce2c30, 0x3e45719a46651815, 0x5e438500fe45efee, 0xc3170caa2d2634c7, 0x66493305fb0ef9e1, 0x99c8e4f40a29151b}},
		{Key{B: ones}, counted, [7]uint64{0x21486ac81ab8e5f0, 0x30d885738bce1a9d, 0x8f160265a5f9f99f, 0x9d8637650a1424c3, 0xa0eb6466b10d6117, 0x37e0fd663ff2705e, 0x5ed04c9f366d349e}},
		{Key{B: ones}, zeros, [7]uint64{0x21486ac81ab8e5f0, 0x0f59645622c5d5ce, 0xd615023334612042, 0x632e021a49ca15ce, 0x001bb06338fc90bf, 0x89c4bb3ddc2257d0, 0x1074341da1550df8}},
		{Key{B: ones}, full, [7]uint64{0x9a188d9d3302a3b0, 0x7877d321da340a4d, 0xbec037ea6d9c2a42, 0xb8f0d9fa75af2b26, 0xe51532e763677d1b, 0x39aa98f2f1c7c00b, 0x31a3600d2511606d}},
		{Key{A: plain().A}, counted, [7]uint64{0x86a88668a52fcf93, 0xeb8e9b0661a15490, 0xb669170b0f7d08ca, 0x524f39406cdbd012, 0x707b67bb6cdf434b, 0xb91b0a208ef946ed, 0xa3e876a10e64836c}},
		{Key{A: plain().A}, zeros, [7]uint64{0x86a88668a52fcf93, 0x02f4c034ec7d04fa, 0x17ab98336bfaf0c3, 0xd6e7ec9c7176fe5d, 0xcc8fd0a19a2ed642, 0x28cf501219feff1a, 0xeb5ad263b3ae3b3f}},
		{Key{A: plain().A}, full, [7]uint64{0x720a7d3b53e5382c, 0x129830eb51b29510, 0x37476957b17c9b07, 0x7feb753e6b53ca0e, 0xa9c8e0ee6f3665a9, 0xcae9e9030ca2a057, 0x3f91de47ce52956c}},
		{Key{B: plain().B}, counted, [7]uint64{0xf5bbef5e38f50a53, 0xf870039825500714, 0x20f5d4d25c01dcdd, 0xa42be6091c3c7099, 0xef868ba92175b976, 0x5f9a185e09dd7ff0, 0xc15b7a16b8d411d6}},
		{Key{B: plain().B}, zeros, [7]uint64{0xf5bbef5e38f50a53, 0x77febba6226a9577, 0x4f24bd425821e61d, 0x26e226884569b23b, 0xf2f96dc0a25a5069, 0x9ca49e90bef4c802, 0x2874c16777f2309c}},
		{Key{B: plain().B}, full, [7]uint64{0xd4ac179d1c888e3d, 0x23d4c1a7a2d95f2d, 0x48ed41c1d67f9e67, 0xee8c8b33145b7a0d, 0x8eb6ea50211a7b35, 0x252d522eb45148a8, 0xb3e75d9d6263da94}},
	} {
		for i, n := range at {
			wantSum(t, c.k, c.of(n), c.want[i])
		}
	}
}

func TestSumOfManyBytes(t *testing.T) {
	for _, c := range []struct {
		k                    Key
		counted, zeros, full uint64
	}{
		{plain(), 0x4bfe7defddad7896, 0xa29e057a11221a00, 0x57d6e6f5cb665dc3},
		{Key{}, 0xd41867e030d694b1, 0x5f115a9922e72686, 0xa85230fdffb51745},
		{Key{A: ones, B: ones}, 0xabc1b0aa57bbaede, 0xb82166230799c371, 0x647f9d8d699ba1fd},
		{Key{A: ones}, 0xe82d6e217aca5561, 0x01c98aa052699921, 0x05ba8fb00570249e},
		{Key{B: ones}, 0xe53b3916ef66ee0d, 0xd13030a714b695f8, 0xb9bc605dc4fe335c},
		{Key{A: plain().A}, 0x5e5ae381ece8736e, 0xe20358693e02c11c, 0x89092c527854cf58},
		{Key{B: plain().B}, 0x099ec64a4afa0336, 0xf01bd98072543745, 0x7aff6556908c621e},
	} {
		wantSum(t, c.k, counted(3000), c.counted)
		wantSum(t, c.k, zeros(3000), c.zeros)
		wantSum(t, c.k, full(3000), c.full)
	}
	for _, n := range []int{65535, 65536, 65537, 100003} {
		wantSum(t, plain(), mixed(n, n), sumBy(plain(), mixed(n, n)))
	}
}

// A byte of 128 and more is no number below 0, at whichever place of a word: of a whole one, and of what is left.
func TestSumOfHighBytes(t *testing.T) {
	for place, want := range [8]uint64{
		0xa137ff4e764bb04d, 0xa3efb9c26ae871cb, 0x9e8caf312e3c6ae4, 0x058199c69d901f1b,
		0x7907106e52858445, 0xf2b3d76566a74af6, 0xfb713dbe6a2718f3, 0x45f93120d11c42c2,
	} {
		b := zeros(8)
		b[place] = 128
		wantSum(t, plain(), b, want)
	}
	for place, want := range [7]uint64{
		0xbb8ed66382ea5564, 0x12aa269323cf136c, 0x4cabc56dba936f6d, 0x3bd7fb926fa96863,
		0xc3746e1a32dad3fa, 0x1737a36e30897fef, 0x9686aad6ae35e6e7,
	} {
		b := zeros(7)
		b[place] = 255
		wantSum(t, plain(), b, want)
	}
}

// Each byte, whatever it is, at each place of the first word, of the second one and of what is left.
func TestSumOfEachByte(t *testing.T) {
	for place := range 23 {
		for x := range 256 {
			for _, b := range [][]byte{zeros(23), full(23), counted(23), zeros(place + 1)} {
				b[place] = byte(x)
				wantSum(t, plain(), b, sumBy(plain(), b))
			}
		}
	}
}

func TestSumOfMany(t *testing.T) {
	for _, k := range keys() {
		for _, b := range lists() {
			wantSum(t, k, b, sumBy(k, b))
		}
	}
	r := rand.New(rand.NewSource(1))
	for i := range 5000 {
		k := Key{A: r.Uint64(), B: r.Uint64()}
		b := mixed(r.Intn(300), i)
		wantSum(t, k, b, sumBy(k, b))
	}
}

func TestSumOfOtherKeys(t *testing.T) {
	for _, b := range [][]byte{nil, {0}, counted(8), full(15), zeros(16), mixed(300, 1)} {
		for _, k := range []Key{plain(), {}, {A: ones, B: ones}} {
			o := newOthers(t)
			o.add(Sum(k, b), "the key")
			for bit := range 64 {
				o.add(Sum(Key{A: k.A ^ 1<<bit, B: k.B}, b), fmt.Sprint("another bit ", bit, " of A"))
				o.add(Sum(Key{A: k.A, B: k.B ^ 1<<bit}, b), fmt.Sprint("another bit ", bit, " of B"))
			}
		}
		o := newOthers(t)
		for _, k := range keys() {
			o.add(Sum(k, b), fmt.Sprintf("%x", k))
		}
	}
}

func TestSumOfOtherBytes(t *testing.T) {
	for _, n := range []int{1, 7, 8, 9, 15, 16, 17, 40, 257} {
		for _, b := range [][]byte{zeros(n), full(n), mixed(n, 2)} {
			o := newOthers(t)
			o.add(Sum(plain(), b), "the bytes")
			for place := range b {
				for bit := range 8 {
					b[place] ^= 1 << bit
					o.add(Sum(plain(), b), fmt.Sprint("another bit ", bit, " of byte ", place))
					b[place] ^= 1 << bit
				}
			}
		}
	}
}

// The same bytes in another order are others.
func TestSumOfAnotherOrder(t *testing.T) {
	b := counted(24)
	o := newOthers(t)
	o.add(Sum(plain(), b), "the order")
	for i := range b {
		for j := range i {
			b[i], b[j] = b[j], b[i]
			o.add(Sum(plain(), b), fmt.Sprint("bytes ", i, " and ", j, " exchanged"))
			b[i], b[j] = b[j], b[i]
		}
	}
}

// Bytes that are all the same, of which there are more, have another sum, also where the byte of the length is the same.
func TestSumOfOtherLengths(t *testing.T) {
	for _, k := range keys() {
		for _, of := range []func(n int) []byte{zeros, full} {
			o := newOthers(t)
			for n := range 1300 {
				o.add(Sum(k, of(n)), fmt.Sprint(n, " bytes"))
			}
		}
	}
	o := newOthers(t)
	for n := range 18 {
		o.add(Sum(plain(), append([]byte{7}, zeros(n)...)), fmt.Sprint(n, " zeros behind"))
	}
}

// P15.3

func TestFlow(t *testing.T) {
	wantFlow(t, plain(), some(), 0x65f83916f2f8db26)
	wantFlow(t, plain(), flow.Back(some()), 0xf4c141a5fc98b4a0)
	wantFlow(t, plain(), api.Flow{}, 0x115c6b8926ef399f)
	wantFlow(t, plain(), api.Flow{Src: api.Addr(full(16)), Sport: 65535, Dst: api.Addr(full(16)), Dport: 65535}, 0x0b2ebbee73a3d1ed)
}

func TestFlowOfMany(t *testing.T) {
	ks := keys()
	for i, f := range flows() {
		k := ks[i%len(ks)]
		wantFlow(t, k, f, Sum(k, flow.Bytes(f)))
		wantFlow(t, k, f, sumBy(k, flowBytes(f)))
	}
}

// Ports below 0 and above 65535 count modulo 65536.
func TestFlowOfPortsThatMayNotBe(t *testing.T) {
	for _, c := range []struct{ port, as int }{
		{-1, 65535}, {-2, 65534}, {-80, 65456}, {-65535, 1}, {-65536, 0}, {-65537, 65535}, {65536, 0}, {65537, 1}, {131071, 65535},
		{1<<32 + 80, 80}, {math.MinInt, 0}, {math.MinInt + 1, 1}, {math.MaxInt, 65535}, {math.MaxInt - 1, 65534},
	} {
		for _, k := range keys() {
			f, g := some(), some()
			f.Sport, g.Sport = c.port, c.as
			wantFlow(t, k, f, sumBy(k, flowBytes(g)))
			f, g = some(), some()
			f.Dport, g.Dport = c.port, c.as
			wantFlow(t, k, f, sumBy(k, flowBytes(g)))
		}
	}
}

func TestFlowOfOthers(t *testing.T) {
	for _, f := range []api.Flow{{}, some()} {
		o := newOthers(t)
		o.add(Flow(plain(), f), "the flow")
		for bit := range 128 {
			a, b := f, f
			a.Src[bit/8] ^= 1 << (bit % 8)
			b.Dst[bit/8] ^= 1 << (bit % 8)
			o.add(Flow(plain(), a), fmt.Sprint("another bit ", bit, " of Src"))
			o.add(Flow(plain(), b), fmt.Sprint("another bit ", bit, " of Dst"))
		}
		for bit := range 16 {
			a, b := f, f
			a.Sport ^= 1 << bit
			b.Dport ^= 1 << bit
			o.add(Flow(plain(), a), fmt.Sprint("another bit ", bit, " of Sport"))
			o.add(Flow(plain(), b), fmt.Sprint("another bit ", bit, " of Dport"))
		}
	}
	f := some()
	o := newOthers(t)
	o.add(Flow(plain(), f), "the flow")
	o.add(Flow(plain(), flow.Back(f)), "the other way")
	o.add(Flow(plain(), api.Flow{Src: f.Dst, Sport: f.Sport, Dst: f.Src, Dport: f.Dport}), "addresses exchanged")
	o.add(Flow(plain(), api.Flow{Src: f.Src, Sport: f.Dport, Dst: f.Dst, Dport: f.Sport}), "ports exchanged")
	for _, k := range keys()[1:] {
		o.add(Flow(k, f), fmt.Sprintf("%x", k))
	}
}

func TestPair(t *testing.T) {
	for _, c := range []struct {
		a, b int
		want uint64
	}{
		{0, 0, 0x39d3851ca07681a7},
		{1, 2, 0x4576d597a6f3b3cb},
		{2, 1, 0x3fa8c996d1bfe26b},
		{3, 1, 0x654e2da9ce50ea72},
		{255, 128, 0xc168d75a1f0e7a96},
		{256, 65536, 0xab9c15a6652d9cae},
		{16909060, 84281096, 0x95d2f9f9731548e1},
		{4294967295, 2147483648, 0xf0eec9ea41853549},
		{2147483648, 4294967295, 0x62d8afcbeab186c9},
		{-1, -2, 0xb39ee35069cb82c8},
		{4294967296, 4294967297, 0x3322bdf1c953f80c},
		{math.MinInt, math.MaxInt, 0x5e68b92251a603fe},
		{math.MaxInt, math.MinInt, 0x68b88f4caf658465},
	} {
		wantPair(t, plain(), c.a, c.b, c.want)
	}
	wantPair(t, plain(), 16909060, 84281096, Sum(plain(), []byte{1, 2, 3, 4, 5, 6, 7, 8}))
}

func TestPairOfMany(t *testing.T) {
	for _, k := range keys() {
		for _, a := range numbers() {
			for _, b := range numbers() {
				wantPair(t, k, a, b, Sum(k, pairBytes(a, b)))
				wantPair(t, k, a, b, sumBy(k, pairBytes(a, b)))
			}
		}
	}
}

// Numbers that four bytes can't hold count modulo 2^32, in each place.
func TestPairOfNumbersThatGoRound(t *testing.T) {
	for _, c := range []struct {
		n  int
		as uint32
	}{
		{-1, 1<<32 - 1}, {-2, 1<<32 - 2}, {-1 << 31, 1 << 31}, {-1<<31 - 1, 1<<31 - 1}, {-1<<32 + 1, 1}, {-1 << 32, 0}, {-1<<32 - 1, 1<<32 - 1},
		{1 << 32, 0}, {1<<32 + 1, 1}, {1<<33 - 1, 1<<32 - 1}, {1 << 40, 0}, {1<<48 + 7, 7},
		{math.MinInt, 0}, {math.MinInt + 1, 1}, {math.MaxInt, 1<<32 - 1}, {math.MaxInt - 1, 1<<32 - 2},
	} {
		as := binary.BigEndian.AppendUint32(nil, c.as)
		wantPair(t, plain(), c.n, 9, Sum(plain(), slices.Concat(as, []byte{0, 0, 0, 9})))
		wantPair(t, plain(), 9, c.n, Sum(plain(), slices.Concat([]byte{0, 0, 0, 9}, as)))
		wantPair(t, plain(), c.n, c.n, Sum(plain(), slices.Concat(as, as)))
	}
}

func TestPairOfOthers(t *testing.T) {
	o := newOthers(t)
	for a := range 64 {
		for b := range 64 {
			o.add(Pair(plain(), a, b), fmt.Sprint(a, " and ", b))
		}
	}
	for bit := 6; bit < 32; bit++ {
		o.add(Pair(plain(), 1<<bit, 0), fmt.Sprint("bit ", bit, " of a"))
		o.add(Pair(plain(), 0, 1<<bit), fmt.Sprint("bit ", bit, " of b"))
	}
	for _, k := range keys()[1:] {
		o.add(Pair(k, 1, 2), fmt.Sprintf("%x", k))
	}
}

func TestMod(t *testing.T) {
	for _, c := range []struct {
		u       uint64
		n, want int
	}{
		{0, 1, 0}, {1, 1, 0}, {ones, 1, 0},
		{0, 2, 0}, {1, 2, 1}, {2, 2, 0}, {ones, 2, 1}, {ones - 1, 2, 0},
		{0, 61, 0}, {60, 61, 60}, {61, 61, 0}, {63, 61, 2}, {ones, 61, 15},
		{0, math.MaxInt, 0}, {math.MaxInt - 1, math.MaxInt, math.MaxInt - 1}, {math.MaxInt, math.MaxInt, 0}, {1 << 63, math.MaxInt, 1},
		{ones - 1, math.MaxInt, 0}, {ones, math.MaxInt, 1}, {ones - 2, math.MaxInt, math.MaxInt - 1},
		{1 << 63, 3, 2}, {1 << 63, 1 << 62, 0}, {1<<63 + 5, 1 << 62, 5}, {1 << 32, 1000, 296}, {1<<32 + 1, 1<<32 - 1, 2}, {1<<32 + 1, 1 << 32, 1},
	} {
		wantMod(t, c.u, c.n, c.want)
	}
}

func TestModOfMany(t *testing.T) {
	by := []int{1, 2, 3, 7, 8, 60, 61, 62, 255, 256, 1000, 65535, 65536, 1<<31 - 1, 1 << 31, 1<<32 - 1, 1 << 32, 1<<32 + 1, 1 << 62, math.MaxInt - 1, math.MaxInt}
	r := rand.New(rand.NewSource(3))
	for range 200 {
		by = append(by, 1+int(r.Uint64()>>1>>r.Intn(63))%math.MaxInt)
	}
	for _, n := range by {
		us := []uint64{0, 1, uint64(n) - 1, uint64(n), uint64(n) + 1, 2*uint64(n) - 1, 2 * uint64(n), math.MaxInt - 1, math.MaxInt, 1 << 63, 1<<63 + 1, ones - 1, ones}
		for range 50 {
			us = append(us, r.Uint64()>>r.Intn(64))
		}
		for _, u := range us {
			want := new(big.Int).Mod(new(big.Int).SetUint64(u), big.NewInt(int64(n)))
			wantMod(t, u, n, int(want.Int64()))
		}
	}
}

func TestModByNone(t *testing.T) {
	for _, n := range []int{0, -1, -2, -61, -1 << 31, -1 << 32, math.MinInt + 1, math.MinInt} {
		for _, u := range []uint64{0, 1, 2, 61, 63, 1<<32 - 1, 1 << 32, math.MaxInt, 1 << 63, ones - 1, ones} {
			wantMod(t, u, n, 0)
		}
	}
}

// R1: no call panics, whatever it is given.
func TestWhateverIsGiven(t *testing.T) {
	for _, k := range keys() {
		for _, b := range lists() {
			Sum(k, b)
		}
		for _, f := range flows() {
			Flow(k, f)
		}
		for _, a := range numbers() {
			for _, b := range numbers() {
				Pair(k, a, b)
				Mod(k.A, a)
				if u := k.B ^ uint64(a); b > 0 && (Mod(u, b) < 0 || Mod(u, b) >= b) {
					t.Errorf("Mod(%d, %d): %d", u, b, Mod(u, b))
				}
			}
		}
	}
}

// R3: what is handed in stays as it was, with the room behind it, and that room does not count.
func TestBytesStay(t *testing.T) {
	for _, b := range lists() {
		for _, behind := range [][]byte{zeros(20), full(20), mixed(20, 4)} {
			whole := slices.Concat(full(3), b, behind)
			was := slices.Clone(whole)
			list := whole[3 : 3+len(b)]
			wantSum(t, plain(), list, sumBy(plain(), b))
			if !bytes.Equal(whole, was) {
				t.Errorf("%d bytes, or what lies around them, changed", len(b))
			}
			wantSum(t, plain(), list[:len(b):len(b)], sumBy(plain(), b))
		}
	}
}

// What was hashed is not kept: bytes that changed behind a call are others to the next one.
func TestBytesThatChange(t *testing.T) {
	b := counted(30)
	was := Sum(plain(), b)
	for i := range b {
		b[i] = 200
	}
	wantSum(t, plain(), b, sumBy(plain(), bytes.Repeat([]byte{200}, 30)))
	wantSum(t, plain(), counted(30), was)
}

func TestNilAndEmptyAreTheSame(t *testing.T) {
	for _, k := range keys() {
		wantSum(t, k, nil, sumBy(k, nil))
		wantSum(t, k, []byte{}, Sum(k, nil))
	}
}

// R4: asked again, each call answers what it answered, whatever was asked between.
func TestAskedAgain(t *testing.T) {
	ks, bs, fs, ns := keys(), lists(), flows(), numbers()
	ask := func(i int) []uint64 {
		k, n := ks[i%len(ks)], ns[i%len(ns)]
		return []uint64{Sum(k, bs[i]), Flow(k, fs[i]), Pair(k, n, i), uint64(Mod(k.A, n))}
	}
	var told [][]uint64
	for i := range bs {
		told = append(told, ask(i))
	}
	for i := range told {
		i = len(told) - 1 - i
		if got := ask(i); !slices.Equal(got, told[i]) {
			t.Errorf("%d again: %x, want %x", i, got, told[i])
		}
	}
}
