package addr

import (
	"bytes"
	"math"
	"math/big"
	"net/netip"
	"slices"
	"strconv"
	"strings"
	"testing"

	"harrier/api"
)

// modulo16 is n modulo 65536, told by another way than the program's.
func modulo16(n int) int {
	return int(new(big.Int).Mod(big.NewInt(int64(n)), big.NewInt(65536)).Int64())
}

// edges are numbers within 16 bits, below 0, from 65536 on, and at the ends of int.
func edges() []int {
	return []int{0, 1, 9, 10, 15, 16, 255, 256, 258, 32767, 32768, 43981, 65534, 65535,
		65536, 65537, 65536 + 258, 131071, 131072, 1<<32 - 1, 1 << 32, 1<<48 + 7, math.MaxInt - 65535, math.MaxInt - 1, math.MaxInt,
		-1, -2, -255, -256, -257, -65535, -65536, -65537, -131072, -1 << 32, math.MinInt, math.MinInt + 1, math.MinInt + 65535}
}

// mixed tells an address of no plain order; another seed tells another.
func mixed(seed int) api.Addr {
	var a api.Addr
	x := uint32(seed)*2654435761 + 12345
	for i := range a {
		x = x*1664525 + 1013904223
		a[i] = byte(x >> 24)
	}
	return a
}

// full is the address of all bytes 255.
func full() api.Addr {
	return api.Addr(bytes.Repeat([]byte{255}, 16))
}

// patterned tells an address whose i-th number is 0, where the bit i of p is 0, and else no 0: of one to four digits by turns.
func patterned(p int) api.Addr {
	nonzero := [8]int{0xa, 0x1b, 0xc2d, 0xe3f4, 0xf, 0x10, 0x100, 0x1000}
	var words []int
	for i, w := range nonzero {
		words = append(words, w*(p>>i&1))
	}
	return Of(words...)
}

// addrs are addresses of all 0, of no 0, of one bit, of each pattern of numbers 0, and of no plain order.
func addrs() []api.Addr {
	l := []api.Addr{{}, full(), {0: 1}, {1: 1}, {0: 128}, {15: 1}, {14: 1}, {7: 255}, {8: 255}}
	for p := range 256 {
		l = append(l, patterned(p))
	}
	for seed := range 200 {
		l = append(l, mixed(seed))
	}
	return l
}

// bitsOf tells the 128 bits of a, as digits 0 and 1.
func bitsOf(a api.Addr) string {
	s := new(big.Int).SetBytes(a[:]).Text(2)
	return strings.Repeat("0", 128-len(s)) + s
}

// firstBits is what bits stands for in Prefix and In.
func firstBits(bits int) int {
	if bits < 0 {
		return 0
	}
	if bits > 128 {
		return 128
	}
	return bits
}

// counts are numbers of bits: each from below 0 to above 128, and far off.
func counts() []int {
	l := []int{math.MinInt, math.MinInt + 1, math.MinInt + 8, math.MinInt + 120, math.MinInt + 128, -1 << 32, -65536, -256, -129, -128, -9, -8, -7,
		136, 160, 255, 256, 257, 384, 65536, 1 << 32, 1<<32 + 1, math.MaxInt - 128, math.MaxInt - 1, math.MaxInt}
	for bits := -3; bits <= 131; bits++ {
		l = append(l, bits)
	}
	return l
}

// P3.1

func TestOf(t *testing.T) {
	for _, c := range []struct {
		words []int
		want  api.Addr
	}{
		{nil, api.Addr{}},
		{[]int{}, api.Addr{}},
		{[]int{0}, api.Addr{}},
		{[]int{1}, api.Addr{1: 1}},
		{[]int{258}, api.Addr{1, 2}},
		{[]int{0, 258}, api.Addr{2: 1, 3: 2}},
		{[]int{0x2001, 0xdb8}, api.Addr{0x20, 1, 0xd, 0xb8}},
		{[]int{1, 2, 3, 4, 5, 6, 7}, api.Addr{1: 1, 3: 2, 5: 3, 7: 4, 9: 5, 11: 6, 13: 7}},
		{[]int{1, 2, 3, 4, 5, 6, 7, 8}, api.Addr{1: 1, 3: 2, 5: 3, 7: 4, 9: 5, 11: 6, 13: 7, 15: 8}},
		{[]int{1, 2, 3, 4, 5, 6, 7, 8, 9}, api.Addr{1: 1, 3: 2, 5: 3, 7: 4, 9: 5, 11: 6, 13: 7, 15: 8}},
		{[]int{0, 0, 0, 0, 0, 0, 0, 0, 1, 2, 3}, api.Addr{}},
		{[]int{65535, 65536, 65537, -1, -65535, -65536, math.MaxInt, math.MinInt}, api.Addr{0: 255, 1: 255, 5: 1, 6: 255, 7: 255, 9: 1, 12: 255, 13: 255}},
	} {
		if got := Of(c.words...); got != c.want {
			t.Errorf("Of(%v): %v, want %v", c.words, got, c.want)
		}
	}
}

func TestOfEachNumberAtEachPlace(t *testing.T) {
	for place := range 10 {
		for _, n := range edges() {
			words := make([]int, place+1)
			words[place] = n
			var want api.Addr
			if place < 8 {
				want[2*place], want[2*place+1] = byte(modulo16(n)/256), byte(modulo16(n)%256)
			}
			if got := Of(words...); got != want {
				t.Errorf("Of(%v): %v, want %v", words, got, want)
			}
		}
	}
}

func TestOfEachCount(t *testing.T) {
	for _, n := range []int{0, 1, 2, 3, 4, 5, 6, 7, 8, 9, 10, 16, 17, 100000} {
		words := make([]int, n)
		var want api.Addr
		for i := range words {
			words[i] = 0x1112 * (i%15 + 1)
			if i < 8 {
				want[2*i], want[2*i+1] = byte(words[i]/256), byte(words[i]%256)
			}
		}
		if got := Of(words...); got != want {
			t.Errorf("Of %d numbers: %v, want %v", n, got, want)
		}
	}
}

func TestWords(t *testing.T) {
	for _, c := range []struct {
		a    api.Addr
		want [8]int
	}{
		{api.Addr{}, [8]int{}},
		{full(), [8]int{65535, 65535, 65535, 65535, 65535, 65535, 65535, 65535}},
		{api.Addr{1, 2}, [8]int{258}},
		{api.Addr{14: 1, 15: 2}, [8]int{7: 258}},
		{api.Addr{0: 128, 3: 128}, [8]int{32768, 128}},
		{api.Addr{0, 1, 0, 2, 0, 3, 0, 4, 0, 5, 0, 6, 0, 7, 0, 8}, [8]int{1, 2, 3, 4, 5, 6, 7, 8}},
	} {
		if got := Words(c.a); got != c.want {
			t.Errorf("Words(%v): %v, want %v", c.a, got, c.want)
		}
	}
	for _, a := range addrs() {
		words := Words(a)
		for i, w := range words {
			if w != int(a[2*i])*256+int(a[2*i+1]) {
				t.Errorf("Words(%v): %v", a, words)
			}
		}
		if got := Of(words[:]...); got != a {
			t.Errorf("Of(%v): %v, want %v", words, got, a)
		}
	}
}

func TestWordsOfNumbersModulo(t *testing.T) {
	for _, n := range edges() {
		if got, want := Words(Of(7, n, 9)), ([8]int{7, modulo16(n), 9}); got != want {
			t.Errorf("Words of Of(7, %d, 9): %v, want %v", n, got, want)
		}
	}
}

func TestLess(t *testing.T) {
	for _, c := range []struct {
		a, b api.Addr
		want bool
	}{
		{api.Addr{}, api.Addr{}, false},
		{full(), full(), false},
		{api.Addr{}, full(), true},
		{full(), api.Addr{}, false},
		{api.Addr{}, api.Addr{15: 1}, true},
		{api.Addr{15: 1}, api.Addr{}, false},
		{api.Addr{0: 1}, api.Addr{15: 255}, false},
		{api.Addr{15: 255}, api.Addr{0: 1}, true},
		{api.Addr{0: 127}, api.Addr{0: 128}, true},
		{api.Addr{0: 128}, api.Addr{0: 127}, false},
		{Of(1, 2, 3), Of(1, 2, 4), true},
		{Of(1, 3, 0), Of(1, 2, 9), false},
		{Of(1, 255), Of(1, 256), true},
	} {
		if got := Less(c.a, c.b); got != c.want {
			t.Errorf("Less(%v, %v): %v", c.a, c.b, got)
		}
	}
	for _, a := range addrs() {
		for _, b := range addrs() {
			if got := Less(a, b); got != (new(big.Int).SetBytes(a[:]).Cmp(new(big.Int).SetBytes(b[:])) < 0) {
				t.Errorf("Less(%v, %v): %v", a, b, got)
			}
		}
	}
}

func TestLessByEachByte(t *testing.T) {
	for place := range 16 {
		for _, c := range [][2]byte{{0, 1}, {1, 2}, {127, 128}, {0, 255}, {254, 255}} {
			a, b := mixed(place), mixed(place)
			a[place], b[place] = c[0], c[1]
			for behind := place + 1; behind < 16; behind++ {
				a[behind], b[behind] = 255, 0
			}
			if !Less(a, b) || Less(b, a) || Less(a, a) {
				t.Errorf("Less of %v and %v: %v %v", a, b, Less(a, b), Less(b, a))
			}
		}
	}
}

func TestPrefix(t *testing.T) {
	a := Of(0x2001, 0xdb8, 0xffff)
	for _, c := range []struct {
		bits int
		want api.Addr
	}{
		{0, api.Addr{}}, {-1, api.Addr{}}, {math.MinInt, api.Addr{}},
		{2, api.Addr{}}, {3, api.Addr{0x20}}, {8, api.Addr{0x20}}, {15, api.Addr{0x20}}, {16, Of(0x2001)},
		{20, Of(0x2001)}, {21, Of(0x2001, 0x800)}, {28, Of(0x2001, 0xdb0)}, {29, Of(0x2001, 0xdb8)}, {32, Of(0x2001, 0xdb8)}, {33, Of(0x2001, 0xdb8, 0x8000)}, {47, Of(0x2001, 0xdb8, 0xfffe)},
		{48, a}, {127, a}, {128, a}, {129, a}, {256, a}, {math.MaxInt, a},
	} {
		if got := Prefix(a, c.bits); got != c.want {
			t.Errorf("Prefix(%v, %d): %v, want %v", a, c.bits, got, c.want)
		}
	}
}

func TestPrefixOfEachCount(t *testing.T) {
	for _, a := range []api.Addr{{}, full(), {0: 128}, {15: 1}, patterned(170), mixed(1), mixed(2)} {
		for _, bits := range counts() {
			n := firstBits(bits)
			want := bitsOf(a)[:n] + strings.Repeat("0", 128-n)
			if got := bitsOf(Prefix(a, bits)); got != want {
				t.Errorf("Prefix(%v, %d): %s, want %s", a, bits, got, want)
			}
		}
	}
}

func TestIn(t *testing.T) {
	net := Of(0x2001, 0xdb8)
	for _, c := range []struct {
		a    api.Addr
		bits int
		want bool
	}{
		{Of(0x2001, 0xdb8, 1, 2, 3, 4, 5, 6), 32, true},
		{Of(0x2001, 0xdb8, 1, 2, 3, 4, 5, 6), 47, true},
		{Of(0x2001, 0xdb8, 1, 2, 3, 4, 5, 6), 48, false},
		{Of(0x2001, 0xdb9), 31, true},
		{Of(0x2001, 0xdb9), 32, false},
		{Of(0x2001, 0xdb9), 16, true},
		{Of(0x2002, 0xdb8), 32, false},
		{Of(0x2002, 0xdb8), 0, true},
		{Of(0x2002, 0xdb8), -1, true},
		{net, 128, true},
		{net, 129, true},
		{api.Addr{0x20, 1, 0xd, 0xb8, 15: 1}, 127, true},
		{api.Addr{0x20, 1, 0xd, 0xb8, 15: 1}, 128, false},
		{api.Addr{0x20, 1, 0xd, 0xb8, 15: 1}, 129, false},
	} {
		if got := In(c.a, net, c.bits); got != c.want {
			t.Errorf("In(%v, %v, %d): %v", c.a, net, c.bits, got)
		}
	}
}

// What is behind the first bits of the net counts as little as what is behind those of the address.
func TestInByEachBit(t *testing.T) {
	for _, a := range []api.Addr{{}, full(), mixed(3)} {
		for place := range 128 {
			b := a
			b[place/8] ^= 128 >> (place % 8)
			rest := b
			for i := place/8 + 1; i < 16; i++ {
				rest[i] = ^rest[i]
			}
			for _, bits := range counts() {
				want := firstBits(bits) <= place
				if In(a, b, bits) != want || In(b, a, bits) != want || In(a, rest, bits) != want || In(rest, a, bits) != want {
					t.Errorf("In of %v and %v, %d: not %v", a, b, bits, want)
				}
				if !In(b, b, bits) {
					t.Errorf("In(%v, the same, %d): false", b, bits)
				}
			}
		}
	}
}

// P3.2

func TestText(t *testing.T) {
	for _, c := range []struct {
		words []int
		want  string
	}{
		{[]int{0x2001, 0xdb8, 0, 0, 1, 0, 0, 1}, "2001:db8::1:0:0:1"},
		{[]int{0x2001, 0xdb8, 0, 0, 0, 0, 0, 0xff}, "2001:db8::ff"},
		{[]int{0xfd6c, 0x62, 0, 0, 3, 0x500, 0, 0}, "fd6c:62::3:500:0:0"},
		{nil, "::"},
		{[]int{1}, "1::"},
		{[]int{7: 1}, "::1"},
		{[]int{1, 7: 1}, "1::1"},
		{[]int{0xffff, 0xffff, 0xffff, 0xffff, 0xffff, 0xffff, 0xffff, 0xffff}, "ffff:ffff:ffff:ffff:ffff:ffff:ffff:ffff"},
		{[]int{1, 2, 3, 4, 5, 6, 7, 8}, "1:2:3:4:5:6:7:8"},
		{[]int{0x1234, 0x5678, 0x9abc, 0xdef0, 0xa, 0xb0, 0xc00, 0xd000}, "1234:5678:9abc:def0:a:b0:c00:d000"},
		// One number 0 is no row.
		{[]int{0, 2, 3, 4, 5, 6, 7, 8}, "0:2:3:4:5:6:7:8"},
		{[]int{1, 0, 2, 3, 4, 5, 6, 7}, "1:0:2:3:4:5:6:7"},
		{[]int{1, 2, 3, 4, 5, 6, 7, 0}, "1:2:3:4:5:6:7:0"},
		{[]int{0, 2, 0, 4, 0, 6, 0, 8}, "0:2:0:4:0:6:0:8"},
		// Two are.
		{[]int{0, 0, 3, 4, 5, 6, 7, 8}, "::3:4:5:6:7:8"},
		{[]int{1, 2, 3, 0, 0, 6, 7, 8}, "1:2:3::6:7:8"},
		{[]int{1, 2, 3, 4, 5, 6, 0, 0}, "1:2:3:4:5:6::"},
		// The longest one counts, the first of several as long.
		{[]int{1, 0, 0, 2, 0, 0, 0, 3}, "1:0:0:2::3"},
		{[]int{1, 0, 0, 0, 2, 0, 0, 3}, "1::2:0:0:3"},
		{[]int{0, 0, 3, 0, 0, 6, 0, 0}, "::3:0:0:6:0:0"},
		{[]int{1, 0, 0, 4, 5, 6, 0, 0}, "1::4:5:6:0:0"},
		{[]int{0, 0, 0, 4, 5, 0, 0, 0}, "::4:5:0:0:0"},
		{[]int{0, 0, 0, 4, 0, 0, 0, 0}, "0:0:0:4::"},
		{[]int{0, 2, 0, 0, 5, 0, 0, 0}, "0:2:0:0:5::"},
		{[]int{0, 0, 0, 0, 0, 0, 0x102, 0x304}, "::102:304"},
		// Addresses that stand for shorter ones elsewhere are told as all others.
		{[]int{0, 0, 0, 0, 0, 0xffff, 0x102, 0x304}, "::ffff:102:304"},
	} {
		if got := Text(Of(c.words...)); got != c.want {
			t.Errorf("Text of %x: %s, want %s", c.words, got, c.want)
		}
	}
}

// written is Text by its definition: of all rows of two numbers 0 or more the longest, the first of several as long, is looked for by trying each.
func written(a api.Addr) string {
	var parts []string
	for i := range 8 {
		parts = append(parts, strconv.FormatUint(uint64(a[2*i])<<8|uint64(a[2*i+1]), 16))
	}
	for size := 8; size >= 2; size-- {
		for at := 0; at+size <= 8; at++ {
			if strings.Join(parts[at:at+size], "") == strings.Repeat("0", size) {
				return strings.Join(parts[:at], ":") + "::" + strings.Join(parts[at+size:], ":")
			}
		}
	}
	return strings.Join(parts, ":")
}

func TestTextOfEachPattern(t *testing.T) {
	for _, a := range addrs() {
		got := Text(a)
		if want := written(a); got != want {
			t.Errorf("Text(%v): %s, want %s", a, got, want)
		}
		if want := netip.AddrFrom16(a).String(); got != want {
			t.Errorf("Text(%v): %s, want %s", a, got, want)
		}
	}
}

func TestTextOfEachNumber(t *testing.T) {
	for n := range 65536 {
		want := "1:2:3:" + strconv.FormatInt(int64(n), 16) + ":5:6:7:8"
		if got := Text(Of(1, 2, 3, n, 5, 6, 7, 8)); got != want {
			t.Errorf("Text: %s, want %s", got, want)
		}
	}
}

// P3.3

func wantAddr(t *testing.T, s string, want api.Addr) {
	t.Helper()
	if got, e := Read(s); got != want || e != api.OK {
		t.Errorf("Read(%q): %v %d, want %v", s, got, e, want)
	}
}

// wantRefused holds Read against ErrForm, beside which the address is all 0.
func wantRefused(t *testing.T, s string) {
	t.Helper()
	if got, e := Read(s); got != (api.Addr{}) || e != api.ErrForm {
		if len(s) > 100 {
			s = s[:100] + ".."
		}
		t.Errorf("Read(%q): %v %d, want ErrForm", s, got, e)
	}
}

func TestRead(t *testing.T) {
	for s, words := range map[string][]int{
		"::":              {},
		"0::":             {},
		"::0":             {},
		"0::0":            {},
		"0000::0000":      {},
		"0:0:0:0:0:0:0:0": {},
		"0000:0000:0000:0000:0000:0000:0000:0000": {},
		"::1":                               {7: 1},
		"1::":                               {1},
		"1::2":                              {1, 7: 2},
		"1:2::3":                            {1, 2, 7: 3},
		"1::2:3":                            {1, 6: 2, 7: 3},
		"::1:0":                             {6: 1},
		"2001:DB8::1":                       {0x2001, 0xdb8, 7: 1},
		"2001:db8::ff":                      {0x2001, 0xdb8, 7: 255},
		"2001:db8::1:0:0:1":                 {0x2001, 0xdb8, 4: 1, 7: 1},
		"fd6c:62::3:500:0:0":                {0xfd6c, 0x62, 4: 3, 5: 0x500},
		"1:2:3:4:5:6:7:8":                   {1, 2, 3, 4, 5, 6, 7, 8},
		"0001:0020:0300:4000:05:060:0700:8": {1, 0x20, 0x300, 0x4000, 5, 0x60, 0x700, 8},
		"FFFF:ffff:FfFf:fFfF:ffff:ffff:ffff:ffff": {65535, 65535, 65535, 65535, 65535, 65535, 65535, 65535},
		"abcd:ef01:2345:6789:ABCD:EF01:2345:6789": {0xabcd, 0xef01, 0x2345, 0x6789, 0xabcd, 0xef01, 0x2345, 0x6789},
		// :: for one group 0 alone.
		"::2:3:4:5:6:7:8": {0, 2, 3, 4, 5, 6, 7, 8},
		"1::3:4:5:6:7:8":  {1, 0, 3, 4, 5, 6, 7, 8},
		"1:2:3::5:6:7:8":  {1, 2, 3, 0, 5, 6, 7, 8},
		"1:2:3:4:5:6::8":  {1, 2, 3, 4, 5, 6, 0, 8},
		"1:2:3:4:5:6:7::": {1, 2, 3, 4, 5, 6, 7, 0},
		"::ffff:102:304":  {5: 65535, 6: 0x102, 7: 0x304},
	} {
		wantAddr(t, s, Of(words...))
	}
}

func TestReadRefuses(t *testing.T) {
	for _, s := range []string{
		// No text, colons alone, and colons that stand alone at an end.
		"", ":", ":::", "::::", ":::::::", "::::::::", ":1", "1:", ":1::", "::1:", ":1:2:3:4:5:6:7:8", "1:2:3:4:5:6:7:8:", ":1:2:3:4:5:6:7", "1:2:3:4:5:6:7:", ":2:3:4:5:6:7:8", ":::1", "1:::", "1:::2",
		// :: twice.
		"1::2::3", "::1::", "::::1", "1::::2", "::1:2:3:4::", "1::2:3:4:5:6::7", "1:2:3::4:5::6:7",
		// :: with eight groups and more.
		"::1:2:3:4:5:6:7:8", "1:2:3:4:5:6:7:8::", "1:2:3:4::5:6:7:8", "1::2:3:4:5:6:7:8", "1:2:3:4:5:6:7::8", "1:2:3:4:5::6:7:8:9", "::1:2:3:4:5:6:7:8:9", "1:2:3:4:5:6:7:8:9::",
		// Too few groups, and too many.
		"1", "0", "ffff", "1:2", "1:2:3:4:5:6:7", "1:2:3:4:5:6:7:8:9", "1:2:3:4:5:6:7:8:9:a", "0:0:0:0:0:0:0", "0:0:0:0:0:0:0:0:0",
		// Too many digits.
		"12345::", "::12345", "00000::", "::00001", "1::10000::", "1:2:3:4:5:6:7:00008", "00001:2:3:4:5:6:7:8", "1:2:3:45678:5:6:7:8", "2001db8::", "0x1::", "::0x1",
		// Other letters and signs.
		"g::", "::G", "1::z", "::-1", "::+1", "-::", "::1_0", "1.2.3.4", "::1.2.3.4", "::ffff:1.2.3.4", "fe80::1%1", "fe80::1%", "[::]", "[::1]", "::1/64", "::/0", "1;2;3;4;5;6;7;8", "::o", "::l", "\"::\"", "::'",
		// Spaces.
		" ", " ::", ":: ", ": :", "::1 ", " ::1", ":: 1", "1 ::", "1: 2:3:4:5:6:7:8", "1:2:3:4:5:6:7:8 ", "1:2:3:4:5:6:7: ", "::1\n", "\t::", "::1\r", "::\x00", "\x00::", "\x00", "::1\x00", "\u00a0::", "\ufeff::1",
		// Bytes that are no text, and letters of more than a byte.
		"\xff", "::\xff", "\xff::", "1\xff::", "::\x80", "::\xc3", "::\xc3\x28", "::\xe2\x82", "::\xf0\x9f\x92", "::1\xc2", "::\xed\xa0\x80", "::\xf4\x90\x80\x80", "\xb1::", "::\xe1",
		"::é", "::１", "１::", "::ａ", "::٣", "::\ufffd", "：：", ":：", "::\u0130", "::\u0161", "::\u0141",
	} {
		wantRefused(t, s)
	}
}

// TestReadOfEachLetter: of all letters, and of all bytes, the 22 digits alone are such, at each place of a group.
func TestReadOfEachLetter(t *testing.T) {
	const lower, upper = "0123456789abcdef", "0123456789ABCDEF"
	try := func(s string) {
		t.Helper()
		n := max(strings.Index(lower, s), strings.Index(upper, s))
		if n < 0 && s != ":" {
			wantRefused(t, "::"+s)
			wantRefused(t, s+"::")
			wantRefused(t, "1:2:3:4:5:6:7:"+s)
			wantRefused(t, "::1"+s)
			wantRefused(t, "::"+s+"1")
		} else if n >= 0 {
			wantAddr(t, "::"+s, api.Addr{15: byte(n)})
			wantAddr(t, s+"::", api.Addr{1: byte(n)})
			wantAddr(t, "::1"+s+"23", api.Addr{14: byte(16 + n), 15: 0x23})
			wantAddr(t, "1:2:3:4:5:6:7:"+s+s+s+s, Of(1, 2, 3, 4, 5, 6, 7, 0x1111*n))
		}
	}
	for b := range 256 {
		try(string([]byte{byte(b)}))
	}
	for r := range rune(0x3000) {
		try(string(r))
	}
	for r := rune(0x3000); r <= 0x10ffff; r += 7 {
		try(string(r))
	}
}

func TestReadOfEachNumber(t *testing.T) {
	for n := range 65536 {
		digits := strconv.FormatInt(int64(n), 16)
		filled := strings.Repeat("0", 4-len(digits)) + digits
		wantAddr(t, digits+"::1", Of(n, 0, 0, 0, 0, 0, 0, 1))
		wantAddr(t, "1::"+filled, Of(1, 0, 0, 0, 0, 0, 0, n))
		wantAddr(t, "1::"+strings.ToUpper(filled)+":1", Of(1, 0, 0, 0, 0, 0, n, 1))
	}
}

// heldAgainst holds Read against another reader, of texts without points and percent signs, of which that one takes more.
func heldAgainst(t *testing.T, s string) {
	t.Helper()
	if a, err := netip.ParseAddr(s); err == nil {
		wantAddr(t, s, api.Addr(a.As16()))
	} else {
		wantRefused(t, s)
	}
}

// TestReadOfAllShortTexts: all texts of colons and digits 1, as long as nine groups are.
func TestReadOfAllShortTexts(t *testing.T) {
	for size := range 18 {
		for p := range 1 << size {
			s := make([]byte, size)
			for i := range s {
				s[i] = ":1"[p>>i&1]
			}
			heldAgainst(t, string(s))
		}
	}
}

// TestReadOfGroups: all texts of up to ten groups, with :: in the place of each colon by turns, and at both ends.
func TestReadOfGroups(t *testing.T) {
	for n := range 11 {
		for _, one := range []string{"", "0", "f", "F0", "abc", "9D0f", "00000", "g"} {
			parts := slices.Repeat([]string{"1"}, n)
			for place := range n {
				parts[place] = one
				plain := strings.Join(parts, ":")
				heldAgainst(t, plain)
				heldAgainst(t, "::"+plain)
				heldAgainst(t, plain+"::")
				for at := range n {
					heldAgainst(t, strings.Join(parts[:at], ":")+"::"+strings.Join(parts[at:], ":"))
				}
				parts[place] = "1"
			}
		}
	}
}

// TestReadOfChangedTexts: of each text that tells an address, those that lack a byte, have one twice, or another in its place.
func TestReadOfChangedTexts(t *testing.T) {
	for _, a := range addrs() {
		s := Text(a)
		for i := range s {
			heldAgainst(t, s[:i]+s[i+1:])
			heldAgainst(t, s[:i+1]+s[i:])
			for _, other := range []byte(":0fFgG/@` \x00\xff") {
				heldAgainst(t, s[:i]+string([]byte{other})+s[i+1:])
			}
		}
	}
}

func TestReadOfLongTexts(t *testing.T) {
	for _, s := range []string{"0", "1", "f", ":", "::", "1:", ":1", "1::", " ", "\xff", "é", "\x00"} {
		long := strings.Repeat(s, 1<<20)
		wantRefused(t, long)
		wantRefused(t, "::"+long)
		wantRefused(t, long+"::")
		wantRefused(t, "1:2:3:4:5:6:7:"+long)
		wantRefused(t, long+":2:3:4:5:6:7:8")
	}
}

// P3.4

func TestWrittenIsRead(t *testing.T) {
	for _, a := range addrs() {
		wantAddr(t, Text(a), a)
		wantAddr(t, strings.ToUpper(Text(a)), a)
	}
	for n := range 65536 {
		a := Of(n, 0, n, 0, 0, n, 0, n)
		wantAddr(t, Text(a), a)
	}
	// Numbers 0 in the most of places, and others in the rest.
	for seed := range 20000 {
		a := mixed(seed)
		for i := range 8 {
			if a[2*i]%3 != 0 {
				a[2*i], a[2*i+1] = 0, 0
			}
		}
		wantAddr(t, Text(a), a)
	}
}

func TestReadIsWritten(t *testing.T) {
	for s, want := range map[string]string{
		"2001:0DB8:0000:0000:0001:0000:0000:0001": "2001:db8::1:0:0:1",
		"0:0:0:0:0:0:0:0":                         "::",
		"1:0::":                                   "1::",
		"1::3:4:5:6:7:8":                          "1:0:3:4:5:6:7:8",
		"1:0:0:2::3":                              "1:0:0:2::3",
		"1::2:0:0:0:3":                            "1:0:0:2::3",
		"::2:0:0:0:0:0:0":                         "0:2::",
		"1:2:3:4:5:6:7:00":                        "1:2:3:4:5:6:7:0",
	} {
		if a, e := Read(s); Text(a) != want || e != api.OK {
			t.Errorf("Text of Read(%q): %s %d, want %s", s, Text(a), e, want)
		}
	}
}

// R3, R4: what is handed in stays as it was, with the room behind it; answers are new memory, and the same each time.

func TestArgumentsStay(t *testing.T) {
	whole := edges()
	was := slices.Clone(whole)
	for n := range whole {
		Of(whole[:n]...)
		Of(whole[n:]...)
	}
	if !slices.Equal(whole, was) {
		t.Errorf("Of changed its numbers: %v, were %v", whole, was)
	}

	for _, a := range addrs() {
		b, net, wasNet := a, mixed(5), mixed(5)
		Words(b)
		Text(b)
		for _, bits := range []int{-1, 0, 3, 64, 128, 129} {
			Prefix(b, bits)
			In(b, net, bits)
		}
		Less(b, net)
		if b != a || net != wasNet {
			t.Errorf("changed: %v %v, were %v %v", b, net, a, wasNet)
		}
	}
}

func TestAnswersAreNewMemory(t *testing.T) {
	words := []int{1, 2, 3}
	first := Of(words...)
	words[0] = 9
	if first != Of(1, 2, 3) {
		t.Error("Of keeps its numbers")
	}
	list := Words(first)
	list[1] = 77
	part := Prefix(first, 128)
	part[0] = 77
	if first != Of(1, 2, 3) || Words(first) != [8]int{1, 2, 3} {
		t.Errorf("answers share memory: %v", first)
	}
	a, _ := Read("1::2")
	a[0] = 77
	if again, e := Read("1::2"); again != Of(1, 0, 0, 0, 0, 0, 0, 2) || e != api.OK {
		t.Errorf("Read again: %v %d", again, e)
	}
}

func TestAskedAgain(t *testing.T) {
	for _, a := range addrs() {
		text := Text(a)
		Read("1::2::3")
		Of(9, 9, 9)
		if Text(a) != text || Words(a) != Words(a) || Prefix(a, 77) != Prefix(a, 77) {
			t.Errorf("asked again, another answer of %v", a)
		}
		wantAddr(t, text, a)
	}
}
