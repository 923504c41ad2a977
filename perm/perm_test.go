package perm

import (
	"fmt"
	"math"
	"slices"
	"testing"

	"harrier/keyed"
)

// ones is the number of which each bit is 1.
const ones = math.MaxUint64

// plain is the key of keyed's example.
func plain() keyed.Key { return keyed.Key{A: 0x0706050403020100, B: 0x0f0e0d0c0b0a0908} }

// keys are a plain one, and those that are all 0, all ones, and of which the one half alone is 0.
func keys() []keyed.Key {
	return []keyed.Key{plain(), {}, {A: ones, B: ones}, {A: ones}, {B: ones}, {A: plain().A}, {B: plain().B}}
}

// nodes are numbers that four bytes hold.
func nodes() []int {
	return []int{0, 1, 2, 3, 10, 16, 255, 256, 65535, 65536, 1<<31 - 1, 1 << 31, 1<<32 - 2, 1<<32 - 1}
}

// oddNodes are numbers that four bytes can't hold, each with the one that it is modulo 2^32.
func oddNodes() [][2]int {
	return [][2]int{
		{-1, 1<<32 - 1}, {-2, 1<<32 - 2}, {-16, 1<<32 - 16}, {-1 << 31, 1 << 31}, {-1<<31 - 1, 1<<31 - 1}, {-1<<32 + 1, 1}, {-1 << 32, 0}, {-1<<32 - 1, 1<<32 - 1},
		{1 << 32, 0}, {1<<32 + 1, 1}, {1<<32 + 16, 16}, {1<<33 - 1, 1<<32 - 1}, {1 << 40, 0}, {1<<48 + 7, 7},
		{math.MinInt, 0}, {math.MinInt + 1, 1}, {math.MaxInt, 1<<32 - 1}, {math.MaxInt - 1, 1<<32 - 2},
	}
}

// oddSizes are numbers of which there is no order, prime numbers among them, and such as would be a fine one modulo 2^32.
func oddSizes() []int {
	return []int{1, 0, -1, -2, -3, -61, -1000, 1001, 1002, 1009, 2000, 65536, 1<<31 - 1, 1 << 31, 1 << 32, 1<<32 + 2, 1<<32 + 61, -1<<32 + 61,
		math.MinInt, math.MinInt + 1, math.MaxInt, math.MaxInt - 1}
}

// primes are all prime numbers up to 1000.
func primes() []int {
	return []int{
		2, 3, 5, 7, 11, 13, 17, 19, 23, 29, 31, 37, 41, 43, 47, 53, 59, 61, 67, 71, 73, 79, 83, 89, 97,
		101, 103, 107, 109, 113, 127, 131, 137, 139, 149, 151, 157, 163, 167, 173, 179, 181, 191, 193, 197, 199,
		211, 223, 227, 229, 233, 239, 241, 251, 257, 263, 269, 271, 277, 281, 283, 293,
		307, 311, 313, 317, 331, 337, 347, 349, 353, 359, 367, 373, 379, 383, 389, 397,
		401, 409, 419, 421, 431, 433, 439, 443, 449, 457, 461, 463, 467, 479, 487, 491, 499,
		503, 509, 521, 523, 541, 547, 557, 563, 569, 571, 577, 587, 593, 599,
		601, 607, 613, 617, 619, 631, 641, 643, 647, 653, 659, 661, 673, 677, 683, 691,
		701, 709, 719, 727, 733, 739, 743, 751, 757, 761, 769, 773, 787, 797,
		809, 811, 821, 823, 827, 829, 839, 853, 857, 859, 863, 877, 881, 883, 887,
		907, 911, 919, 929, 937, 941, 947, 953, 967, 971, 977, 983, 991, 997,
	}
}

// sieve tells of each number up to n whether it is a prime number, by another way than the program's: by striking out.
func sieve(n int) []bool {
	is := make([]bool, n+1)
	for i := 2; i <= n; i++ {
		is[i] = true
	}
	for i := 2; i <= n; i++ {
		for j := 2 * i; is[i] && j <= n; j += i {
			is[j] = false
		}
	}
	return is
}

// wantPrime asks Prime.
func wantPrime(t *testing.T, n int, want bool) {
	t.Helper()
	if got := Prime(n); got != want {
		t.Errorf("Prime(%d): %v, want %v", n, got, want)
	}
}

// wantEnds asks Offset and Skip.
func wantEnds(t *testing.T, k keyed.Key, node, m, offset, skip int) {
	t.Helper()
	if got := Offset(k, node, m); got != offset {
		t.Errorf("Offset(%x, %d, %d): %d, want %d", k, node, m, got, offset)
	}
	if got := Skip(k, node, m); got != skip {
		t.Errorf("Skip(%x, %d, %d): %d, want %d", k, node, m, got, skip)
	}
}

// wantOf asks Of.
func wantOf(t *testing.T, k keyed.Key, node, m int, want []int) {
	t.Helper()
	if got := Of(k, node, m); !slices.Equal(got, want) {
		t.Errorf("Of(%x, %d, %d): %v, want %v", k, node, m, got, want)
	}
}

// wantNone asks all calls of a size of which there is no order.
func wantNone(t *testing.T, k keyed.Key, node, m int) {
	t.Helper()
	wantEnds(t, k, node, m, 0, 0)
	wantOf(t, k, node, m, nil)
}

// orderBy tells an order by another way than the program's: each number by its place alone.
func orderBy(offset, skip, m int) []int {
	l := make([]int, m)
	for i := range l {
		l[i] = (offset + i*skip) % m
	}
	return l
}

// hashed is a key and a node, with the hashes of the node and 1, and of the node and 2.
type hashed struct {
	k            keyed.Key
	node         int
	first, other uint64
}

// hashes are those of some nodes by each of the keys, in their order; the numbers were told by another program's SipHash-2-4.
func hashes() []hashed {
	told := [7][8][2]uint64{
		{
			{0x3322bdf1c953f80c, 0x7529f3b2ae656a6d}, {0xee774f6e1e4f56fd, 0x4576d597a6f3b3cb}, {0x3fa8c996d1bfe26b, 0xfad271d4923b64e5}, {0xc13aa2d71cd4152c, 0x84f4864b9df1a723},
			{0xe41e7d6021e45bcf, 0x65d8c37a3123d01d}, {0x8cae08f179f5b490, 0x0d14a9c718edf74c}, {0x7e0a569189c4f5d6, 0xead4205e4c652f08}, {0x36903fc7bc183f32, 0x1683c017e05406f3},
		},
		{
			{0x0a77dc4441ee47ba, 0xd56d28798aff74b3}, {0x262359474b0ffe06, 0x076b9ee721a92da0}, {0x456029e113dc918d, 0x33a84f2b457378fe}, {0xcdf37c5b668bcbd6, 0xd495884b2ea4e9bd},
			{0x87f0acdfe6fff82e, 0xfabb28b49f4de408}, {0xf1ed07c063b4cdc6, 0x8476a61fdbbfc648}, {0xf052e4897cf0ac77, 0xaafc824606e779b5}, {0x9a74873963d462ea, 0x97fb028358e3c21d},
		},
		{
			{0x4fd22f7e7632d4a9, 0xf119f1933ec9c528}, {0xf20e1073cd422d7a, 0x8f6104ddb7712a4f}, {0x8da58147977088ad, 0x89ce49c87c12a927}, {0x90a9f1cccc8190e1, 0x02febf7e7e658b8a},
			{0xbd75edccd63157cb, 0x054fd95aef9ac559}, {0xd4d667b73e3778e8, 0x35b1fcc5741ce76f}, {0xacab654afdcb1670, 0x2c192269a3b95da8}, {0xd4a7582fea693bc6, 0xd9db03eb3f70e2e0},
		},
		{
			{0x3dd09c7786ade758, 0x86b579a6a55cb64f}, {0x9689bbaa724da47a, 0xfa3e4f504909cb1f}, {0x556e99abf7bee631, 0xb4218001c3702ea9}, {0x9edae1eeb72eb1dc, 0x9f69df5b4d0e13d8},
			{0x851de7c09d428085, 0x9f7e76ea1fd52f3e}, {0x3ca7fd5dd2bc7293, 0xafe8bf69f41069c0}, {0x1f902f310e834562, 0xa7ddfabc1679a99b}, {0x8914047323e00820, 0x432b35896f426c8b},
		},
		{
			{0xfb1180eab61b41b4, 0x86491b2aaa4706fe}, {0xca373785dba45638, 0xf883434cc2f1400c}, {0x055c580e49284aa8, 0x5650f88b35b63059}, {0xcce2aa8607bb7176, 0x9bc0abb233929dd1},
			{0x6846fb40f5008594, 0x1135ac54238194b2}, {0xd7d798c8de45fbd6, 0x8129a47493dbce6d}, {0xb3c88c8c7379b220, 0x98513aa3791afe48}, {0xbcb578924b26c05b, 0x8851cd19afcab9d1},
		},
		{
			{0x99b6c88c1127dca8, 0x26ef0fd5c552ee54}, {0x28002f2dc650327e, 0xee0ffaeb393332a7}, {0x2bcd70fa0d3b5097, 0xc2998a9c80637c6b}, {0x4085c43517a147ee, 0x8174b7d26c5d7e82},
			{0x831319b1fc008654, 0x2a5034b9d7b9e978}, {0x4ee77de0469fc2c2, 0x98a5c6a29ae01328}, {0xb80a80a3f89697cf, 0xe6e4eed59d1bff2b}, {0x02a59dda3cb414f2, 0x270316f578a87bba},
		},
		{
			{0xaba1eba569e412a2, 0x3b7568f769b35fb0}, {0x6297511b0993eff8, 0xae32984f2506d614}, {0xf963d229067a8f3c, 0x7feb25a9af9f08af}, {0x14f1706bb7c45a44, 0x1b04cc0486f533a5},
			{0xd211faa1a6118153, 0x52689d03f04635dd}, {0xb973e65da7fa43a7, 0x542ab65510f36bad}, {0x21fb7e546e2b9b91, 0x7bff56c613f3c49d}, {0x8aec3b3ffe7a7f4b, 0x1a9b94c31ce275df},
		},
	}
	var l []hashed
	for i, k := range keys() {
		for j, node := range []int{0, 1, 2, 16, 65535, 1 << 31, 1<<32 - 2, 1<<32 - 1} {
			l = append(l, hashed{k, node, told[i][j][0], told[i][j][1]})
		}
	}
	return l
}

// P16.1

func TestPrimeOfEachUpTo1000(t *testing.T) {
	for n := -1000; n <= 1000; n++ {
		wantPrime(t, n, slices.Contains(primes(), n))
	}
}

func TestPrimeOfEach(t *testing.T) {
	many := 0
	for n, want := range sieve(1000000) {
		wantPrime(t, n, want)
		if want {
			many++
		}
	}
	if many != 78498 {
		t.Errorf("%d prime numbers up to 1000000, want 78498", many)
	}
}

func TestPrimeAtTheEdges(t *testing.T) {
	for _, n := range []int{2, 3, 61, 251, 997, 1009, 65521, 65537, 999979, 999983} {
		wantPrime(t, n, true)
	}
	for _, n := range []int{4, 6, 9, 57, 91, 561, 961, 999, 1000, 65535, 65536, 994009, 999981, 999982, 999984, 999997, 999998, 999999, 1000000} {
		wantPrime(t, n, false)
	}
}

// Of a square of a prime number the only divisor is met at the very end of the search.
func TestPrimeOfProducts(t *testing.T) {
	l := primes()
	for i, n := range l {
		wantPrime(t, n*n, false)
		for _, m := range l[:i] {
			wantPrime(t, n*m, false)
		}
	}
}

// There is none below 2, and of numbers above 1000000 false is told, though many of them are prime numbers.
func TestPrimeOfNumbersThatMayNotBe(t *testing.T) {
	for _, n := range []int{
		1, 0, -1, -2, -3, -5, -61, -999983, -1000003, math.MinInt, math.MinInt + 1,
		1000001, 1000002, 1000003, 1000033, 1018081, 1<<31 - 1, 1<<32 + 2, 1<<32 + 61, 1<<32 + 15, 1<<61 - 1, math.MaxInt - 24, math.MaxInt - 1, math.MaxInt,
	} {
		wantPrime(t, n, false)
	}
	for n := 1000001; n < 1010000; n++ {
		wantPrime(t, n, false)
	}
}

// P16.2

func TestOffsetAndSkip(t *testing.T) {
	for _, c := range []struct{ node, m, offset, skip int }{
		{0, 2, 0, 1}, {0, 3, 0, 2}, {0, 5, 4, 2}, {0, 61, 22, 50}, {0, 999, 423, 70}, {0, 1000, 444, 107},
		{1, 2, 1, 1}, {1, 3, 1, 2}, {1, 5, 4, 4}, {1, 61, 13, 8}, {1, 999, 76, 484}, {1, 1000, 789, 263},
		{2, 2, 1, 1}, {2, 3, 1, 2}, {2, 5, 0, 2}, {2, 61, 39, 30}, {2, 999, 853, 890}, {2, 1000, 35, 312},
		{4, 3, 0, 1}, {6, 3, 2, 1}, {10, 5, 2, 3},
		{16, 2, 0, 1}, {16, 3, 0, 2}, {16, 5, 3, 4}, {16, 61, 8, 16}, {16, 999, 342, 926}, {16, 1000, 148, 733},
	} {
		wantEnds(t, plain(), c.node, c.m, c.offset, c.skip)
	}
}

func TestOffsetAndSkipOfEachSize(t *testing.T) {
	for _, h := range hashes() {
		for m := 2; m <= 1000; m++ {
			wantEnds(t, h.k, h.node, m, int(h.first%uint64(m)), 1+int(h.other%uint64(m-1)))
		}
	}
}

func TestOffsetAndSkipByKeyed(t *testing.T) {
	for _, k := range keys() {
		for _, node := range nodes() {
			first, other := keyed.Pair(k, node, 1), keyed.Pair(k, node, 2)
			for m := 2; m <= 1000; m++ {
				wantEnds(t, k, node, m, keyed.Mod(first, m), 1+keyed.Mod(other, m-1))
			}
		}
	}
}

// Of few slots each offset below m, and each skip from 1 to m - 1, is some node's.
func TestOffsetAndSkipReachTheirEnds(t *testing.T) {
	for m := 2; m <= 20; m++ {
		offsets, skips := make([]int, m), make([]int, m)
		for node := range 1000 {
			offsets[Offset(plain(), node, m)]++
			skips[Skip(plain(), node, m)]++
		}
		if slices.Contains(offsets, 0) {
			t.Errorf("offsets of %d: %v", m, offsets)
		}
		if skips[0] != 0 || slices.Contains(skips[1:], 0) {
			t.Errorf("skips of %d: %v", m, skips)
		}
	}
}

func TestSkipOfTwo(t *testing.T) {
	for _, k := range keys() {
		for node := -100; node < 1000; node++ {
			if got := Skip(k, node, 2); got != 1 {
				t.Errorf("Skip(%x, %d, 2): %d, want 1", k, node, got)
			}
		}
	}
}

func TestOf(t *testing.T) {
	for _, c := range []struct {
		node int
		want []int
	}{
		{10, []int{2, 0, 3, 1, 4}},
		{0, []int{0, 1}},
		{1, []int{1, 0}},
		{0, []int{0, 2, 1}},
		{1, []int{1, 0, 2}},
		{4, []int{0, 1, 2}},
		{5, []int{2, 1, 0}},
		{6, []int{2, 0, 1}},
		{8, []int{1, 2, 0}},
		{0, []int{4, 1, 3, 0, 2}},
		{1, []int{4, 3, 2, 1, 0}},
		{8, []int{1, 2, 3, 4, 0}},
		{5, []int{3, 5, 0, 2, 4, 6, 1}},
		{2, []int{0, 6, 5, 4, 3, 2, 1}},
	} {
		wantOf(t, plain(), c.node, len(c.want), c.want)
	}
}

// Where m is no prime number some slots may be there again, and others not at all.
func TestOfNoPrimeNumber(t *testing.T) {
	for _, c := range []struct {
		node int
		want []int
	}{
		{0, []int{0, 2, 0, 2}},
		{1, []int{1, 3, 1, 3}},
		{2, []int{3, 2, 1, 0}},
		{3, []int{2, 3, 0, 1}},
		{1, []int{1, 4, 1, 4, 1, 4}},
		{4, []int{3, 1, 5, 3, 1, 5}},
		{6, []int{2, 0, 4, 2, 0, 4}},
		{12, []int{1, 5, 3, 1, 5, 3}},
		{2, []int{7, 4, 1, 7, 4, 1, 7, 4, 1}},
		{6, []int{8, 2, 5, 8, 2, 5, 8, 2, 5}},
		{0, []int{4, 2, 0, 8, 6, 4, 2, 0, 8, 6}},
		{10, []int{2, 7, 2, 7, 2, 7, 2, 7, 2, 7}},
	} {
		wantOf(t, plain(), c.node, len(c.want), c.want)
	}
	wantOf(t, keyed.Key{}, 1, 1000, orderBy(878, 266, 1000))
	wantOf(t, keyed.Key{}, 5, 999, orderBy(280, 637, 999))
	wantOf(t, keyed.Key{A: ones}, 1, 1000, orderBy(706, 80, 1000))
	wantOf(t, keyed.Key{B: ones}, 16, 999, orderBy(1, 84, 999))
}

func TestOfEachSize(t *testing.T) {
	for _, h := range hashes() {
		for m := 2; m <= 1000; m++ {
			wantOf(t, h.k, h.node, m, orderBy(int(h.first%uint64(m)), 1+int(h.other%uint64(m-1)), m))
		}
	}
}

// The first number is Offset, and each next one is as much greater as Skip, modulo m; they are m, and all are below m.
func TestOfStepByStep(t *testing.T) {
	for _, k := range keys() {
		for _, node := range nodes() {
			for m := 2; m <= 1000; m++ {
				l, skip := Of(k, node, m), Skip(k, node, m)
				if len(l) != m || l[0] != Offset(k, node, m) {
					t.Fatalf("Of(%x, %d, %d): %v", k, node, m, l)
				}
				for i, n := range l {
					if n < 0 || n >= m || i > 0 && (n-l[i-1]+m)%m != skip {
						t.Fatalf("Of(%x, %d, %d): %d at %d", k, node, m, n, i)
					}
				}
			}
		}
	}
}

func TestSizesThatMayNotBe(t *testing.T) {
	for _, m := range oddSizes() {
		for _, k := range keys() {
			for _, node := range nodes() {
				wantNone(t, k, node, m)
			}
			for _, odd := range oddNodes() {
				wantNone(t, k, odd[0], m)
			}
		}
	}
}

func TestNodesThatGoRound(t *testing.T) {
	for _, k := range keys() {
		for _, odd := range oddNodes() {
			for _, m := range []int{2, 3, 4, 61, 997, 999, 1000} {
				offset, skip := Offset(k, odd[1], m), Skip(k, odd[1], m)
				wantEnds(t, k, odd[0], m, offset, skip)
				wantOf(t, k, odd[0], m, orderBy(offset, skip, m))
			}
		}
	}
	wantEnds(t, plain(), -1, 1000, 0x36903fc7bc183f32%1000, 1+0x1683c017e05406f3%999)
	wantEnds(t, plain(), 1<<32+1, 1000, 789, 263)
	wantEnds(t, plain(), math.MinInt, 1000, 444, 107)
	wantOf(t, plain(), -1<<32+10, 5, []int{2, 0, 3, 1, 4})
}

// Orders of which the keys or the nodes alone differ are others, at offset and at skip.
func TestOfOthers(t *testing.T) {
	was := Of(plain(), 3, 997)
	wantOther := func(k keyed.Key, node int) {
		t.Helper()
		l := Of(k, node, 997)
		if l[0] == was[0] || (l[1]-l[0]+997)%997 == (was[1]-was[0]+997)%997 {
			t.Errorf("Of(%x, %d, 997): %v", k, node, l[:2])
		}
	}
	for _, k := range keys()[1:] {
		wantOther(k, 3)
	}
	wantOther(keyed.Key{A: plain().A + 1, B: plain().B}, 3)
	wantOther(keyed.Key{A: plain().A, B: plain().B + 1}, 3)
	wantOther(keyed.Key{A: plain().B, B: plain().A}, 3)
	for _, node := range nodes() {
		if node != 3 {
			wantOther(plain(), node)
		}
	}
}

func TestOfOtherBits(t *testing.T) {
	told := map[string]string{}
	add := func(k keyed.Key, node int, what string) {
		t.Helper()
		order := fmt.Sprint(Of(k, node, 997))
		if was, ok := told[order]; ok {
			t.Errorf("%s and %s: the same order", was, what)
		}
		told[order] = what
	}
	k := plain()
	add(k, 3, "the order")
	for bit := range 64 {
		add(keyed.Key{A: k.A ^ 1<<bit, B: k.B}, 3, fmt.Sprint("another bit ", bit, " of A"))
		add(keyed.Key{A: k.A, B: k.B ^ 1<<bit}, 3, fmt.Sprint("another bit ", bit, " of B"))
	}
	for bit := range 32 {
		add(k, 3^1<<bit, fmt.Sprint("another bit ", bit, " of the node"))
	}
}

// P16.3

func TestOfAPrimeNumberHasEachOnce(t *testing.T) {
	for _, m := range primes() {
		for _, k := range keys() {
			for _, node := range append(nodes(), -1, 1<<32, math.MinInt, math.MaxInt) {
				many := make([]int, m)
				for _, n := range Of(k, node, m) {
					many[n]++
				}
				if slices.Min(many) != 1 || slices.Max(many) != 1 {
					t.Errorf("Of(%x, %d, %d): %v", k, node, m, many)
				}
			}
		}
	}
}

// R1: no call panics, whatever it is given.
func TestWhateverIsGiven(t *testing.T) {
	ns := append(nodes(), oddSizes()...)
	for _, odd := range oddNodes() {
		ns = append(ns, odd[0])
	}
	for _, k := range keys() {
		for _, node := range ns {
			for _, m := range append(ns, 2, 3, 4, 61, 997, 999, 1000) {
				l, offset, skip := Of(k, node, m), Offset(k, node, m), Skip(k, node, m)
				if m < 2 || m > 1000 {
					m = 0
				}
				if len(l) != m || offset < 0 || offset >= max(m, 1) || skip < min(m, 1) || skip >= max(m, 1) {
					t.Errorf("of %x, %d and %d: %d numbers, %d, %d", k, node, m, len(l), offset, skip)
				}
				if Prime(node) && (node < 2 || node > 1000000) {
					t.Errorf("Prime(%d)", node)
				}
			}
		}
	}
}

// R3, R4: asked again, each call tells what it told, also if that was changed meanwhile, with the room behind it.
func TestAskedAgain(t *testing.T) {
	for _, k := range keys() {
		for _, node := range append(nodes(), -1, math.MinInt, math.MaxInt) {
			for _, m := range []int{2, 3, 4, 61, 997, 999, 1000, 1, 1001} {
				l, offset, skip := Of(k, node, m), Offset(k, node, m), Skip(k, node, m)
				was := slices.Clone(l)
				again := Of(k, node, m)
				whole := l[:cap(l)]
				for i := range whole {
					whole[i] = -5
				}
				if !slices.Equal(again, was) {
					t.Errorf("Of(%x, %d, %d) shares what it told", k, node, m)
				}
				wantOf(t, k, node, m, was)
				wantEnds(t, k, node, m, offset, skip)
			}
		}
	}
}

// What was asked between changes nothing.
func TestAskedInAnotherOrder(t *testing.T) {
	var told [][]int
	for _, k := range keys() {
		for _, m := range []int{2, 3, 61, 1000} {
			told = append(told, Of(k, 3, m))
		}
	}
	ks, ms := keys(), []int{2, 3, 61, 1000}
	for i := len(told) - 1; i >= 0; i-- {
		wantOf(t, ks[i/len(ms)], 3, ms[i%len(ms)], told[i])
		wantPrime(t, 61, true)
		wantPrime(t, 1000, false)
	}
}

// Ways: what is gone over may be left at any time, gone over again, and nested.
func TestSteps(t *testing.T) {
	order := steps(2, 3, 5)
	want := []int{2, 0, 3, 1, 4}
	for most := range 6 {
		var got []int
		for n := range order {
			if len(got) == most {
				break
			}
			got = append(got, n)
		}
		if !slices.Equal(got, want[:most]) {
			t.Errorf("left behind %d: %v, want %v", most, got, want[:most])
		}
	}
	var got []int
	for a := range order {
		for b := range order {
			got = append(got, 5*a+b)
		}
	}
	for i, n := range got {
		if n != 5*want[i/5]+want[i%5] {
			t.Errorf("nested, at %d: %d and %d", i, n/5, n%5)
		}
	}
	if len(got) != 25 {
		t.Errorf("nested: %d numbers, want 25", len(got))
	}
}
