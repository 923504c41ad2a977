package cksum

import (
	"bytes"
	"math"
	"math/big"
	"slices"
	"testing"

	"harrier/api"
)

// modulo is n modulo m, from 0 on, told by another way than the program's.
func modulo(n, m int) int {
	return int(new(big.Int).Mod(big.NewInt(int64(n)), big.NewInt(int64(m))).Int64())
}

// folded is what numbers that are n in all come to, joined one by one: 0 comes of nothing
// but 0, and else it is n modulo 65535 with 65535 in the place of 0.
func folded(n int) int {
	if n == 0 {
		return 0
	}
	return (n-1)%65535 + 1
}

// thought is the Sum of b by its definition: the bytes at even places count 256 times, the others once.
func thought(b []byte) int {
	n := 0
	for i, x := range b {
		if i%2 == 0 {
			n += 256 * int(x)
		} else {
			n += int(x)
		}
	}
	return folded(n)
}

// laid is what Pseudo is the Sum of, byte by byte.
func laid(src, dst api.Addr, length, next int) []byte {
	b := append(src[:], dst[:]...)
	b = append(b, new(big.Int).SetInt64(int64(modulo(length, 1<<32))).FillBytes(make([]byte, 4))...)
	return append(b, 0, 0, 0, byte(modulo(next, 256)))
}

// numbers are ints at their ends, and at the ends of 8, 16 and 32 bits.
func numbers() []int {
	return []int{0, 1, 2, 255, 256, 257, 32767, 32768, 65280, 65533, 65534, 65535, 65536, 65537, 65538, 131069, 131070, 131071, 131072, 196607,
		1 << 24, 1<<32 - 1, 1 << 32, 1<<32 + 1, 1<<48 + 7, math.MaxInt - 65535, math.MaxInt - 1, math.MaxInt,
		-1, -2, -255, -256, -257, -65534, -65535, -65536, -65537, -131071, -131072, -1 << 32, -1<<32 - 1, math.MinInt, math.MinInt + 1, math.MinInt + 65535}
}

// mixed tells n bytes of no plain order; another seed tells others.
func mixed(n, seed int) []byte {
	b := make([]byte, n)
	x := uint32(seed)*2654435761 + 12345
	for i := range b {
		x = x*1664525 + 1013904223
		b[i] = byte(x >> 24)
	}
	return b
}

func mixedAddr(seed int) api.Addr {
	return api.Addr(mixed(16, seed))
}

// addrs are addresses of all bytes 0, of all 255, of one byte, and of no plain order.
func addrs() []api.Addr {
	return []api.Addr{{}, api.Addr(bytes.Repeat([]byte{255}, 16)), {15: 1}, {0: 1}, {14: 255}, mixedAddr(1), mixedAddr(2)}
}

// lists are bytes at the edges: none, one alone, an odd number, all 0, all 255, and such as sum up to 65535.
func lists() [][]byte {
	l := [][]byte{nil, {}, {0}, {1}, {255}, {0, 0}, {0, 1}, {1, 0}, {255, 255}, {255, 254}, {255, 255, 255}, {1, 2, 3},
		{255, 0, 0, 255}, {128, 0, 127, 255}, {128, 0, 128, 0}, {255, 255, 0, 1}, make([]byte, 7), make([]byte, 1500)}
	for _, n := range []int{4, 5, 40, 256, 257, 258, 1499, 1500, 65535, 65536, 140001} {
		l = append(l, mixed(n, n), bytes.Repeat([]byte{255}, n))
	}
	return l
}

func wantNumber(t *testing.T, what string, got, want int) {
	t.Helper()
	if got != want {
		t.Errorf("%s: %d, want %d", what, got, want)
	}
}

// P2.1

func TestJoin(t *testing.T) {
	for _, c := range []struct{ a, b, want int }{
		{0, 0, 0}, {1, 2, 3}, {0, 65535, 65535}, {65535, 0, 65535},
		{65535, 2, 2}, {65535, 1, 1}, {65534, 1, 65535}, {65534, 2, 1}, {65535, 65535, 65535}, {65535, 65534, 65534}, {32768, 32768, 1}, {32768, 32767, 65535},
		{65536, 0, 0}, {65536, 65536, 0}, {65537, 1, 2}, {65536, 65535, 65535}, {131071, 1, 1},
		{-1, 0, 65535}, {-1, -1, 65535}, {-1, 2, 2}, {-65536, 5, 5}, {-65535, 5, 6}, {-65537, 1, 1},
		{math.MaxInt, math.MaxInt, 65535}, {math.MaxInt, 1, 1}, {math.MinInt, math.MinInt, 0}, {math.MinInt, 7, 7}, {math.MinInt, math.MaxInt, 65535},
	} {
		if got := Join(c.a, c.b); got != c.want {
			t.Errorf("Join(%d, %d): %d, want %d", c.a, c.b, got, c.want)
		}
	}
	for _, a := range numbers() {
		for _, b := range numbers() {
			want := modulo(a, 65536) + modulo(b, 65536)
			if want > 65535 {
				want -= 65535
			}
			if got := Join(a, b); got != want {
				t.Errorf("Join(%d, %d): %d, want %d", a, b, got, want)
			}
		}
	}
}

func TestNot(t *testing.T) {
	for _, c := range []struct{ s, want int }{
		{0, 65535}, {1, 65534}, {32767, 32768}, {65534, 1}, {65535, 0},
		{65536, 65535}, {65537, 65534}, {131071, 0},
		{-1, 0}, {-2, 1}, {-65535, 65534}, {-65536, 65535}, {-65537, 0},
		{math.MaxInt, 0}, {math.MinInt, 65535},
	} {
		if got := Not(c.s); got != c.want {
			t.Errorf("Not(%d): %d, want %d", c.s, got, c.want)
		}
	}
	for _, s := range numbers() {
		wantNumber(t, "Not", Not(s), 65535-modulo(s, 65536))
		wantNumber(t, "Not of Not", Not(Not(s)), modulo(s, 65536))
	}
}

func TestSum(t *testing.T) {
	for _, c := range []struct {
		b    []byte
		want int
	}{
		{[]byte{1, 2, 3}, 1026},
		{nil, 0}, {[]byte{}, 0},
		{[]byte{0}, 0}, {[]byte{1}, 256}, {[]byte{255}, 65280},
		{[]byte{1, 2}, 258}, {[]byte{2, 1}, 513}, {[]byte{0, 255}, 255}, {[]byte{255, 0}, 65280},
		{[]byte{255, 255}, 65535}, {[]byte{255, 255, 255}, 65280}, {[]byte{255, 255, 255, 255}, 65535},
		{[]byte{255, 255, 0, 1}, 1}, {[]byte{255, 255, 0, 0}, 65535}, {[]byte{0, 0, 255, 255}, 65535},
		{[]byte{128, 0, 128, 0}, 1}, {[]byte{255, 254, 0, 1}, 65535}, {[]byte{255, 254, 0, 2}, 1},
		{make([]byte, 1499), 0}, {make([]byte, 1500), 0},
		{bytes.Repeat([]byte{255}, 1500), 65535}, {bytes.Repeat([]byte{255}, 1499), 65280},
	} {
		if got := Sum(c.b); got != c.want {
			t.Errorf("Sum of %d bytes, %v ..: %d, want %d", len(c.b), c.b[:min(4, len(c.b))], got, c.want)
		}
	}
}

func TestSumOfAnyBytes(t *testing.T) {
	for _, b := range lists() {
		wantNumber(t, "Sum", Sum(b), thought(b))
	}
	for n := range 300 {
		b := mixed(n, n)
		wantNumber(t, "Sum", Sum(b), thought(b))
	}
}

func TestSumOfOneByteAnywhere(t *testing.T) {
	for size := 1; size < 9; size++ {
		for at := range size {
			b := make([]byte, size)
			b[at] = 7
			want := 7
			if at%2 == 0 {
				want = 7 * 256
			}
			wantNumber(t, "Sum of one byte 7", Sum(b), want)
		}
	}
}

// What lies behind the end is not the byte that is thought behind a last one.
func TestSumEndsAtTheEnd(t *testing.T) {
	room := []byte{1, 2, 3, 255, 255, 255}
	wantNumber(t, "Sum of three bytes", Sum(room[:3]), 1026)
	wantNumber(t, "Sum of two bytes", Sum(room[:2]), 258)
	wantNumber(t, "Sum of no bytes", Sum(room[:0]), 0)
	wantNumber(t, "Check of a byte", Check(api.Addr{}, api.Addr{}, 0, room[:1]), Not(1+256))
}

// P2.2

func TestPseudo(t *testing.T) {
	one, two := api.Addr{15: 1}, api.Addr{15: 2}
	for _, c := range []struct {
		src, dst     api.Addr
		length, next int
		want         int
	}{
		{api.Addr{}, api.Addr{}, 0, 0, 0},
		{one, two, 4, 6, 13},
		{one, two, 0, 0, 3},
		{api.Addr{14: 1}, two, 0, 0, 258},
		{api.Addr{}, api.Addr{}, 65535, 0, 65535},
		{api.Addr{}, api.Addr{}, 65536, 0, 1},
		{api.Addr{}, api.Addr{}, 65536 + 7, 0, 8},
		{api.Addr{}, api.Addr{}, 1<<32 - 1, 0, 65535},
		{api.Addr{}, api.Addr{}, 1 << 32, 0, 0},
		{api.Addr{}, api.Addr{}, 1<<32 + 5, 0, 5},
		{api.Addr{}, api.Addr{}, 1<<33 + 65537, 0, 2},
		{api.Addr{}, api.Addr{}, math.MaxInt, 0, 65535},
		{api.Addr{}, api.Addr{}, math.MinInt, 0, 0},
		{api.Addr{}, api.Addr{}, -1, 0, 65535},
		{api.Addr{}, api.Addr{}, -65536, 0, 65535},
		{api.Addr{}, api.Addr{}, -1<<32 + 3, 0, 3},
		{api.Addr{}, api.Addr{}, 0, 255, 255},
		{api.Addr{}, api.Addr{}, 0, 256, 0},
		{api.Addr{}, api.Addr{}, 0, 262, 6},
		{api.Addr{}, api.Addr{}, 0, 65535, 255},
		{api.Addr{}, api.Addr{}, 0, 65536, 0},
		{api.Addr{}, api.Addr{}, 0, -1, 255},
		{api.Addr{}, api.Addr{}, 0, -250, 6},
		{api.Addr{}, api.Addr{}, 0, -256, 0},
		{api.Addr{}, api.Addr{}, 0, math.MaxInt, 255},
		{api.Addr{}, api.Addr{}, 0, math.MinInt, 0},
	} {
		if got := Pseudo(c.src, c.dst, c.length, c.next); got != c.want {
			t.Errorf("Pseudo(%v, %v, %d, %d): %d, want %d", c.src, c.dst, c.length, c.next, got, c.want)
		}
	}
}

func TestPseudoOfAnyNumbers(t *testing.T) {
	for _, src := range addrs() {
		for _, dst := range addrs() {
			for _, n := range numbers() {
				wantNumber(t, "Pseudo of lengths", Pseudo(src, dst, n, 6), thought(laid(src, dst, n, 6)))
				wantNumber(t, "Pseudo of nexts", Pseudo(src, dst, 20, n), thought(laid(src, dst, 20, n)))
				wantNumber(t, "Pseudo of both", Pseudo(src, dst, n, n), thought(laid(src, dst, n, n)))
			}
		}
	}
}

func TestPseudoOfEachByte(t *testing.T) {
	for at := range 16 {
		for _, x := range []byte{1, 127, 128, 255} {
			want := int(x)
			if at%2 == 0 {
				want = 256 * int(x)
			}
			var a api.Addr
			a[at] = x
			wantNumber(t, "Pseudo of a byte of src", Pseudo(a, api.Addr{}, 0, 0), want)
			wantNumber(t, "Pseudo of a byte of dst", Pseudo(api.Addr{}, a, 0, 0), want)
			wantNumber(t, "Pseudo of both", Pseudo(a, a, 0, 0), folded(2*want))
		}
	}
}

func TestCheck(t *testing.T) {
	one, two := api.Addr{15: 1}, api.Addr{15: 2}
	wantNumber(t, "Check", Check(one, two, 6, []byte{0, 1, 0, 0}), 65521)
	wantNumber(t, "Check of no bytes", Check(one, two, 6, nil), 65535-9)
	wantNumber(t, "Check of empty bytes", Check(one, two, 6, []byte{}), 65535-9)
	wantNumber(t, "Check of a byte alone", Check(one, two, 6, []byte{1}), 65535-9-1-256)
	wantNumber(t, "Check of all 0", Check(api.Addr{}, api.Addr{}, 0, nil), 65535)
	wantNumber(t, "Check of what is Fine", Check(api.Addr{}, api.Addr{}, 0, []byte{255, 253}), 0)
	wantNumber(t, "Check of more", Check(api.Addr{}, api.Addr{}, 0, []byte{255, 254}), 65534)
	wantNumber(t, "Check of next below 0", Check(one, two, -250, []byte{0, 1, 0, 0}), 65521)
	wantNumber(t, "Check of next from 256 on", Check(one, two, 262, []byte{0, 1, 0, 0}), 65521)
	for _, b := range lists() {
		for i, src := range addrs() {
			dst := addrs()[(i+3)%len(addrs())]
			for _, next := range []int{0, 6, 58, 255, 256, 300, -1, -256, math.MinInt, math.MaxInt} {
				want := 65535 - thought(append(laid(src, dst, len(b), next), b...))
				wantNumber(t, "Check", Check(src, dst, next, b), want)
			}
		}
	}
}

func TestFine(t *testing.T) {
	one, two := api.Addr{15: 1}, api.Addr{15: 2}
	for _, c := range []struct {
		src, dst api.Addr
		next     int
		b        []byte
		want     bool
	}{
		{one, two, 6, []byte{0, 1, 255, 241}, true},
		{one, two, 262, []byte{0, 1, 255, 241}, true},
		{one, two, -250, []byte{0, 1, 255, 241}, true},
		{two, one, 6, []byte{0, 1, 255, 241}, true},
		{one, two, 7, []byte{0, 1, 255, 241}, false},
		{one, one, 6, []byte{0, 1, 255, 241}, false},
		{one, two, 6, []byte{0, 1, 255, 240}, false},
		{one, two, 6, []byte{0, 1, 255, 242}, false},
		{one, two, 6, []byte{1, 0, 255, 241}, false},
		{one, two, 6, []byte{0, 1, 255, 241, 0}, false},
		{one, two, 6, []byte{0, 1, 255}, false},
		{one, two, 6, nil, false},
		// 0 is as good as 65535 in a sum, but it is not 65535.
		{api.Addr{}, api.Addr{}, 0, nil, false},
		{api.Addr{}, api.Addr{}, 256, nil, false},
		{api.Addr{}, api.Addr{}, 0, []byte{0, 0}, false},
		{api.Addr{}, api.Addr{}, 0, []byte{255, 253}, true},
		{api.Addr{}, api.Addr{}, 0, []byte{255, 255}, false},
		{api.Addr{0: 255, 1: 255}, api.Addr{}, 0, nil, true},
		{api.Addr{0: 255}, api.Addr{15: 255}, 0, nil, true},
		{api.Addr{0: 255, 1: 254}, api.Addr{}, 0, []byte{0}, true},
		{api.Addr{0: 255, 1: 254}, api.Addr{}, 0, []byte{1}, false},
		{api.Addr(bytes.Repeat([]byte{255}, 16)), api.Addr(bytes.Repeat([]byte{255}, 16)), 0, nil, true},
	} {
		if got := Fine(c.src, c.dst, c.next, c.b); got != c.want {
			t.Errorf("Fine(%v, %v, %d, %v): %v, want %v", c.src, c.dst, c.next, c.b, got, c.want)
		}
	}
	for _, b := range lists() {
		for _, src := range addrs() {
			want := thought(append(laid(src, one, len(b), 6), b...)) == 65535
			if got := Fine(src, one, 6, b); got != want {
				t.Errorf("Fine(%v, .., %d bytes): %v, want %v", src, len(b), got, want)
			}
		}
	}
}

// P2.3

func TestUpdate(t *testing.T) {
	for _, c := range []struct{ check, was, is, want int }{
		{65521, 1, 2, 65520}, {65520, 2, 1, 65521}, {65521, 1, 1, 65521},
		{0, 0, 0, 0}, {0, 0, 1, 65534}, {0, 1, 0, 1}, {0, 65535, 0, 0}, {0, 65535, 65535, 0},
		{65535, 0, 0, 0}, {65535, 0, 1, 65534}, {65535, 0, 65535, 0}, {65535, 65535, 0, 65535}, {65535, 1, 0, 1},
		{56623, 21845, 12933, 0},
		{65521 + 65536, 1 - 65536, 2 + 65536, 65520}, {-15, -65535, -65534, 65520},
		{math.MaxInt, math.MinInt, 1, 65534}, {math.MinInt, math.MaxInt, math.MinInt, 0}, {-1, 0, math.MaxInt, 0},
	} {
		if got := Update(c.check, c.was, c.is); got != c.want {
			t.Errorf("Update(%d, %d, %d): %d, want %d", c.check, c.was, c.is, got, c.want)
		}
	}
	for _, check := range numbers() {
		for _, was := range numbers() {
			for _, is := range numbers() {
				n := 65535 - modulo(check, 65536) + 65535 - modulo(was, 65536) + modulo(is, 65536)
				if got := Update(check, was, is); got != 65535-folded(n) {
					t.Fatalf("Update(%d, %d, %d): %d, want %d", check, was, is, got, 65535-folded(n))
				}
			}
		}
	}
}

// P2.4

// with is b with a number of two bytes at a place.
func with(b []byte, at, n int) []byte {
	out := slices.Clone(b)
	out[at], out[at+1] = byte(n/256), byte(n%256)
	return out
}

func TestCheckedBytesAreFine(t *testing.T) {
	for _, b := range lists() {
		for _, at := range []int{0, 2, 16, len(b)/2&^1 - 2, len(b)&^1 - 2} {
			if at < 0 || at+2 > len(b) {
				continue
			}
			blank := with(b, at, 0)
			for i, src := range addrs() {
				for _, next := range []int{0, 6, 58, 255, 256, -1, math.MaxInt} {
					dst := addrs()[(i+2)%len(addrs())]
					c := Check(src, dst, next, blank)
					if !Fine(src, dst, next, with(blank, at, c)) {
						t.Errorf("%d bytes with their check %d at %d are not Fine", len(b), c, at)
					}
					if Fine(src, dst, next, with(blank, at, (c+1)%65535)) {
						t.Errorf("%d bytes with another check than %d at %d are Fine", len(b), c, at)
					}
				}
			}
		}
	}
}

func TestUpdateTellsTheCheck(t *testing.T) {
	for size := 2; size < 40; size++ {
		for _, b := range [][]byte{mixed(size, size), make([]byte, size), bytes.Repeat([]byte{255}, size)} {
			for at := 0; at+2 <= size; at += 2 {
				for _, is := range []int{0, 1, 255, 256, 32768, 65534, 65535} {
					was := int(b[at])*256 + int(b[at+1])
					then := with(b, at, is)
					if bytes.Count(then, []byte{0}) == size {
						continue
					}
					if got, want := Update(Not(Sum(b)), was, is), Not(Sum(then)); got != want {
						t.Errorf("Update of %d bytes, at %d from %d to %d: %d, want %d", size, at, was, is, got, want)
					}
				}
			}
		}
	}
}

// Where all bytes are 0, Not of Sum is 65535, and Update, that does not see them, tells 0.
func TestUpdateToAllZeros(t *testing.T) {
	for _, was := range []int{0, 1, 256, 65534, 65535} {
		b := with(make([]byte, 6), 2, was)
		wantNumber(t, "Update to all 0", Update(Not(Sum(b)), was, 0), 0)
	}
	wantNumber(t, "Not of Sum of all 0", Not(Sum(make([]byte, 6))), 65535)
}

func TestUpdatedBytesAreFine(t *testing.T) {
	src, dst := mixedAddr(8), mixedAddr(9)
	for size := 4; size < 30; size++ {
		b := with(mixed(size, size), 0, 0)
		c := Check(src, dst, 6, b)
		for _, is := range []int{0, 1, 4660, 65534, 65535} {
			then := with(with(b, 0, Update(c, int(b[2])*256+int(b[3]), is)), 2, is)
			if !Fine(src, dst, 6, then) {
				t.Errorf("%d bytes with an updated check, and %d, are not Fine", size, is)
			}
		}
	}
}

// R3: what is handed in stays as it was, with the room behind it.

func TestArgumentsStay(t *testing.T) {
	for size := range 12 {
		whole := append(mixed(size, 5), bytes.Repeat([]byte{0xA5}, 48)...)
		was := slices.Clone(whole)
		src, dst := mixedAddr(6), mixedAddr(7)
		b := whole[:size]
		first := []int{Sum(b), Pseudo(src, dst, size, 6), Check(src, dst, 6, b)}
		fine := Fine(src, dst, 6, b)
		if !bytes.Equal(whole, was) || src != mixedAddr(6) || dst != mixedAddr(7) {
			t.Errorf("what was handed in changed, at %d bytes", size)
		}
		// R4: the same again, whatever was asked ahead.
		again := []int{Sum(b), Pseudo(src, dst, size, 6), Check(src, dst, 6, b)}
		if !slices.Equal(first, again) || fine != Fine(src, dst, 6, b) {
			t.Errorf("asked again: %v, then %v", first, again)
		}
	}
}

func TestNilAndEmptyAreTheSame(t *testing.T) {
	for _, src := range addrs() {
		if Sum(nil) != Sum([]byte{}) || Check(src, src, 6, nil) != Check(src, src, 6, []byte{}) || Fine(src, src, 6, nil) != Fine(src, src, 6, []byte{}) {
			t.Errorf("nil and empty bytes differ, at %v", src)
		}
	}
}
