package octets

import (
	"bytes"
	"math"
	"math/big"
	"slices"
	"testing"
)

// farPlaces are places and counts that no list has, among them those at which a sum would wrap.
func farPlaces() []int {
	return []int{math.MinInt, math.MinInt + 1, math.MinInt + 4, -65536, -5, -4, -3, -2, -1, 65536, 1 << 32, math.MaxInt - 4, math.MaxInt - 3, math.MaxInt - 1, math.MaxInt}
}

// numbers are ints at their ends, and at the ends of 8, 16 and 32 bits.
func numbers() []int {
	return []int{0, 1, 2, 127, 128, 255, 256, 257, 258, 32767, 32768, 65534, 65535, 65536, 65537, 65536 + 258, 1 << 24, 1<<32 - 1, 1 << 32, math.MaxInt - 1, math.MaxInt,
		-1, -2, -255, -256, -257, -32768, -32769, -65535, -65536, -65537, -1 << 32, math.MinInt, math.MinInt + 1}
}

func words() []uint32 {
	return []uint32{0, 1, 255, 256, 65535, 65536, 16909060, 1 << 24, 1<<31 - 1, 1 << 31, math.MaxUint32 - 1, math.MaxUint32}
}

// modulo16 is n modulo 65536, told by another way than the program's.
func modulo16(n int) int {
	return int(new(big.Int).Mod(big.NewInt(int64(n)), big.NewInt(65536)).Int64())
}

// rising tells n bytes, each another one than its neighbours, none of them 0.
func rising(n int) []byte {
	b := make([]byte, n)
	for i := range b {
		b[i] = byte(i*37%255 + 1)
	}
	return b
}

// roomy tells b with room behind its end, which is filled, and the whole of it.
func roomy(b []byte) (list, whole []byte) {
	whole = append(slices.Clone(b), bytes.Repeat([]byte{0xA5}, 32)...)
	return whole[:len(b)], whole
}

func wantBytes(t *testing.T, what string, got, want []byte) {
	t.Helper()
	if !bytes.Equal(got, want) {
		t.Errorf("%s: %v, want %v", what, got, want)
	}
}

// wantCut holds an answer of bytes and a bool against what it should be: beside a false there is nothing.
func wantCut(t *testing.T, what string, got []byte, ok bool, want []byte, wantOK bool) {
	t.Helper()
	if ok != wantOK {
		t.Errorf("%s: %v, want %v", what, ok, wantOK)
	}
	if !ok && len(got) != 0 {
		t.Errorf("%s: %v beside false", what, got)
	}
	wantBytes(t, what, got, want)
}

// P1.1

func TestU16(t *testing.T) {
	for _, c := range []struct {
		b    []byte
		at   int
		want int
		ok   bool
	}{
		{[]byte{1, 2}, 0, 258, true},
		{[]byte{1, 2}, 1, 0, false},
		{[]byte{1, 2}, 2, 0, false},
		{[]byte{1, 2}, 3, 0, false},
		{[]byte{1, 2}, -1, 0, false},
		{[]byte{1, 2, 3}, 1, 515, true},
		{[]byte{0, 0}, 0, 0, true},
		{[]byte{0, 255}, 0, 255, true},
		{[]byte{255, 0}, 0, 65280, true},
		{[]byte{128, 0}, 0, 32768, true},
		{[]byte{255, 255}, 0, 65535, true},
		{[]byte{9}, 0, 0, false},
		{[]byte{}, 0, 0, false},
		{nil, 0, 0, false},
		{nil, -1, 0, false},
		{nil, -2, 0, false},
	} {
		if n, ok := U16(c.b, c.at); n != c.want || ok != c.ok {
			t.Errorf("U16(%v, %d): %d %v, want %d %v", c.b, c.at, n, ok, c.want, c.ok)
		}
	}
}

func TestU32(t *testing.T) {
	for _, c := range []struct {
		b    []byte
		at   int
		want uint32
		ok   bool
	}{
		{[]byte{1, 2, 3, 4}, 0, 16909060, true},
		{[]byte{1, 2, 3, 4}, 1, 0, false},
		{[]byte{1, 2, 3, 4}, 3, 0, false},
		{[]byte{1, 2, 3, 4}, 4, 0, false},
		{[]byte{1, 2, 3, 4}, 5, 0, false},
		{[]byte{1, 2, 3, 4}, -1, 0, false},
		{[]byte{9, 1, 2, 3, 4}, 1, 16909060, true},
		{[]byte{255, 255, 255, 255}, 0, math.MaxUint32, true},
		{[]byte{128, 0, 0, 0}, 0, 1 << 31, true},
		{[]byte{0, 0, 0, 0}, 0, 0, true},
		{[]byte{0, 0, 1, 0}, 0, 256, true},
		{[]byte{1, 2, 3}, 0, 0, false},
		{[]byte{}, 0, 0, false},
		{nil, 0, 0, false},
		{nil, -4, 0, false},
	} {
		if n, ok := U32(c.b, c.at); n != c.want || ok != c.ok {
			t.Errorf("U32(%v, %d): %d %v, want %d %v", c.b, c.at, n, ok, c.want, c.ok)
		}
	}
}

func TestReadAtEveryPlace(t *testing.T) {
	for size := range 9 {
		list, _ := roomy(rising(size))
		for at := -3; at < size+4; at++ {
			n, ok := U16(list, at)
			if at < 0 || at+2 > size {
				if n != 0 || ok {
					t.Errorf("U16 of %d bytes at %d: %d %v", size, at, n, ok)
				}
			} else if n != int(list[at])*256+int(list[at+1]) || !ok {
				t.Errorf("U16 of %d bytes at %d: %d %v", size, at, n, ok)
			}
			u, ok := U32(list, at)
			if at < 0 || at+4 > size {
				if u != 0 || ok {
					t.Errorf("U32 of %d bytes at %d: %d %v", size, at, u, ok)
				}
			} else if want := new(big.Int).SetBytes(list[at : at+4]).Uint64(); uint64(u) != want || !ok {
				t.Errorf("U32 of %d bytes at %d: %d %v, want %d", size, at, u, ok, want)
			}
		}
	}
}

func TestFarPlaces(t *testing.T) {
	for size := range 6 {
		b := rising(size)
		for _, at := range farPlaces() {
			if n, ok := U16(b, at); n != 0 || ok {
				t.Errorf("U16 of %d bytes at %d: %d %v", size, at, n, ok)
			}
			if n, ok := U32(b, at); n != 0 || ok {
				t.Errorf("U32 of %d bytes at %d: %d %v", size, at, n, ok)
			}
			got, ok := Set16(b, at, 258)
			wantCut(t, "Set16 far off", got, ok, nil, false)
			for _, n := range append([]int{0, 1, 2}, farPlaces()...) {
				got, ok = Cut(b, at, n)
				wantCut(t, "Cut far off", got, ok, nil, false)
			}
			for n := range size + 1 {
				got, ok = Cut(b, n, at)
				wantCut(t, "Cut of a count far off", got, ok, nil, false)
			}
		}
	}
}

func TestCut(t *testing.T) {
	for _, c := range []struct {
		b     []byte
		at, n int
		want  []byte
		ok    bool
	}{
		{[]byte{1, 2, 3}, 1, 2, []byte{2, 3}, true},
		{[]byte{1, 2, 3}, 0, 3, []byte{1, 2, 3}, true},
		{[]byte{1, 2, 3}, 0, 0, nil, true},
		{[]byte{1, 2, 3}, 3, 0, nil, true},
		{[]byte{1, 2, 3}, 4, 0, nil, false},
		{[]byte{1, 2, 3}, 2, 2, nil, false},
		{[]byte{1, 2, 3}, 3, 1, nil, false},
		{[]byte{1, 2, 3}, 0, 4, nil, false},
		{[]byte{1, 2, 3}, -1, 0, nil, false},
		{[]byte{1, 2, 3}, -1, 2, nil, false},
		{[]byte{1, 2, 3}, 1, -1, nil, false},
		{[]byte{1, 2, 3}, 3, -3, nil, false},
		{nil, 0, 0, nil, true},
		{[]byte{}, 0, 0, nil, true},
		{nil, 0, 1, nil, false},
		{nil, 0, -1, nil, false},
		{nil, 1, -1, nil, false},
	} {
		got, ok := Cut(c.b, c.at, c.n)
		wantCut(t, "Cut", got, ok, c.want, c.ok)
	}
}

func TestCutAtEveryPlace(t *testing.T) {
	for size := range 7 {
		list, whole := roomy(rising(size))
		for at := -2; at < size+3; at++ {
			for n := -2; n < size+3; n++ {
				got, ok := Cut(list, at, n)
				if at < 0 || n < 0 || at+n > size {
					wantCut(t, "Cut of what is not there", got, ok, nil, false)
				} else {
					wantCut(t, "Cut of what is there", got, ok, whole[at:at+n], true)
				}
			}
		}
	}
}

func TestZeros(t *testing.T) {
	for _, b := range [][]byte{nil, {}, {0}, {0, 0}, make([]byte, 1500)} {
		if !Zeros(b) {
			t.Errorf("Zeros of %d bytes 0: false", len(b))
		}
	}
	for size := range 6 {
		for at := range size {
			for _, x := range []byte{1, 2, 127, 128, 255} {
				b := make([]byte, size)
				b[at] = x
				if Zeros(b) {
					t.Errorf("Zeros(%v): true", b)
				}
			}
		}
	}
	// Neither bytes whose sum goes round to 0 nor what lies behind the end count.
	if Zeros([]byte{255, 1}) || Zeros([]byte{128, 128}) || Zeros([]byte{5, 5}) {
		t.Error("Zeros of bytes that are not 0: true")
	}
	if list, _ := roomy(make([]byte, 3)); !Zeros(list) {
		t.Error("Zeros looks behind the end")
	}
}

// P1.2

func TestPut16(t *testing.T) {
	wantBytes(t, "Put16(nil, 258)", Put16(nil, 258), []byte{1, 2})
	wantBytes(t, "Put16(nil, -1)", Put16(nil, -1), []byte{255, 255})
	wantBytes(t, "Put16(nil, 65536)", Put16(nil, 65536), []byte{0, 0})
	wantBytes(t, "Put16(nil, 65537)", Put16(nil, 65537), []byte{0, 1})
	wantBytes(t, "Put16(nil, -65535)", Put16(nil, -65535), []byte{0, 1})
	wantBytes(t, "Put16(empty, 0)", Put16([]byte{}, 0), []byte{0, 0})
	wantBytes(t, "Put16 behind 7 8", Put16([]byte{7, 8}, 258), []byte{7, 8, 1, 2})
	for _, n := range numbers() {
		m := modulo16(n)
		wantBytes(t, "Put16", Put16(nil, n), []byte{byte(m / 256), byte(m % 256)})
		wantBytes(t, "Put16 behind 9", Put16([]byte{9}, n), []byte{9, byte(m / 256), byte(m % 256)})
	}
}

func TestPut32(t *testing.T) {
	wantBytes(t, "Put32(nil, 16909060)", Put32(nil, 16909060), []byte{1, 2, 3, 4})
	wantBytes(t, "Put32(nil, 0)", Put32(nil, 0), []byte{0, 0, 0, 0})
	wantBytes(t, "Put32(empty, greatest)", Put32([]byte{}, math.MaxUint32), []byte{255, 255, 255, 255})
	wantBytes(t, "Put32 behind 7", Put32([]byte{7}, 1<<31), []byte{7, 128, 0, 0, 0})
	for _, n := range words() {
		want := append([]byte{9, 8}, new(big.Int).SetUint64(uint64(n)).FillBytes(make([]byte, 4))...)
		wantBytes(t, "Put32 behind 9 8", Put32([]byte{9, 8}, n), want)
	}
}

func TestSet16(t *testing.T) {
	for size := range 6 {
		for at := -3; at < size+3; at++ {
			for _, n := range numbers() {
				list, _ := roomy(rising(size))
				got, ok := Set16(list, at, n)
				if at < 0 || at+2 > size {
					wantCut(t, "Set16 of what is not there", got, ok, nil, false)
					continue
				}
				want := rising(size)
				m := modulo16(n)
				want[at], want[at+1] = byte(m/256), byte(m%256)
				wantCut(t, "Set16", got, ok, want, true)
			}
		}
	}
	got, ok := Set16([]byte{1, 2, 3}, 1, 258)
	wantCut(t, "Set16", got, ok, []byte{1, 1, 2}, true)
	got, ok = Set16(nil, 0, 1)
	wantCut(t, "Set16 of nil", got, ok, nil, false)
	got, ok = Set16([]byte{5}, 0, 1)
	wantCut(t, "Set16 of a byte", got, ok, nil, false)
}

func TestJoin(t *testing.T) {
	for _, c := range []struct {
		l    [][]byte
		want []byte
	}{
		{nil, nil},
		{[][]byte{}, nil},
		{[][]byte{nil}, nil},
		{[][]byte{nil, {}, nil}, nil},
		{[][]byte{{1}}, []byte{1}},
		{[][]byte{{1}, nil, {2}}, []byte{1, 2}},
		{[][]byte{{}, {1, 2}, {}, {3}, {}}, []byte{1, 2, 3}},
		{[][]byte{{3, 2}, {1}, {0, 0}}, []byte{3, 2, 1, 0, 0}},
	} {
		wantBytes(t, "Join", Join(c.l...), c.want)
	}
	b := []byte{1, 2}
	wantBytes(t, "Join of one list thrice", Join(b, b, b), []byte{1, 2, 1, 2, 1, 2})
}

// R3: what is handed in stays as it was, with the room behind it, and no answer shares memory with it.

// answers tells what each call that tells bytes makes of a list of at least 4 bytes.
func answers(b []byte) [][]byte {
	set, _ := Set16(b, 1, 4660)
	part, _ := Cut(b, 1, 2)
	all, _ := Cut(b, 0, len(b))
	return [][]byte{set, part, all, Put16(b, 4660), Put32(b, 305419896), Join(b), Join(b, nil), Join(nil, b, b)}
}

func TestArgumentsStay(t *testing.T) {
	list, whole := roomy(rising(6))
	was := slices.Clone(whole)
	answers(list)
	U16(list, 0)
	U32(list, 0)
	Zeros(list)
	Set16(list, 5, 1)
	Cut(list, 5, 2)
	wantBytes(t, "what was handed in", whole, was)

	l := [][]byte{{1, 2}, nil, {3}}
	wantBytes(t, "Join", Join(l...), []byte{1, 2, 3})
	if len(l) != 3 || !bytes.Equal(l[0], []byte{1, 2}) || l[1] != nil || !bytes.Equal(l[2], []byte{3}) {
		t.Errorf("Join changed its lists: %v", l)
	}
}

func TestAnswersAreNewMemory(t *testing.T) {
	list, whole := roomy(rising(6))
	was := slices.Clone(whole)
	for i, got := range answers(list) {
		want := slices.Clone(got)
		for j := range whole {
			whole[j] ^= 255
		}
		if !bytes.Equal(got, want) {
			t.Errorf("answer %d changes with what was handed in", i)
		}
		copy(whole, was)
		room := got[:cap(got)]
		for j := range room {
			room[j] ^= 255
		}
		if !bytes.Equal(whole, was) {
			t.Errorf("what was handed in changes with answer %d", i)
		}
		copy(whole, was)
	}
}

func TestAnswersShareNothing(t *testing.T) {
	list, _ := roomy(rising(6))
	first, second := answers(list), answers(list)
	for i := range first {
		want := slices.Clone(second[i])
		room := first[i][:cap(first[i])]
		for j := range room {
			room[j] ^= 255
		}
		if !bytes.Equal(second[i], want) {
			t.Errorf("two answers of call %d share memory", i)
		}
	}
	one, two := Put16(list, 1), Put16(list, 2)
	wantBytes(t, "the first of two puts", one, append(rising(6), 0, 1))
	wantBytes(t, "the second of two puts", two, append(rising(6), 0, 2))
}

func TestNilAndEmptyAreTheSame(t *testing.T) {
	empty := []byte{}
	wantBytes(t, "Put16", Put16(nil, 7), Put16(empty, 7))
	wantBytes(t, "Put32", Put32(nil, 7), Put32(empty, 7))
	wantBytes(t, "Join", Join(nil, []byte{1}), Join(empty, []byte{1}))
	for at := -1; at < 2; at++ {
		_, a := U16(nil, at)
		_, b := U16(empty, at)
		_, c := U32(nil, at)
		_, d := U32(empty, at)
		_, e := Set16(nil, at, 1)
		_, f := Set16(empty, at, 1)
		if a || b || c || d || e || f {
			t.Errorf("there is something in nothing, at %d", at)
		}
	}
}

// P1.3

func TestReadAgain16(t *testing.T) {
	for n := -70000; n <= 140000; n++ {
		got, ok := U16(Put16(nil, n), 0)
		if want := modulo16(n); got != want || !ok {
			t.Fatalf("U16 of Put16 of %d: %d %v, want %d", n, got, ok, want)
		}
	}
	for size := range 8 {
		for _, n := range numbers() {
			want := modulo16(n)
			b := Put32(Put16(rising(size), n), 305419896)
			if got, ok := U16(b, size); got != want || !ok {
				t.Errorf("U16 of Put16 of %d at %d: %d %v", n, size, got, ok)
			}
			for at := range len(b) - 1 {
				set, _ := Set16(b, at, n)
				if got, ok := U16(set, at); got != want || !ok {
					t.Errorf("U16 of Set16 of %d at %d: %d %v", n, at, got, ok)
				}
			}
		}
	}
}

func TestReadAgain32(t *testing.T) {
	for size := range 8 {
		for _, n := range words() {
			b := Put16(Put32(rising(size), n), 4660)
			if got, ok := U32(b, size); got != n || !ok {
				t.Errorf("U32 of Put32 of %d at %d: %d %v", n, size, got, ok)
			}
			part, ok := Cut(b, size, 4)
			wantCut(t, "Cut of Put32", part, ok, Put32(nil, n), true)
			wantBytes(t, "what stands ahead", b[:size], rising(size))
		}
	}
	// The two halves of a number of 4 bytes are numbers of 2.
	for _, n := range words() {
		b := Put32(nil, n)
		high, _ := U16(b, 0)
		low, _ := U16(b, 2)
		if uint32(high)*65536+uint32(low) != n {
			t.Errorf("halves of %d: %d %d", n, high, low)
		}
	}
}

func TestReadAgainJoined(t *testing.T) {
	b := Join(rising(3), Put16(nil, 258), Put32(nil, 16909060), rising(2))
	n, ok := U16(b, 3)
	u, is := U32(b, 5)
	if n != 258 || !ok || u != 16909060 || !is {
		t.Errorf("read of a join: %d %v %d %v", n, ok, u, is)
	}
}
