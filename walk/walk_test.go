package walk

import (
	"bytes"
	"fmt"
	"math"
	"slices"
	"testing"

	"harrier/api"
)

// mixed tells n bytes of no plain order; another seed tells others.
func mixed(n, seed int) []byte {
	b := make([]byte, n)
	x := uint32(seed)*2654435761 + 12345
	for i := range b {
		x = x*1664525 + 1013904223
		b[i] = byte(x >> 24)
	}
	return b
}

// ext is an extension header, behind which a header of the kind next stands; its second byte is n.
func ext(next, n int) []byte {
	b := mixed(8*n+8, next+n)
	b[0], b[1] = byte(next), byte(n)
	return b
}

// row is the bytes of headers one behind the other, the first of which is of the first kind: each
// but the last is an extension header of 8 bytes, and the last has no byte.
func row(kinds ...int) []byte {
	var b []byte
	for _, k := range kinds[1:] {
		b = append(b, ext(k, 0)...)
	}
	return b
}

// times is a kind, n times.
func times(n, kind int) []int {
	return slices.Repeat([]int{kind}, n)
}

// extKinds are the kinds of extension headers that may stand anywhere.
func extKinds() []int {
	return []int{43, 60}
}

// isLast: is a header of that kind the last one?
func isLast(kind int) bool {
	return !slices.Contains([]int{0, 43, 44, 60}, kind)
}

// farKinds are kinds that no byte can say: some of them are, in their low bits, such of extension headers or Fragment.
func farKinds() []int {
	l := []int{math.MaxInt, math.MaxInt - 1, math.MinInt + 1, math.MinInt, math.MinInt + 43, math.MinInt + 44, math.MinInt + 60, 1 << 62}
	for _, room := range []int{256, 65536, 1 << 31, 1 << 32, 1 << 48} {
		for _, k := range []int{0, 1, 6, 43, 44, 59, 60} {
			l = append(l, room+k, -room+k, -room-k)
		}
	}
	for k := 1; k <= 256; k++ {
		l = append(l, -k, 255+k)
	}
	return l
}

// lastKinds are all kinds that a byte can say and that are the last one, and such as no byte can say.
func lastKinds() []int {
	l := farKinds()
	for k := range 256 {
		if isLast(k) {
			l = append(l, k)
		}
	}
	return l
}

// anyKinds are kinds of each sort.
func anyKinds() []int {
	return []int{0, 43, 44, 60, 6, 58, 59, 1, 42, 45, 61, 255, 256, 256 + 43, 256 + 44, -1, -43, -44, -60, 43 - 256, 44 - 256, math.MaxInt, math.MinInt}
}

// wrongPlaces are places that no list of size bytes has, and at which it does not end.
func wrongPlaces(size int) []int {
	return []int{-1, -2, -3, -8, -40, -256, -65536, -1 << 31, -1 << 32, math.MinInt, math.MinInt + 1, math.MinInt + size, -size - 1,
		size + 1, size + 2, size + 3, size + 8, size + 256, size + 65536, size + 1<<31, size + 1<<32, math.MaxInt - 1, math.MaxInt}
}

// told tells the headers by another way than the program's: from the back, each header ahead of those that its
// bytes leave. b is what is left, at where that begins, and before how many headers stand ahead.
func told(b []byte, kind, at, before int) ([]Part, api.Errno) {
	if kind == 44 {
		return nil, api.ErrKind
	}
	if isLast(kind) {
		return []Part{{kind, at, len(b)}}, api.OK
	}
	if kind == 0 && before != 0 {
		return nil, api.ErrForm
	}
	if before >= 8 {
		return nil, api.ErrMany
	}
	for n := 0; n < 256 && len(b) >= 2; n++ {
		if int(b[1]) != n || len(b) < 8*n+8 {
			continue
		}
		l, e := told(b[8*n+8:], int(b[0]), at+8*n+8, before+1)
		if e != api.OK {
			return nil, e
		}
		return slices.Concat([]Part{{kind, at, 8*n + 8}}, l), api.OK
	}
	return nil, api.ErrShort
}

// wantWalk holds Walk against what it should tell: beside an error there is nothing.
func wantWalk(t *testing.T, what string, b []byte, next, at int, want []Part, wantE api.Errno) {
	t.Helper()
	l, e := Walk(b, next, at)
	if e != wantE {
		t.Errorf("%s: Walk of %d bytes as %d from %d on: error %d, want %d", what, len(b), next, at, e, wantE)
	}
	if e != api.OK && len(l) != 0 {
		t.Errorf("%s: Walk of %d bytes as %d from %d on: %v beside the error %d", what, len(b), next, at, l, e)
	}
	if !slices.Equal(l, want) {
		t.Errorf("%s: Walk of %d bytes as %d from %d on: %v, want %v", what, len(b), next, at, l, want)
	}
}

// wantError holds Walk against an error, with nothing beside it: from 0 on, and behind bytes that are not looked at.
func wantError(t *testing.T, what string, b []byte, next int, want api.Errno) {
	t.Helper()
	wantWalk(t, what, b, next, 0, nil, want)
	for _, ahead := range []int{1, 7, 8, 40} {
		wantWalk(t, what, append(mixed(ahead, ahead), b...), next, ahead, nil, want)
	}
}

// roomy tells b with room behind its end, which is filled, and the whole of it.
func roomy(b []byte) (list, whole []byte) {
	whole = append(slices.Clone(b), bytes.Repeat([]byte{6, 0, 60, 1}, 16)...)
	return whole[:len(b)], whole
}

// P5.1

func TestWalk(t *testing.T) {
	for _, c := range []struct {
		b        []byte
		next, at int
		want     []Part
	}{
		{[]byte{6, 0, 0, 0, 0, 0, 0, 0, 7, 7, 7}, 43, 0, []Part{{43, 0, 8}, {6, 8, 3}}},
		{[]byte{60, 0, 0, 0, 0, 0, 0, 0, 6, 0, 0, 0, 0, 0, 0, 0, 9}, 43, 0, []Part{{43, 0, 8}, {60, 8, 8}, {6, 16, 1}}},
		{[]byte{9, 9, 6, 0, 0, 0, 0, 0, 0, 0, 7}, 60, 2, []Part{{60, 2, 8}, {6, 10, 1}}},
		{[]byte{58, 0, 1, 2, 3, 4, 5, 6}, 0, 0, []Part{{0, 0, 8}, {58, 8, 0}}},
		{slices.Concat([]byte{43, 0, 0, 0, 0, 0, 0, 0, 59, 1}, make([]byte, 14), []byte{5, 5}), 0, 0, []Part{{0, 0, 8}, {43, 8, 16}, {59, 24, 2}}},
		{[]byte{43, 0, 0}, 6, 0, []Part{{6, 0, 3}}},
		{[]byte{43, 0, 0}, 59, 2, []Part{{59, 2, 1}}},
		{[]byte{43, 0, 0}, 59, 3, []Part{{59, 3, 0}}},
		{nil, 6, 0, []Part{{6, 0, 0}}},
		{[]byte{}, 58, 0, []Part{{58, 0, 0}}},
	} {
		wantWalk(t, fmt.Sprint(c.b), c.b, c.next, c.at, c.want, api.OK)
	}
}

// A last header is as long as there are bytes, whatever they are: none, one, many.
func TestLastHeader(t *testing.T) {
	for _, size := range []int{0, 1, 2, 7, 8, 9, 40, 1500, 70000} {
		for _, b := range [][]byte{mixed(size, size), make([]byte, size), bytes.Repeat([]byte{44}, size), bytes.Repeat([]byte{43}, size)} {
			for _, at := range []int{0, 1, size / 2, size - 1, size} {
				if at < 0 || at > size {
					continue
				}
				for _, kind := range []int{6, 58, 59, 1, 42, 45, 61, 255, -1, 256, math.MaxInt, math.MinInt} {
					wantWalk(t, "a last header", b, kind, at, []Part{{kind, at, size - at}}, api.OK)
				}
			}
		}
	}
}

func TestEachLastKind(t *testing.T) {
	for _, kind := range lastKinds() {
		for _, size := range []int{0, 1, 2, 8, 24} {
			b := ext(44, 2)[:size]
			for at := range size + 1 {
				wantWalk(t, "a last kind", b, kind, at, []Part{{kind, at, size - at}}, api.OK)
			}
		}
	}
}

// Each kind that a byte can say, behind each kind of extension header.
func TestEachKindBehindAnExtension(t *testing.T) {
	for _, first := range []int{0, 43, 60} {
		for kind := range 256 {
			for _, rest := range []int{0, 1, 5} {
				b := append(ext(kind, 1), mixed(rest, kind)...)
				switch {
				case isLast(kind):
					wantWalk(t, "behind an extension", b, first, 0, []Part{{first, 0, 16}, {kind, 16, rest}}, api.OK)
				case kind == 44:
					wantError(t, "behind an extension", b, first, api.ErrKind)
				case kind == 0:
					wantError(t, "behind an extension", b, first, api.ErrForm)
				default:
					wantError(t, "behind an extension", b, first, api.ErrShort)
				}
			}
		}
	}
}

// An extension header is 8 times as long as its second byte says, and 8 bytes more; of 0, 1 and 255 as of all others.
func TestEachLengthOfAnExtension(t *testing.T) {
	for _, first := range []int{0, 43, 60} {
		for n := range 256 {
			size := 8 * (n + 1)
			b := append(ext(17, n), mixed(2060, n)...)
			for _, rest := range []int{0, 1, 2, 8, 2060} {
				wantWalk(t, "an extension and a last one", b[:size+rest], first, 0, []Part{{first, 0, size}, {17, size, rest}}, api.OK)
			}
			for _, short := range []int{size - 1, size - 2, size - 7, size - 8, size / 2, 7, 3, 2, 1, 0} {
				if short < size {
					wantError(t, "an extension cut short", b[:short], first, api.ErrShort)
				}
			}
		}
	}
}

func TestLengthsOfTwoExtensions(t *testing.T) {
	for _, n := range []int{0, 1, 2, 254, 255} {
		for _, m := range []int{0, 1, 2, 254, 255} {
			one, two := 8*n+8, 8*m+8
			b := slices.Concat(mixed(3, n), ext(60, n), ext(58, m), mixed(4, m))
			want := []Part{{43, 3, one}, {60, 3 + one, two}, {58, 3 + one + two, 4}}
			wantWalk(t, "two extensions", b, 43, 3, want, api.OK)
			wantWalk(t, "the second of two extensions", b, 60, 3+one, want[1:], api.OK)
			wantWalk(t, "the last one alone", b, 58, 3+one+two, want[2:], api.OK)
		}
	}
}

// Up to eight extension headers may be, each of another length too.
func TestHowManyExtensions(t *testing.T) {
	for many := range 9 {
		for _, first := range []int{0, 43, 60} {
			for _, n := range []int{0, 1, 3, 255} {
				var b []byte
				var want []Part
				kind, at := first, 5
				for i := range many {
					next := extKinds()[(i+n)%2]
					if i == many-1 {
						next = 6
					}
					b = append(b, ext(next, (n+i)%256)...)
					size := 8*((n+i)%256) + 8
					want = append(want, Part{kind, at, size})
					kind, at = next, at+size
				}
				if many == 0 {
					kind = 6
				}
				want = append(want, Part{kind, at, 9})
				b = slices.Concat(mixed(5, 1), b, mixed(9, 2))
				wantWalk(t, fmt.Sprint(many, " extensions"), b, want[0].Kind, 5, want, api.OK)
			}
		}
	}
}

// What stands ahead of the place is nothing to what is told but where it lies.
func TestEachPlace(t *testing.T) {
	part := slices.Concat(ext(60, 1), ext(6, 0), mixed(11, 1))
	for _, first := range []int{0, 43, 60} {
		for at := range 70 {
			for _, seed := range []int{1, 2} {
				b := append(mixed(at, seed), part...)
				wantWalk(t, "behind other bytes", b, first, at, []Part{{first, at, 16}, {60, at + 16, 8}, {6, at + 24, 11}}, api.OK)
			}
		}
	}
}

// What an extension header holds behind its first two bytes is not looked at.
func TestRestOfAnExtension(t *testing.T) {
	for at := 2; at < 16; at++ {
		for x := range 256 {
			b := append(ext(6, 1), 1, 2, 3)
			b[at] = byte(x)
			wantWalk(t, "an extension of any bytes", b, 43, 0, []Part{{43, 0, 16}, {6, 16, 3}}, api.OK)
		}
	}
}

func TestShortListsOfFewBytes(t *testing.T) {
	few := []byte{0, 1, 2, 6, 43, 44, 59, 60, 255}
	for _, next := range anyKinds() {
		for _, x := range few {
			for _, y := range few {
				for size := range 28 {
					b := bytes.Repeat([]byte{x, y, y}, 10)[:size]
					want, e := told(b, next, 0, 0)
					wantWalk(t, fmt.Sprint(b), b, next, 0, want, e)
				}
			}
		}
	}
}

// lottery tells bytes in which extension headers often follow each other, and whose lengths often fit.
func lottery(seed int) []byte {
	dice := mixed(400, seed)
	kinds := []int{0, 43, 60, 43, 60, 43, 60, 60, 43, 43, 6, 58, 44, 59}
	var b []byte
	for i := range int(dice[0]) % 12 {
		kind, n := kinds[int(dice[2*i+1])%len(kinds)], int(dice[2*i+2])%3
		if seed%2 == 0 && kind == 0 {
			kind = 43
		}
		b = append(b, ext(kind, n)...)
	}
	b = append(b, dice[300:300+int(dice[299])%9]...)
	return b[:len(b)-min(len(b), int(dice[298])%20/17*int(dice[297])%30)]
}

func TestManyLists(t *testing.T) {
	met := map[api.Errno]int{}
	for seed := range 30000 {
		b := lottery(seed)
		for _, next := range []int{0, 43, 60} {
			for _, at := range []int{0, min(8, len(b)), len(b)} {
				want, e := told(b[at:], next, at, 0)
				wantWalk(t, fmt.Sprint("list ", seed), b, next, at, want, e)
				met[e]++
			}
		}
	}
	for _, e := range []api.Errno{api.OK, api.ErrKind, api.ErrForm, api.ErrMany, api.ErrShort} {
		if met[e] < 100 {
			t.Errorf("the lists hold error %d but %d times", e, met[e])
		}
	}
}

// P5.2

// ErrArg, at each place that may not be; it comes ahead of all other errors.
func TestPlaceThatMayNotBe(t *testing.T) {
	for _, b := range [][]byte{nil, {}, {6}, {44, 44}, ext(6, 0), ext(44, 0), ext(0, 0), ext(43, 0), ext(43, 255), row(times(12, 60)...), mixed(1500, 3)} {
		for _, at := range wrongPlaces(len(b)) {
			for _, next := range anyKinds() {
				wantWalk(t, "a place that may not be", b, next, at, nil, api.ErrArg)
			}
		}
	}
}

// Where bytes end a last header may still stand, and an extension header may not.
func TestPlaceAtTheEnd(t *testing.T) {
	for _, size := range []int{0, 1, 2, 8, 9, 1500} {
		b := bytes.Repeat([]byte{6, 0}, size)[:size]
		for _, kind := range []int{6, 58, 59, -1, 256, math.MaxInt, math.MinInt} {
			wantWalk(t, "at the end", b, kind, size, []Part{{kind, size, 0}}, api.OK)
			wantWalk(t, "one beyond the end", b, kind, size+1, nil, api.ErrArg)
		}
		for _, kind := range []int{0, 43, 60} {
			wantWalk(t, "at the end", b, kind, size, nil, api.ErrShort)
			wantWalk(t, "one beyond the end", b, kind, size+1, nil, api.ErrArg)
		}
		wantWalk(t, "Fragment at the end", b, 44, size, nil, api.ErrKind)
		wantWalk(t, "Fragment one beyond the end", b, 44, size+1, nil, api.ErrArg)
	}
}

// At the last byte stands a last header of one byte; of an extension header the second byte is missing.
func TestPlaceAtTheLastByte(t *testing.T) {
	for _, size := range []int{1, 2, 8, 9, 1500} {
		for _, x := range []byte{0, 6, 43, 44, 60} {
			list, _ := roomy(bytes.Repeat([]byte{x}, size))
			wantWalk(t, "at the last byte", list, 6, size-1, []Part{{6, size - 1, 1}}, api.OK)
			wantWalk(t, "at the last byte", list, 44, size-1, nil, api.ErrKind)
			for _, kind := range []int{0, 43, 60} {
				wantWalk(t, "at the last byte", list, kind, size-1, nil, api.ErrShort)
			}
		}
	}
}

// ErrKind comes ahead of all bytes: whether there are any, and behind as many headers as may be.
func TestFragment(t *testing.T) {
	for _, size := range []int{0, 1, 2, 7, 8, 9, 1500} {
		wantError(t, "Fragment as the first", mixed(size, 7), 44, api.ErrKind)
		wantError(t, "Fragment as the first", ext(6, 255)[:size], 44, api.ErrKind)
	}
	for ahead := 1; ahead <= 8; ahead++ {
		for _, first := range []int{0, 43, 60} {
			kinds := append([]int{first}, times(ahead-1, 43)...)
			b := row(append(kinds, 44)...)
			for _, rest := range []int{0, 1, 2, 8, 20} {
				wantError(t, fmt.Sprint("Fragment behind ", ahead), append(slices.Clone(b), mixed(rest, 1)...), first, api.ErrKind)
			}
		}
	}
}

// ErrForm: HopByHop behind another header, ahead of its bytes, and as the ninth too.
func TestHopByHopBehindAnother(t *testing.T) {
	for ahead := 1; ahead <= 8; ahead++ {
		for _, first := range []int{0, 43, 60} {
			kinds := append([]int{first}, times(ahead-1, 60)...)
			b := row(append(kinds, 0)...)
			for _, rest := range [][]byte{nil, {6}, {6, 0}, {6, 255}, ext(6, 0)[:7], ext(6, 0), ext(0, 0), ext(44, 1)} {
				wantError(t, fmt.Sprint("HopByHop behind ", ahead), append(slices.Clone(b), rest...), first, api.ErrForm)
			}
		}
	}
}

func TestHopByHopAsTheFirst(t *testing.T) {
	for many := 1; many <= 8; many++ {
		kinds := append(append([]int{0}, times(many-1, 43)...), 6)
		l, e := Walk(row(kinds...), 0, 0)
		if e != api.OK || len(l) != many+1 || l[0] != (Part{0, 0, 8}) || l[many] != (Part{6, 8 * many, 0}) {
			t.Errorf("HopByHop and %d others: %v %d", many-1, l, e)
		}
	}
}

// ErrMany: a ninth extension header, ahead of its bytes; the headers behind it are not looked at.
func TestNinthExtension(t *testing.T) {
	for _, first := range []int{0, 43, 60} {
		for _, ninth := range extKinds() {
			b := row(append(append([]int{first}, times(7, 43)...), ninth)...)
			for _, rest := range [][]byte{nil, {6}, {6, 0}, {6, 255}, ext(6, 0)[:7], ext(6, 0), append(ext(6, 0), 1), ext(0, 0), ext(44, 0), ext(6, 255), append(ext(43, 0), ext(6, 0)...)} {
				wantError(t, "a ninth extension", append(slices.Clone(b), rest...), first, api.ErrMany)
			}
			wantError(t, "more than nine extensions", append(slices.Clone(b), row(times(20, 60)...)...), first, api.ErrMany)
		}
	}
	long := slices.Concat(slices.Repeat(ext(60, 255), 9), ext(6, 255))
	wantError(t, "nine long extensions", long, 60, api.ErrMany)
}

// ErrShort: of an extension header no byte is there, one, or fewer than it says; what stands behind the end does not help.
func TestShortExtension(t *testing.T) {
	for ahead := range 8 {
		for _, first := range []int{0, 43, 60} {
			kinds := append([]int{first}, times(ahead, 60)...)
			for _, n := range []int{0, 1, 2, 31, 255} {
				whole := append(row(kinds...), ext(6, n)...)
				for _, size := range []int{0, 1, 2, 3, 6, 7, 8*n + 1, 8*n + 6, 8*n + 7} {
					wantError(t, fmt.Sprintf("%d of %d bytes behind %d", size, 8*n+8, ahead), whole[:8*ahead+size], first, api.ErrShort)
				}
				l, e := Walk(whole, first, 0)
				if e != api.OK || len(l) != ahead+2 {
					t.Errorf("all bytes behind %d: %v %d", ahead, l, e)
				}
			}
		}
	}
}

// Of two headers that are wrong the one ahead tells its error, whatever that is.
func TestErrorOfTheHeaderAhead(t *testing.T) {
	for _, first := range []int{0, 43, 60} {
		wantError(t, "too short, of a kind that is not taken behind", ext(44, 1)[:15], first, api.ErrShort)
		wantError(t, "too short, with HopByHop behind", ext(0, 1)[:15], first, api.ErrShort)
		wantError(t, "Fragment ahead of HopByHop", append(row(first, 44), ext(0, 0)...), first, api.ErrKind)
		wantError(t, "HopByHop ahead of Fragment", append(row(first, 0), ext(44, 0)...), first, api.ErrForm)
		wantError(t, "HopByHop ahead of a short one", append(row(first, 0), ext(43, 0)...), first, api.ErrForm)
		wantError(t, "the eighth too short, with a ninth behind", slices.Concat(row(append([]int{first}, times(7, 43)...)...), ext(43, 1)[:15]), first, api.ErrShort)
	}
}

// Without bytes: each kind tells the error that comes ahead of the missing bytes, or is the last one.
func TestNoBytes(t *testing.T) {
	for _, b := range [][]byte{nil, {}} {
		for _, kind := range lastKinds() {
			wantWalk(t, "no bytes", b, kind, 0, []Part{{kind, 0, 0}}, api.OK)
		}
		for _, kind := range []int{0, 43, 60} {
			wantWalk(t, "no bytes", b, kind, 0, nil, api.ErrShort)
		}
		wantWalk(t, "no bytes", b, 44, 0, nil, api.ErrKind)
	}
}

// P5.3

// lists are such as Walk tells and such as it never would.
func lists() [][]Part {
	return [][]Part{
		nil,
		{},
		{{6, 0, 3}},
		{{0, 0, 0}},
		{{43, 0, 8}, {6, 8, 3}},
		{{60, 0, 8}, {43, 8, 16}, {60, 24, 8}, {60, 32, 8}, {58, 40, 0}},
		{{6, 5, 5}, {6, 5, 5}, {6, 5, 5}},
		{{6, 1, 2}, {6, 3, 4}, {43, 5, 6}, {43, 7, 8}},
		{{44, -1, -8}, {44, math.MaxInt, math.MinInt}},
		{{-1, 0, 0}, {256, 6, 58}, {math.MaxInt, 43, 43}, {math.MinInt, 60, 60}, {math.MaxInt, 1, 1}},
		slices.Repeat([]Part{{60, 0, 8}, {6, 43, 58}}, 500),
	}
}

func TestFind(t *testing.T) {
	for _, c := range []struct {
		l    []Part
		kind int
		want int
	}{
		{nil, 0, -1},
		{nil, 6, -1},
		{[]Part{}, 0, -1},
		{[]Part{{6, 0, 3}}, 6, 0},
		{[]Part{{6, 0, 3}}, 0, -1},
		{[]Part{{6, 0, 3}}, 3, -1},
		{[]Part{{0, 6, 6}}, 6, -1},
		{[]Part{{0, 6, 6}}, 0, 0},
		{[]Part{{43, 0, 8}, {6, 8, 3}}, 43, 0},
		{[]Part{{43, 0, 8}, {6, 8, 3}}, 6, 1},
		{[]Part{{43, 0, 8}, {6, 8, 3}}, 8, -1},
		{[]Part{{43, 0, 8}, {60, 8, 8}, {60, 16, 8}, {6, 24, 3}}, 60, 1},
		{[]Part{{60, 0, 8}, {43, 8, 8}, {60, 16, 8}, {43, 24, 8}}, 43, 1},
		{[]Part{{60, 0, 8}, {43, 8, 8}, {60, 16, 8}, {43, 24, 8}}, 60, 0},
		{[]Part{{60, 0, 8}, {43, 8, 8}, {60, 16, 8}, {43, 24, 8}}, -1, -1},
		{[]Part{{256, 0, 8}, {-256, 0, 8}}, 0, -1},
		{[]Part{{1 << 32, 0, 8}, {0, 0, 8}}, 0, 1},
		{[]Part{{math.MinInt, 0, 8}, {math.MaxInt, 0, 8}}, math.MaxInt, 1},
		{[]Part{{math.MinInt, 0, 8}, {math.MaxInt, 0, 8}}, math.MinInt, 0},
	} {
		if got := Find(c.l, c.kind); got != c.want {
			t.Errorf("Find(%v, %d): %d, want %d", c.l, c.kind, got, c.want)
		}
	}
}

// What Find tells is of that kind, and none ahead of it is; where it tells -1, none is.
func TestFindOfEachKind(t *testing.T) {
	for _, l := range lists() {
		for _, kind := range slices.Concat(anyKinds(), farKinds(), lastKinds()) {
			got := Find(l, kind)
			if got < -1 || got >= len(l) {
				t.Fatalf("Find of %d in %d headers: %d", kind, len(l), got)
			}
			end := got
			if got == -1 {
				end = len(l)
			} else if l[got].Kind != kind {
				t.Errorf("Find of %d: %d, which is %v", kind, got, l[got])
			}
			for i, p := range l[:end] {
				if p.Kind == kind {
					t.Errorf("Find of %d: %d, and one stands at %d", kind, got, i)
				}
			}
		}
	}
}

func TestUpper(t *testing.T) {
	for _, l := range lists() {
		p, ok := Upper(l)
		if len(l) == 0 {
			if ok || p != (Part{}) {
				t.Errorf("Upper of no headers: %v %v", p, ok)
			}
			continue
		}
		if !ok || p != l[len(l)-1] {
			t.Errorf("Upper(%v): %v %v", l, p, ok)
		}
	}
}

// Headers in the room behind a list's end are none of its headers.
func TestEndOfAList(t *testing.T) {
	whole := []Part{{43, 0, 8}, {60, 8, 8}, {6, 16, 1}}
	for size := range len(whole) + 1 {
		l := whole[:size]
		for i, p := range whole {
			want := i
			if i >= size {
				want = -1
			}
			if got := Find(l, p.Kind); got != want {
				t.Errorf("Find of %d in %d of 3: %d, want %d", p.Kind, size, got, want)
			}
		}
		p, ok := Upper(l)
		if ok != (size > 0) || size > 0 && p != whole[size-1] || size == 0 && p != (Part{}) {
			t.Errorf("Upper of %d of 3: %v %v", size, p, ok)
		}
	}
}

// Of what Walk tells, Upper is the one header that is no extension header, and Find finds it there.
func TestFindAndUpperOfWalk(t *testing.T) {
	for many := range 9 {
		for _, last := range []int{6, 58, 59, 255} {
			kinds := append(times(many, 60), last)
			b := append(row(kinds...), 1, 2, 3)
			l, e := Walk(b, kinds[0], 0)
			p, ok := Upper(l)
			if e != api.OK || !ok || p != (Part{last, 8 * many, 3}) {
				t.Errorf("Upper behind %d: %v %v, error %d", many, p, ok, e)
			}
			first := 0
			if many == 0 {
				first = -1
			}
			if Find(l, last) != many || Find(l, 60) != first || Find(l, 43) != -1 || Find(l, 44) != -1 {
				t.Errorf("Find behind %d: %d %d %d %d", many, Find(l, last), Find(l, 60), Find(l, 43), Find(l, 44))
			}
		}
	}
	l, _ := Walk(nil, 44, 0)
	if p, ok := Upper(l); ok || p != (Part{}) || Find(l, 44) != -1 {
		t.Errorf("beside an error: Upper %v %v, Find %d", p, ok, Find(l, 44))
	}
}

// P5.4

// wantWhole holds what was told against P5.4: one behind the other, from at to the end.
func wantWhole(t *testing.T, what string, b []byte, next, at int, l []Part) {
	t.Helper()
	if len(l) == 0 || l[0].Kind != next {
		t.Errorf("%s: %v, and no header of the kind %d first", what, l, next)
		return
	}
	for i, p := range l {
		if p.At != at || p.Len < 0 {
			t.Errorf("%s: header %d of %v, want one at %d", what, i, l, at)
			return
		}
		at += p.Len
	}
	if at != len(b) {
		t.Errorf("%s: %v ends at %d, want %d", what, l, at, len(b))
	}
}

func TestOneBehindTheOther(t *testing.T) {
	fine := 0
	for seed := range 20000 {
		b := lottery(seed)
		for _, next := range anyKinds() {
			for _, at := range []int{0, len(b) / 2, max(0, len(b)-9), len(b)} {
				l, e := Walk(b, next, at)
				if e != api.OK {
					continue
				}
				wantWhole(t, fmt.Sprint("list ", seed), b, next, at, l)
				if len(l) > 3 {
					fine++
				}
			}
		}
	}
	if fine < 1000 {
		t.Errorf("the lists hold but %d of more than three headers", fine)
	}
}

// From each header on, a walk tells what the whole walk told from there on.
func TestWalkFromEachHeader(t *testing.T) {
	for seed := range 5000 {
		b := lottery(seed)
		l, e := Walk(b, 43, 0)
		if e != api.OK {
			continue
		}
		for i, p := range l {
			wantWalk(t, fmt.Sprint("list ", seed), b, p.Kind, p.At, l[i:], api.OK)
			if i+1 < len(l) && int(b[p.At]) != l[i+1].Kind {
				t.Errorf("list %d: %v, and the first byte at %d is %d", seed, l, p.At, b[p.At])
			}
		}
	}
}

// R1: no call panics, at numbers at their ends either.
func TestEachNumberAtItsEnds(t *testing.T) {
	for _, b := range [][]byte{nil, {}, {0}, {43, 255}, ext(60, 255), row(times(10, 43)...), mixed(3000, 5)} {
		for _, at := range append([]int{0, 1, len(b) - 1, len(b)}, wrongPlaces(len(b))...) {
			for _, next := range slices.Concat(anyKinds(), farKinds()) {
				l, e := Walk(b, next, at)
				if (at < 0 || at > len(b)) != (e == api.ErrArg) {
					t.Errorf("Walk of %d bytes as %d from %d on: error %d", len(b), next, at, e)
				}
				if (len(l) == 0) != (e != api.OK) {
					t.Errorf("Walk of %d bytes as %d from %d on: %v beside %d", len(b), next, at, l, e)
				}
			}
		}
	}
}

// R3: what is handed in stays as it was, with the room behind it; what is told is new memory.

func TestBytesStay(t *testing.T) {
	for seed := range 200 {
		list, whole := roomy(lottery(seed))
		was := slices.Clone(whole)
		for _, next := range anyKinds() {
			for _, at := range []int{-1, 0, len(list) / 2, len(list), len(list) + 1} {
				Walk(list, next, at)
			}
		}
		if !bytes.Equal(whole, was) {
			t.Fatalf("Walk changed list %d or the room behind it", seed)
		}
	}
}

func TestListsStay(t *testing.T) {
	for _, l := range lists() {
		whole := append(slices.Clone(l), Part{60, 7, 7}, Part{6, 6, 6})
		was := slices.Clone(whole)
		list := whole[:len(l)]
		for _, kind := range anyKinds() {
			Find(list, kind)
		}
		Upper(list)
		if !slices.Equal(whole, was) {
			t.Errorf("Find or Upper changed %v or the room behind it", was)
		}
	}
}

func TestAnswersAreNewMemory(t *testing.T) {
	for many := range 9 {
		b := append(row(append(times(many, 60), 6)...), 1, 2)
		next := 60
		if many == 0 {
			next = 6
		}
		one, _ := Walk(b, next, 0)
		two, _ := Walk(b, next, 0)
		want := slices.Clone(one)
		room := one[:cap(one)]
		for i := range room {
			room[i] = Part{-9, -9, -9}
		}
		if !slices.Equal(two, want) {
			t.Errorf("two answers of %d headers share memory", many+1)
		}
		for i := range b {
			b[i] ^= 255
		}
		if !slices.Equal(two, want) {
			t.Errorf("the answer of %d headers changes with the bytes", many+1)
		}
		p, _ := Upper(two)
		two[len(two)-1] = Part{}
		if p != want[len(want)-1] {
			t.Errorf("Upper's answer changes with the list: %v", p)
		}
	}
}

// What was handed in is not kept: the bytes changed, other headers are told.
func TestBytesAreNotKept(t *testing.T) {
	b := append(ext(6, 0), ext(58, 0)...)
	wantWalk(t, "ahead of the change", b, 43, 0, []Part{{43, 0, 8}, {6, 8, 8}}, api.OK)
	b[0] = 60
	wantWalk(t, "behind the change", b, 43, 0, []Part{{43, 0, 8}, {60, 8, 8}, {58, 16, 0}}, api.OK)
	b[1] = 1
	wantWalk(t, "behind the second change", b, 43, 0, nil, api.ErrShort)
	b[0] = 44
	wantWalk(t, "behind the third change", b, 43, 0, nil, api.ErrKind)
	b[1] = 2
	wantWalk(t, "behind the fourth change", b, 43, 0, nil, api.ErrShort)
}

func TestNilAndEmptyAreTheSame(t *testing.T) {
	for _, next := range slices.Concat(anyKinds(), farKinds()) {
		for _, at := range []int{-1, 0, 1} {
			l, e := Walk(nil, next, at)
			m, f := Walk([]byte{}, next, at)
			if e != f || !slices.Equal(l, m) {
				t.Errorf("Walk as %d from %d on: %v %d of nil, %v %d of an empty list", next, at, l, e, m, f)
			}
		}
		if Find(nil, next) != Find([]Part{}, next) {
			t.Errorf("Find of %d: %d of nil, %d of an empty list", next, Find(nil, next), Find([]Part{}, next))
		}
	}
}

// R4

func TestAskedAgain(t *testing.T) {
	for seed := range 300 {
		b := lottery(seed)
		for _, next := range anyKinds() {
			l, e := Walk(b, next, 0)
			for range 3 {
				list, _ := roomy(b)
				wantWalk(t, fmt.Sprintf("list %d, asked again", seed), list, next, 0, l, e)
			}
		}
	}
}
