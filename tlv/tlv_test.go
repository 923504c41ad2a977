package tlv

import (
	"bytes"
	"fmt"
	"math"
	"slices"
	"strings"
	"testing"

	"harrier/api"
)

// mixed tells n bytes of no plain order; another seed tells others.
func mixed(n, seed int) []byte {
	b := make([]byte, n)
	x := uint32(seed)*2654435761 + 12345
	for i := range b {
		x = x*1664525 + 1013904223
		b[i] = byte(x >> 24)
	}
	return b
}

// part is a part of a kind with n bytes of Data.
func part(kind, n int) api.Tlv {
	return api.Tlv{Kind: kind, Data: mixed(n, kind+n)}
}

// wrongKinds are kinds that may not be: those that are nothing, such as no byte can say, and some that would be fine in their low bits.
func wrongKinds() []int {
	l := []int{0, 4, math.MaxInt, math.MaxInt - 1, math.MinInt, math.MinInt + 1, math.MinInt + 5, 1 << 62}
	for _, room := range []int{256, 512, 65536, 1 << 31, 1 << 32, 1 << 48} {
		for _, k := range []int{0, 1, 3, 4, 5, 124, 255} {
			l = append(l, room+k, -room+k, -room-k)
		}
	}
	for k := 1; k <= 256; k++ {
		l = append(l, -k, 255+k)
	}
	return l
}

// rightKinds are all kinds that may be.
func rightKinds() []int {
	var l []int
	for k := 1; k <= 255; k++ {
		if k != 4 {
			l = append(l, k)
		}
	}
	return l
}

// ends are numbers at the ends of int, and others that are far off.
func ends() []int {
	return []int{math.MinInt, math.MinInt + 1, math.MinInt + 2, math.MinInt + 257, math.MinInt + 258, -1 << 62, -1 << 32, -1 << 31, -65536, -65535, -257, -256, -255, -2, -1,
		math.MaxInt, math.MaxInt - 1, math.MaxInt - 2, math.MaxInt - 257, 1 << 62, 1 << 32, 1<<32 + 1, 1 << 31, 1<<31 - 1, 1 << 20}
}

// equalParts: are they the same parts? nil and empty lists are the same.
func equalParts(a, b []api.Tlv) bool {
	return slices.EqualFunc(a, b, func(x, y api.Tlv) bool { return x.Kind == y.Kind && bytes.Equal(x.Data, y.Data) })
}

// cloned is the parts in new memory.
func cloned(l []api.Tlv) []api.Tlv {
	var out []api.Tlv
	for _, p := range l {
		out = append(out, api.Tlv{Kind: p.Kind, Data: slices.Clone(p.Data)})
	}
	return out
}

// roomy tells b with room behind its end, which is filled, and the whole of it.
func roomy(b []byte) (list, whole []byte) {
	whole = append(slices.Clone(b), bytes.Repeat([]byte{5, 2, 9, 9}, 80)...)
	return whole[:len(b)], whole
}

// roomyParts tells parts with room behind each list's end, which is filled, the whole of them, and the whole of each Data.
func roomyParts(l []api.Tlv) (list, whole []api.Tlv, datas [][]byte) {
	for _, p := range l {
		data, all := roomy(p.Data)
		whole = append(whole, api.Tlv{Kind: p.Kind, Data: data})
		datas = append(datas, all)
	}
	whole = append(whole, api.Tlv{Kind: 5, Data: []byte{9, 9}}, api.Tlv{Kind: 77}, api.Tlv{Kind: -1, Data: []byte{7}})
	return whole[:len(l)], whole, datas
}

// fill makes each byte of a list another one, and each of the room behind its end.
func fill(b []byte) {
	b = b[:cap(b)]
	for i := range b {
		b[i] ^= 0xa5
	}
}

// bytesOf reads a text of numbers.
func bytesOf(text string) []byte {
	var b []byte
	for _, w := range strings.Fields(text) {
		n := 0
		fmt.Sscan(w, &n)
		b = append(b, byte(n))
	}
	return b
}

// textOf writes bytes as a text of numbers.
func textOf(b []byte) string {
	return strings.Trim(fmt.Sprint(b), "[]")
}

// filling is what stands behind parts that are together n bytes.
func filling(n int) []byte {
	return [][]byte{{}, {4, 5, 0, 0, 0, 0, 0}, {4, 4, 0, 0, 0, 0}, {4, 3, 0, 0, 0}, {4, 2, 0, 0}, {4, 1, 0}, {4, 0}, {0}}[n%8]
}

// putBy tells what Put should, by another way than the program's: by texts of numbers.
func putBy(l []api.Tlv) ([]byte, api.Errno) {
	text := ""
	for _, p := range l {
		switch {
		case p.Kind < 1 || p.Kind == 4 || p.Kind > 255:
			return nil, api.ErrArg
		case len(p.Data) > 255:
			return nil, api.ErrLong
		}
		text += fmt.Sprintf(" %d %d %s", p.Kind, len(p.Data), textOf(p.Data))
	}
	n := len(strings.Fields(text))
	if n > 256 {
		return nil, api.ErrMany
	}
	return append(bytesOf(text), filling(n)...), api.OK
}

// parseBy tells what Parse should, by another way than the program's: byte by byte, by what is looked for.
func parseBy(b []byte) ([]api.Tlv, api.Errno) {
	var l []api.Tlv
	var now api.Tlv
	left := -2 // -2: a Kind is looked for; -1: how long the Data is; else as many bytes of Data
	for _, x := range b {
		switch {
		case left == -2 && x == 0:
			continue
		case left == -2:
			now, left = api.Tlv{Kind: int(x)}, -1
			continue
		case left == -1:
			left = int(x)
		default:
			now.Data = append(now.Data, x)
			left--
		}
		if left == 0 {
			if now.Kind != 4 {
				l = append(l, now)
			}
			left = -2
		}
	}
	if left != -2 {
		return nil, api.ErrShort
	}
	return l, api.OK
}

// wantPut holds Can and Put against what they should tell: beside an error there is nothing.
func wantPut(t *testing.T, what string, l []api.Tlv, want []byte, wantE api.Errno) {
	t.Helper()
	if e := Can(l); e != wantE {
		t.Errorf("%s: Can of %d parts: %d, want %d", what, len(l), e, wantE)
	}
	b, e := Put(l)
	if e != wantE {
		t.Errorf("%s: Put of %d parts: error %d, want %d", what, len(l), e, wantE)
	}
	if !bytes.Equal(b, want) {
		t.Errorf("%s: Put of %d parts: %v, want %v", what, len(l), b, want)
	}
}

// wantPutError holds Can and Put against an error, with nothing beside it.
func wantPutError(t *testing.T, what string, l []api.Tlv, want api.Errno) {
	t.Helper()
	wantPut(t, what, l, nil, want)
}

// wantParse holds Parse against what it should tell: beside an error there is nothing.
func wantParse(t *testing.T, what string, b []byte, want []api.Tlv, wantE api.Errno) {
	t.Helper()
	list, _ := roomy(b)
	l, e := Parse(list)
	if e != wantE {
		t.Errorf("%s: Parse(%v): error %d, want %d", what, b, e, wantE)
	}
	if !equalParts(l, want) {
		t.Errorf("%s: Parse(%v): %v, want %v", what, b, l, want)
	}
}

// wantShort holds Parse against ErrShort: at the beginning of the bytes, and behind parts that are all there, which are not told.
func wantShort(t *testing.T, what string, b []byte) {
	t.Helper()
	for _, first := range [][]byte{nil, {0}, {0, 0, 0}, {4, 0}, {4, 2, 0, 0}, {4, 1, 7}, {5, 0}, {5, 1, 9}, {1, 3, 0, 4, 0}, {255, 1, 255, 4, 0, 0, 3, 2, 1, 2}, append([]byte{7, 255}, mixed(255, 1)...)} {
		wantParse(t, what, slices.Concat(first, b), nil, api.ErrShort)
	}
}

// wantFind holds Find against what it should tell: beside a false there is nothing.
func wantFind(t *testing.T, what string, l []api.Tlv, kind int, want []byte, wantOk bool) {
	t.Helper()
	got, ok := Find(l, kind)
	if ok != wantOk || !bytes.Equal(got, want) {
		t.Errorf("%s: Find of %d in %d parts: %v %v, want %v %v", what, kind, len(l), got, ok, want, wantOk)
	}
}

func TestNumbersOfTheChapter(t *testing.T) {
	got := []int{Pad1, PadN, Most}
	if want := []int{0, 4, 256}; !slices.Equal(got, want) {
		t.Errorf("the chapter's numbers: %v, want %v", got, want)
	}
}

// P9.1: Pad

func TestPad(t *testing.T) {
	for _, c := range []struct {
		n    int
		want []byte
	}{
		{-1, nil},
		{0, nil},
		{1, []byte{0}},
		{2, []byte{4, 0}},
		{3, []byte{4, 1, 0}},
		{4, []byte{4, 2, 0, 0}},
		{7, []byte{4, 5, 0, 0, 0, 0, 0}},
		{8, []byte{4, 6, 0, 0, 0, 0, 0, 0}},
		{256, append([]byte{4, 254}, make([]byte, 254)...)},
		{257, append([]byte{4, 255}, make([]byte, 255)...)},
		{258, append([]byte{4, 255}, make([]byte, 255)...)},
	} {
		if got := Pad(c.n); !bytes.Equal(got, c.want) {
			t.Errorf("Pad(%d): %v, want %v", c.n, got, c.want)
		}
	}
}

func TestPadOfEachLength(t *testing.T) {
	for n := 2; n <= 257; n++ {
		want := bytesOf(fmt.Sprint("4 ", n-2, strings.Repeat(" 0", n-2)))
		if got := Pad(n); !bytes.Equal(got, want) || len(got) != n {
			t.Errorf("Pad(%d): %v, want %v", n, got, want)
		}
	}
	most := bytesOf("4 255" + strings.Repeat(" 0", 255))
	for n := 258; n < 1100; n++ {
		if got := Pad(n); !bytes.Equal(got, most) {
			t.Errorf("Pad(%d): %v, want that of 257", n, got)
		}
	}
	for n := -1100; n < 1; n++ {
		if got := Pad(n); len(got) != 0 {
			t.Errorf("Pad(%d): %v, want nothing", n, got)
		}
	}
}

func TestPadAtTheEnds(t *testing.T) {
	most := bytesOf("4 255" + strings.Repeat(" 0", 255))
	far := ends()
	// Numbers that would be few in their low bits.
	for bits := 9; bits < 63; bits++ {
		for low := range 260 {
			far = append(far, 1<<bits+low, low-1<<bits)
		}
	}
	for _, n := range far {
		got := Pad(n)
		if n < 1 && len(got) != 0 || n > 1 && !bytes.Equal(got, most) {
			t.Errorf("Pad(%d): %v", n, got)
		}
	}
}

// P9.1: Can and Put

func TestPut(t *testing.T) {
	for _, c := range []struct {
		l    []api.Tlv
		want []byte
	}{
		{nil, nil},
		{[]api.Tlv{}, nil},
		{[]api.Tlv{{Kind: 5, Data: []byte{9}}}, []byte{5, 1, 9, 4, 3, 0, 0, 0}},
		{[]api.Tlv{{Kind: 124, Data: []byte{1, 2, 3, 4, 5}}}, []byte{124, 5, 1, 2, 3, 4, 5, 0}},
		{[]api.Tlv{{Kind: 1}}, []byte{1, 0, 4, 4, 0, 0, 0, 0}},
		{[]api.Tlv{{Kind: 1, Data: []byte{}}}, []byte{1, 0, 4, 4, 0, 0, 0, 0}},
		{[]api.Tlv{{Kind: 3, Data: []byte{0, 0}}}, []byte{3, 2, 0, 0, 4, 2, 0, 0}},
		{[]api.Tlv{{Kind: 5, Data: []byte{4, 4, 4}}}, []byte{5, 3, 4, 4, 4, 4, 1, 0}},
		{[]api.Tlv{{Kind: 6, Data: []byte{1, 2, 3, 4}}}, []byte{6, 4, 1, 2, 3, 4, 4, 0}},
		{[]api.Tlv{{Kind: 255, Data: []byte{1, 2, 3, 4, 5, 6}}}, []byte{255, 6, 1, 2, 3, 4, 5, 6}},
		{[]api.Tlv{{Kind: 255, Data: []byte{1, 2, 3, 4, 5, 6, 7}}}, []byte{255, 7, 1, 2, 3, 4, 5, 6, 7, 4, 5, 0, 0, 0, 0, 0}},
		{[]api.Tlv{{Kind: 2}, {Kind: 2}, {Kind: 3}}, []byte{2, 0, 2, 0, 3, 0, 4, 0}},
		{[]api.Tlv{{Kind: 2}, {Kind: 1}, {Kind: 3}, {Kind: 5}}, []byte{2, 0, 1, 0, 3, 0, 5, 0}},
		{[]api.Tlv{{Kind: 9, Data: []byte{7, 8}}, {Kind: 8}, {Kind: 9, Data: []byte{6}}}, []byte{9, 2, 7, 8, 8, 0, 9, 1, 6, 4, 5, 0, 0, 0, 0, 0}},
	} {
		wantPut(t, fmt.Sprint(c.l), c.l, c.want, api.OK)
	}
}

// Each kind that may be, with Data of each length up to what may be, and beyond.
func TestEachKindAndLength(t *testing.T) {
	for _, kind := range rightKinds() {
		for n := range 260 {
			l := []api.Tlv{part(kind, n)}
			what := fmt.Sprint("kind ", kind, ", ", n, " bytes")
			switch {
			case n > 255:
				wantPutError(t, what, l, api.ErrLong)
			case n == 255:
				wantPutError(t, what, l, api.ErrMany)
			default:
				want := slices.Concat([]byte{byte(kind), byte(n)}, l[0].Data, filling(n+2))
				wantPut(t, what, l, want, api.OK)
			}
		}
	}
}

// One part whose bytes are a multiple of 8, and up to seven below and above one, is filled up to the next multiple.
func TestHowFarItIsFilledUp(t *testing.T) {
	for n := range 255 {
		b, e := Put([]api.Tlv{part(5, n)})
		size := (2 + n + 7) / 8 * 8
		if e != api.OK || len(b) != size || !bytes.Equal(b[:2+n], append([]byte{5, byte(n)}, mixed(n, 5+n)...)) {
			t.Errorf("a part of %d bytes: %v %d, want %d bytes", 2+n, b, e, size)
			continue
		}
		if rest := b[2+n:]; !bytes.Equal(rest, Pad(size-2-n)) {
			t.Errorf("a part of %d bytes is filled up with %v", 2+n, rest)
		}
	}
}

// ErrArg, at each kind that may not be; it comes ahead of the same part's length and of how many bytes there are.
func TestKindThatMayNotBe(t *testing.T) {
	for _, kind := range wrongKinds() {
		for _, n := range []int{0, 1, 2, 254, 255, 256, 1000} {
			p := part(kind, n)
			wantPutError(t, fmt.Sprint("kind ", kind), []api.Tlv{p}, api.ErrArg)
			wantPutError(t, fmt.Sprint("kind ", kind, " behind others"), []api.Tlv{part(5, 2), part(1, 0), p}, api.ErrArg)
			wantPutError(t, fmt.Sprint("kind ", kind, " ahead of others"), []api.Tlv{p, part(5, 2), part(1, 0)}, api.ErrArg)
		}
	}
}

// ErrLong: Data of more than 255 bytes, far more among them, and such as a byte would say to be few.
func TestTooMuchData(t *testing.T) {
	for _, n := range []int{256, 257, 258, 300, 511, 512, 513, 65535, 65536, 65537, 1 << 20} {
		for _, kind := range []int{1, 2, 3, 5, 124, 255} {
			p := api.Tlv{Kind: kind, Data: make([]byte, n)}
			wantPutError(t, fmt.Sprint(n, " bytes"), []api.Tlv{p}, api.ErrLong)
			wantPutError(t, fmt.Sprint(n, " bytes in the middle"), []api.Tlv{part(7, 0), p, part(9, 5)}, api.ErrLong)
			wantPutError(t, fmt.Sprint(n, " bytes at the end"), []api.Tlv{part(7, 0), part(9, 5), p}, api.ErrLong)
		}
	}
	wantPutError(t, "255 bytes", []api.Tlv{part(5, 255)}, api.ErrMany)
}

// sized are parts that are together n bytes, one way and another.
func sized(n int) [][]api.Tlv {
	var out [][]api.Tlv
	if n >= 2 && n <= 257 {
		out = append(out, []api.Tlv{part(9, n-2)})
	}
	if n >= 4 && n <= 259 {
		out = append(out, []api.Tlv{part(1, 0), part(254, n-4)}, []api.Tlv{part(254, n-4), part(1, 0)})
	}
	if n >= 2 {
		l := slices.Repeat([]api.Tlv{part(3, 0)}, n/2-1)
		out = append(out, append(slices.Clone(l), part(5, n%2)), append([]api.Tlv{part(5, n%2)}, l...))
	}
	if n >= 40 && n-16 <= 510 {
		out = append(out, []api.Tlv{part(5, 7), part(2, (n-16)/2), part(100, n-16-(n-16)/2), part(255, 1)})
	}
	return out
}

func TestHowManyBytesTogether(t *testing.T) {
	for n := range 526 {
		for _, l := range sized(n) {
			what := fmt.Sprint(n, " bytes together")
			if n > 256 {
				wantPutError(t, what, l, api.ErrMany)
				continue
			}
			want, e := putBy(l)
			if e != api.OK || len(want) != (n+7)/8*8 {
				t.Fatalf("%s: %v %d", what, want, e)
			}
			wantPut(t, what, l, want, api.OK)
		}
	}
}

func TestFarMoreBytes(t *testing.T) {
	for _, l := range [][]api.Tlv{
		{part(9, 254), part(9, 0)}, {part(9, 254), part(9, 254)}, {part(9, 255), part(9, 255)},
		slices.Repeat([]api.Tlv{part(3, 0)}, 129),
		slices.Repeat([]api.Tlv{part(3, 0)}, 256),
		slices.Repeat([]api.Tlv{part(3, 0)}, 384),
		slices.Repeat([]api.Tlv{part(5, 62)}, 5),
		slices.Repeat([]api.Tlv{part(5, 254)}, 128),
		slices.Repeat([]api.Tlv{part(5, 254)}, 256),
		slices.Repeat([]api.Tlv{part(5, 254)}, 257),
		slices.Repeat([]api.Tlv{part(5, 255)}, 65536),
		slices.Repeat([]api.Tlv{part(255, 0)}, 1<<20),
	} {
		wantPutError(t, "far more bytes", l, api.ErrMany)
	}
	l := slices.Repeat([]api.Tlv{part(3, 0)}, 128)
	wantPut(t, "256 bytes", l, bytes.Repeat([]byte{3, 0}, 128), api.OK)
}

// An earlier part's error comes ahead of a later one's, and both ahead of ErrMany.
func TestWhichErrorOfParts(t *testing.T) {
	arg, long, much, fine := part(4, 1), part(5, 256), part(9, 255), part(7, 3)
	many := slices.Repeat([]api.Tlv{fine}, 1000)
	for _, c := range []struct {
		l    []api.Tlv
		want api.Errno
	}{
		{[]api.Tlv{part(0, 256)}, api.ErrArg},
		{[]api.Tlv{part(4, 256)}, api.ErrArg},
		{[]api.Tlv{part(256, 1000)}, api.ErrArg},
		{[]api.Tlv{arg, long}, api.ErrArg},
		{[]api.Tlv{long, arg}, api.ErrLong},
		{[]api.Tlv{fine, arg, fine, long}, api.ErrArg},
		{[]api.Tlv{fine, long, fine, arg}, api.ErrLong},
		{[]api.Tlv{arg, long, much}, api.ErrArg},
		{[]api.Tlv{long, arg, much}, api.ErrLong},
		{[]api.Tlv{much, arg}, api.ErrArg},
		{[]api.Tlv{much, long}, api.ErrLong},
		{[]api.Tlv{much, arg, long}, api.ErrArg},
		{[]api.Tlv{much, long, arg}, api.ErrLong},
		{[]api.Tlv{much, fine, much, long}, api.ErrLong},
		{append(slices.Clone(many), arg), api.ErrArg},
		{append(slices.Clone(many), long), api.ErrLong},
		{append(slices.Clone(many), long, arg), api.ErrLong},
		{append(slices.Clone(many), arg, long), api.ErrArg},
		{append([]api.Tlv{arg}, many...), api.ErrArg},
		{append([]api.Tlv{long}, many...), api.ErrLong},
		{[]api.Tlv{much}, api.ErrMany},
		{many, api.ErrMany},
	} {
		wantPutError(t, fmt.Sprint(len(c.l), " parts"), c.l, c.want)
	}
}

// lottery tells parts of each sort, most often such as can be.
func lottery(seed int) []api.Tlv {
	dice := mixed(60, seed)
	var l []api.Tlv
	for i := range int(dice[0]) % 12 {
		kind, n := int(dice[3*i+1])%12+5, int(dice[3*i+2])%16
		switch chance := int(dice[3*i+3]) % 64; chance {
		case 0:
			l = append(l, part(wrongKinds()[int(dice[50])*7%len(wrongKinds())], n))
		case 1:
			l = append(l, part(kind, 256+n))
		case 2, 3, 4, 5:
			l = append(l, part(kind, int(dice[51])))
		case 6:
			l = append(l, part(n%4, n))
		default:
			l = append(l, part(kind, n))
		}
	}
	return l
}

func TestManyParts(t *testing.T) {
	met := map[api.Errno]int{}
	for seed := range 20000 {
		l := lottery(seed)
		want, e := putBy(l)
		wantPut(t, fmt.Sprint("list ", seed), l, want, e)
		met[e]++
	}
	for _, e := range []api.Errno{api.OK, api.ErrArg, api.ErrLong, api.ErrMany} {
		if met[e] < 300 {
			t.Errorf("the lists hold error %d but %d times", e, met[e])
		}
	}
}

// P9.2: Parse

func TestParse(t *testing.T) {
	for _, c := range []struct {
		b    []byte
		want []api.Tlv
	}{
		{nil, nil},
		{[]byte{}, nil},
		{[]byte{0}, nil},
		{[]byte{0, 0, 0, 0, 0, 0, 0, 0, 0}, nil},
		{[]byte{4, 0}, nil},
		{[]byte{4, 1, 0}, nil},
		{[]byte{4, 1, 7}, nil},
		{[]byte{4, 3, 5, 1, 9}, nil},
		{[]byte{4, 3, 4, 200, 9}, nil},
		{[]byte{4, 0, 4, 0, 0, 4, 0}, nil},
		{[]byte{5, 0}, []api.Tlv{{Kind: 5}}},
		{[]byte{5, 1, 9}, []api.Tlv{{Kind: 5, Data: []byte{9}}}},
		{[]byte{5, 1, 9, 4, 3, 0, 0, 0}, []api.Tlv{{Kind: 5, Data: []byte{9}}}},
		{[]byte{0, 4, 1, 9, 7, 1, 8, 0}, []api.Tlv{{Kind: 7, Data: []byte{8}}}},
		{[]byte{0, 5, 1, 9}, []api.Tlv{{Kind: 5, Data: []byte{9}}}},
		{[]byte{5, 1, 9, 0}, []api.Tlv{{Kind: 5, Data: []byte{9}}}},
		{[]byte{4, 0, 5, 1, 9}, []api.Tlv{{Kind: 5, Data: []byte{9}}}},
		{[]byte{5, 1, 9, 4, 0}, []api.Tlv{{Kind: 5, Data: []byte{9}}}},
		{[]byte{4, 2, 1, 1, 5, 1, 9}, []api.Tlv{{Kind: 5, Data: []byte{9}}}},
		{[]byte{5, 0, 5, 0, 5, 0}, []api.Tlv{{Kind: 5}, {Kind: 5}, {Kind: 5}}},
		{[]byte{1, 1, 4, 2, 1, 0, 3, 0, 255, 2, 4, 0}, []api.Tlv{{Kind: 1, Data: []byte{4}}, {Kind: 2, Data: []byte{0}}, {Kind: 3}, {Kind: 255, Data: []byte{4, 0}}}},
		{[]byte{1, 0, 0, 0, 3, 1, 0, 4, 1, 4, 4, 0, 1, 1, 1}, []api.Tlv{{Kind: 1}, {Kind: 3, Data: []byte{0}}, {Kind: 1, Data: []byte{1}}}},
	} {
		wantParse(t, "an ordinary list", c.b, c.want, api.OK)
	}
}

func TestShortParts(t *testing.T) {
	for _, b := range [][]byte{
		{4}, {5}, {1}, {255}, {4, 1}, {5, 1}, {5, 2, 9}, {7, 2, 8}, {4, 2, 0}, {5, 255}, {4, 255}, {4, 3, 0, 0}, {0, 4, 0, 7},
		append([]byte{5, 255}, mixed(254, 1)...), append([]byte{4, 255}, make([]byte, 254)...), {5, 3, 4, 0}, {5, 3, 0, 0}, {4, 9, 5, 1, 9}, {9, 8, 5, 1, 9, 0, 4, 0, 0},
	} {
		wantShort(t, "a part that is cut", b)
	}
}

// Each kind as the last byte; a byte 0 alone is a part that is all there.
func TestKindAsTheLastByte(t *testing.T) {
	for kind := 1; kind <= 255; kind++ {
		wantShort(t, "a kind as the last byte", []byte{byte(kind)})
	}
	wantParse(t, "a byte 0 as the last byte", []byte{5, 0, 0}, []api.Tlv{{Kind: 5}}, api.OK)
}

// Each kind with each length that may be said, and with fewer, as many and more bytes than it says.
func TestEachLengthThatIsSaid(t *testing.T) {
	for kind := 1; kind <= 255; kind++ {
		for said := range 256 {
			whole := append([]byte{byte(kind), byte(said)}, mixed(said, kind)...)
			want := []api.Tlv{{Kind: kind, Data: whole[2:]}}
			if kind == 4 {
				want = nil
			}
			what := fmt.Sprint("kind ", kind, ", length ", said)
			wantParse(t, what, whole, want, api.OK)
			wantParse(t, what+", a byte more", append(slices.Clone(whole), 0), want, api.OK)
			wantParse(t, what+", a byte more", append(slices.Clone(whole), 9), nil, api.ErrShort)
			wantParse(t, what+", another part", append(slices.Clone(whole), 9, 1, 7), append(slices.Clone(want), api.Tlv{Kind: 9, Data: []byte{7}}), api.OK)
			wantParse(t, what+", a byte less", whole[:len(whole)-1], nil, api.ErrShort)
			half := whole[:1+len(whole)/2]
			want, e := parseBy(half)
			wantParse(t, what+", half", half, want, e)
		}
	}
}

// Parse asks for no kind but Pad1 and PadN, and not how many bytes there are: 256 and more are parts, too.
func TestManyBytesToParse(t *testing.T) {
	for _, size := range []int{255, 256, 257, 258, 1000, 65535, 65536, 1 << 20} {
		wantParse(t, "bytes 0 alone", make([]byte, size), nil, api.OK)
		wantParse(t, "a part behind bytes 0", append(make([]byte, size), 5, 1, 9), []api.Tlv{{Kind: 5, Data: []byte{9}}}, api.OK)
		if l, e := Parse(append(make([]byte, size), 5)); e != api.ErrShort || len(l) != 0 {
			t.Errorf("a kind behind %d bytes 0: %v %d", size, l, e)
		}
	}
	for _, n := range []int{86, 128, 129, 1000, 30000} {
		want := slices.Repeat([]api.Tlv{{Kind: 7, Data: []byte{8}}}, n)
		wantParse(t, "many parts", bytes.Repeat([]byte{7, 1, 8}, n), want, api.OK)
		wantParse(t, "many parts, and nothing between", bytes.Repeat([]byte{0, 7, 1, 8, 4, 2, 7, 1}, n), want, api.OK)
		wantParse(t, "many parts, and a cut one", append(bytes.Repeat([]byte{7, 1, 8}, n), 7, 1), nil, api.ErrShort)
		wantParse(t, "many that are nothing", bytes.Repeat([]byte{4, 1, 8}, n), nil, api.OK)
	}
	whole := append([]byte{3, 255}, mixed(255, 3)...)
	wantParse(t, "as much Data as may be", whole, []api.Tlv{{Kind: 3, Data: whole[2:]}}, api.OK)
	wantParse(t, "and again", slices.Concat(whole, whole), []api.Tlv{{Kind: 3, Data: whole[2:]}, {Kind: 3, Data: whole[2:]}}, api.OK)
}

// each goes over all lists of size bytes out of few.
func each(few []byte, size int, do func([]byte)) {
	b := make([]byte, size)
	var fill func(at int)
	fill = func(at int) {
		if at == size {
			do(b)
			return
		}
		for _, x := range few {
			b[at] = x
			fill(at + 1)
		}
	}
	fill(0)
}

func TestAllShortLists(t *testing.T) {
	for size := range 8 {
		each([]byte{0, 1, 2, 3, 4, 5, 255}, size, func(b []byte) {
			want, e := parseBy(b)
			l, f := Parse(b)
			if e != f || !equalParts(l, want) {
				t.Errorf("Parse(%v): %v %d, want %v %d", b, l, f, want, e)
			}
		})
	}
	for x := range 256 {
		for y := range 256 {
			b := []byte{byte(x), byte(y)}
			want, e := parseBy(b)
			wantParse(t, "two bytes", b, want, e)
		}
	}
}

// laidBy tells bytes of parts, most often fine ones, and at times with nothing between, changed, cut short or with bytes behind.
func laidBy(seed int) []byte {
	dice := mixed(40, seed+100000)
	var b []byte
	for i, p := range lottery(seed) {
		n := min(len(p.Data), 255)
		if x := dice[20+i]; x%4 == 0 {
			b = append(b, Pad(int(x)/16)...)
		}
		b = append(b, byte(p.Kind), byte(n))
		b = append(b, p.Data[:n]...)
	}
	if len(b) > 0 && dice[0]%3 == 0 {
		b[int(dice[1])%len(b)] = dice[2] % 12
	}
	if dice[3]%4 == 0 {
		b = append(b, dice[4:4+dice[5]%8]...)
	}
	if dice[6]%4 == 0 {
		b = b[:int(dice[7])%(len(b)+1)]
	}
	return b
}

func TestManyLists(t *testing.T) {
	met := map[api.Errno]int{}
	for seed := range 30000 {
		b := laidBy(seed)
		want, e := parseBy(b)
		wantParse(t, fmt.Sprint("list ", seed), b, want, e)
		met[e]++
	}
	for _, e := range []api.Errno{api.OK, api.ErrShort} {
		if met[e] < 3000 {
			t.Errorf("the lists hold error %d but %d times", e, met[e])
		}
	}
}

// P9.2: Find

func TestFind(t *testing.T) {
	l := []api.Tlv{{Kind: 5, Data: []byte{9}}, {Kind: 7}, {Kind: 5, Data: []byte{8, 8}}, {Kind: 7, Data: []byte{6}}, {Kind: 255, Data: mixed(255, 1)}, {Kind: 1, Data: []byte{0}}}
	wantFind(t, "nil", nil, 5, nil, false)
	wantFind(t, "nil", nil, 0, nil, false)
	wantFind(t, "no parts", []api.Tlv{}, 5, nil, false)
	wantFind(t, "a kind that is there twice", l, 5, []byte{9}, true)
	wantFind(t, "one without Data ahead of one with some", l, 7, nil, true)
	wantFind(t, "one with some ahead of one without", l[2:], 7, []byte{6}, true)
	wantFind(t, "one that is there twice, from the second on", l[1:], 5, []byte{8, 8}, true)
	wantFind(t, "all the Data that may be", l, 255, mixed(255, 1), true)
	wantFind(t, "the last one", l, 1, []byte{0}, true)
	wantFind(t, "a part in the room behind the end", l[:4], 255, nil, false)
	wantFind(t, "bytes in the room behind Data's end", []api.Tlv{{Kind: 5, Data: []byte{1, 2, 3}[:1]}}, 5, []byte{1}, true)
	for _, kind := range append(append(wrongKinds(), ends()...), rightKinds()...) {
		if kind != 5 && kind != 7 && kind != 255 && kind != 1 {
			wantFind(t, "a kind that is not there", l, kind, nil, false)
		}
	}
}

// Any other kind is found, too, in parts that hold it, though such can't be put.
func TestFindOfEachKind(t *testing.T) {
	for _, kind := range append(append(wrongKinds(), ends()...), rightKinds()...) {
		for _, n := range []int{0, 1, 255, 256, 1000} {
			p := part(kind, n)
			l := []api.Tlv{{Kind: kind ^ 1, Data: []byte{1}}, {Kind: kind ^ 256, Data: []byte{2}}, {Kind: kind ^ math.MinInt, Data: []byte{3}}, p, {Kind: kind, Data: []byte{4}}}
			wantFind(t, "behind others", l, kind, p.Data, true)
			wantFind(t, "alone", l[3:4], kind, p.Data, true)
			wantFind(t, "others alone", l[:3], kind, nil, false)
		}
	}
}

func TestFindInWhatIsParsed(t *testing.T) {
	for seed := range 3000 {
		l, e := Parse(laidBy(seed))
		if e != api.OK {
			continue
		}
		for kind := range 256 {
			at := slices.IndexFunc(l, func(p api.Tlv) bool { return p.Kind == kind })
			if at < 0 {
				wantFind(t, fmt.Sprint("list ", seed), l, kind, nil, false)
			} else {
				wantFind(t, fmt.Sprint("list ", seed), l, kind, l[at].Data, true)
			}
		}
		wantFind(t, "what is nothing", l, Pad1, nil, false)
		wantFind(t, "what is nothing", l, PadN, nil, false)
	}
}

// P9.3

// wantBack holds parts that can be against P9.3.
func wantBack(t *testing.T, what string, l []api.Tlv) {
	t.Helper()
	b, e := Put(l)
	if e != api.OK || len(b) > 256 || len(b)%8 != 0 {
		t.Errorf("%s: Put: %v %d", what, b, e)
		return
	}
	wantParse(t, what, b, l, api.OK)
	m, _ := Parse(b)
	again, e := Put(m)
	if e != api.OK || !bytes.Equal(again, b) {
		t.Errorf("%s: put as %v, and again as %v %d", what, b, again, e)
	}
}

func TestPutIsParsed(t *testing.T) {
	wantBack(t, "nil", nil)
	wantBack(t, "no parts", []api.Tlv{})
	for n := range 257 {
		for _, l := range sized(n) {
			wantBack(t, fmt.Sprint(n, " bytes together"), l)
		}
	}
	for _, kind := range rightKinds() {
		for _, n := range []int{0, 1, 5, 6, 7, 8, 100, 253, 254} {
			wantBack(t, fmt.Sprint("kind ", kind), []api.Tlv{part(kind, n)})
		}
		wantBack(t, fmt.Sprint("kind ", kind, " among others"), []api.Tlv{part(1, 0), part(kind, 5), part(3, 1), part(kind, 0), part(1, 0)})
	}
	// Data of bytes that would be parts, or nothing, themselves.
	for _, x := range []byte{0, 1, 2, 4, 255} {
		for n := range 124 {
			p := api.Tlv{Kind: 5, Data: bytes.Repeat([]byte{x}, n)}
			wantBack(t, "Data of one byte over and over", []api.Tlv{p})
			wantBack(t, "Data of one byte over and over", []api.Tlv{p, {Kind: 3}, p})
		}
	}
}

func TestManyArePutAndParsed(t *testing.T) {
	many := 0
	for seed := range 20000 {
		if l := lottery(seed); Can(l) == api.OK {
			wantBack(t, fmt.Sprint("list ", seed), l)
			many++
		}
	}
	if many < 5000 {
		t.Errorf("but %d of the lists can be", many)
	}
}

// nothings are bytes that are nothing, put by Pad and by hand.
func nothings() [][]byte {
	out := [][]byte{nil, {0, 0}, {4, 0, 0}, {0, 4, 0}, {4, 0, 4, 0}, {4, 1, 9}, {4, 2, 5, 0}, {4, 4, 255, 255, 4, 255}, append([]byte{4, 255}, mixed(255, 1)...)}
	for _, n := range []int{1, 2, 3, 5, 8, 100, 256, 257, 300} {
		out = append(out, Pad(n))
	}
	return out
}

// Whatever is nothing ahead of parts, between them and behind them, they are parsed as what they were.
func TestNothingBetween(t *testing.T) {
	l := []api.Tlv{part(5, 1), part(1, 0), part(255, 9), part(5, 2)}
	all := nothings()
	for at := range len(l) + 1 {
		for i := range all {
			for j := range all {
				var b []byte
				for k, p := range l {
					if k == at {
						b = slices.Concat(b, all[i], all[j])
					}
					b = append(append(b, byte(p.Kind), byte(len(p.Data))), p.Data...)
				}
				if at == len(l) {
					b = slices.Concat(b, all[i], all[j])
				}
				wantParse(t, fmt.Sprint("nothing ahead of part ", at), b, l, api.OK)
			}
		}
	}
	for _, nothing := range all {
		var b []byte
		for _, p := range l {
			one, e := Put([]api.Tlv{p})
			if e != api.OK {
				t.Fatalf("Put(%v): %d", p, e)
			}
			b = slices.Concat(b, nothing, one)
		}
		wantParse(t, "each put alone", append(b, nothing...), l, api.OK)
		wantParse(t, "nothing alone", nothing, nil, api.OK)
	}
}

// R1: no call panics, whatever it is given; beside an error, or a false, there is nothing.
func TestWhateverIsGiven(t *testing.T) {
	for _, kind := range append(append(wrongKinds(), ends()...), 1, 2, 3, 5, 255) {
		for _, data := range [][]byte{nil, {}, {0}, {1, 2}, mixed(254, 1), mixed(255, 1), mixed(256, 1), mixed(70000, 1)} {
			l := []api.Tlv{{}, {Kind: kind, Data: data}, {Kind: kind}}
			for from := range len(l) {
				want, e := putBy(l[from:])
				wantPut(t, fmt.Sprint("kind ", kind), l[from:], want, e)
			}
			if got, ok := Find(l, kind); !ok || kind != 0 && !bytes.Equal(got, data) {
				t.Errorf("Find(%v, %d): %v %v", l, kind, got, ok)
			}
		}
		Pad(kind)
	}
	for seed := range 3000 {
		for _, size := range []int{1, 2, 3, 5, 8, 100, 255, 256, 257, 600} {
			b := mixed(size, seed)
			want, e := parseBy(b)
			wantParse(t, "bytes of no order", b, want, e)
		}
	}
}

// R3: what is handed in stays as it was, with the room behind it; what is told is new memory.

// lists are parts such as Parse tells, and such as it never would.
func lists() [][]api.Tlv {
	return [][]api.Tlv{
		nil,
		{part(5, 1)},
		{part(5, 6), part(7, 0), part(5, 2)},
		{part(9, 254)},
		{part(9, 255)},
		{part(9, 256), part(0, 1)},
		{part(4, 3), part(-1, 2), part(math.MaxInt, 1), part(math.MinInt, 0)},
		slices.Repeat([]api.Tlv{part(1, 2), part(255, 30)}, 300),
	}
}

func TestPartsStay(t *testing.T) {
	all := lists()
	for seed := range 300 {
		all = append(all, lottery(seed))
	}
	for i, l := range all {
		list, whole, datas := roomyParts(l)
		was := cloned(whole)
		var dataWas [][]byte
		for _, d := range datas {
			dataWas = append(dataWas, slices.Clone(d))
		}
		Can(list)
		Put(list)
		for _, kind := range []int{0, 1, 4, 5, 7, 9, 77, 255, 256, -1, math.MaxInt, math.MinInt} {
			Find(list, kind)
		}
		if !equalParts(whole, was) || !slices.EqualFunc(datas, dataWas, bytes.Equal) {
			t.Errorf("list %d of parts, or the room behind it, changed", i)
		}
	}
}

func TestBytesStay(t *testing.T) {
	for seed := range 3000 {
		list, whole := roomy(laidBy(seed))
		was := slices.Clone(whole)
		Parse(list)
		if !bytes.Equal(whole, was) {
			t.Errorf("the bytes of list %d, or the room behind them, changed", seed)
		}
	}
}

// Two answers, and an answer and what was handed in, share no memory; nor do two lists of one answer.
func TestWhatIsToldIsNewMemory(t *testing.T) {
	for seed := range 2000 {
		b, whole := roomy(laidBy(seed))
		was := slices.Clone(whole)
		l, e := Parse(b)
		if e != api.OK {
			continue
		}
		again, _ := Parse(b)
		want := cloned(l)
		for i := range l {
			fill(l[i].Data)
			for j := range l {
				if j != i && !bytes.Equal(l[j].Data, want[j].Data) {
					t.Errorf("list %d: two lists of one answer share memory", seed)
				}
			}
			fill(l[i].Data)
		}
		for _, p := range l {
			fill(p.Data)
		}
		for i := range l[:cap(l)] {
			l[:cap(l)][i] = api.Tlv{Kind: -9}
		}
		if !equalParts(again, want) {
			t.Errorf("list %d: two answers of Parse share memory", seed)
		}
		if !bytes.Equal(whole, was) {
			t.Errorf("list %d: what Parse tells shares memory with its bytes", seed)
		}
		fill(whole)
		if !equalParts(again, want) {
			t.Errorf("list %d: what Parse tells changes with its bytes", seed)
		}
	}
}

// wantNew holds what a call tells of parts to be new memory.
func wantNew(t *testing.T, what string, given []api.Tlv, call func([]api.Tlv) []byte) {
	t.Helper()
	list, whole, datas := roomyParts(given)
	was := cloned(whole)
	var dataWas [][]byte
	for _, d := range datas {
		dataWas = append(dataWas, slices.Clone(d))
	}
	one, two := call(list), call(list)
	want := slices.Clone(one)
	fill(one)
	if !bytes.Equal(two, want) {
		t.Errorf("%s: two answers share memory", what)
	}
	if !equalParts(whole, was) || !slices.EqualFunc(datas, dataWas, bytes.Equal) {
		t.Errorf("%s: the answer shares memory with what was handed in", what)
	}
	for _, d := range datas {
		fill(d)
	}
	if !bytes.Equal(two, want) {
		t.Errorf("%s: the answer changes with what was handed in", what)
	}
}

func TestBytesThatAreToldAreNewMemory(t *testing.T) {
	for n := range 255 {
		l := []api.Tlv{part(5, n)}
		if n < 240 {
			l = append(l, part(7, 3))
		}
		wantNew(t, fmt.Sprint("Put of ", n), l, func(l []api.Tlv) []byte {
			b, e := Put(l)
			if e != api.OK || len(b) == 0 {
				t.Errorf("Put of %d: %v %d", n, b, e)
			}
			return b
		})
		for _, kind := range []int{5, 7} {
			wantNew(t, fmt.Sprint("Find of ", n), append(l, part(7, 2)), func(l []api.Tlv) []byte {
				b, ok := Find(l, kind)
				if !ok {
					t.Errorf("Find of %d: none", kind)
				}
				return b
			})
		}
	}
}

func TestPadIsNewMemory(t *testing.T) {
	for n := range 300 {
		one, two := Pad(n), Pad(n)
		want := slices.Clone(two)
		fill(one)
		if !bytes.Equal(two, want) || !bytes.Equal(Pad(n), want) {
			t.Errorf("Pad(%d): two answers share memory", n)
		}
	}
	fill(Pad(1))
	if b, e := Put([]api.Tlv{part(5, 5)}); e != api.OK || b[7] != 0 {
		t.Errorf("Put, behind a Pad that was changed: %v %d", b, e)
	}
}

// What was handed in is not kept: changed, it is told as it is now.
func TestNothingIsKept(t *testing.T) {
	l := []api.Tlv{{Kind: 5, Data: []byte{1}}, {Kind: 7, Data: []byte{2}}}
	wantPut(t, "ahead of the change", l, []byte{5, 1, 1, 7, 1, 2, 4, 0}, api.OK)
	l[0].Data[0], l[1].Kind = 9, 8
	wantPut(t, "behind the change", l, []byte{5, 1, 9, 8, 1, 2, 4, 0}, api.OK)
	wantFind(t, "behind the change", l, 5, []byte{9}, true)
	wantFind(t, "behind the change", l, 7, nil, false)
	l[1].Kind = 4
	wantPutError(t, "behind another change", l, api.ErrArg)
	b := []byte{5, 1, 1}
	wantParse(t, "ahead of the change", b, []api.Tlv{{Kind: 5, Data: []byte{1}}}, api.OK)
	b[1] = 2
	wantParse(t, "behind the change", b, nil, api.ErrShort)
}

func TestNilAndEmptyAreTheSame(t *testing.T) {
	for _, n := range []int{0, 1, 3, 127} {
		a, b := slices.Repeat([]api.Tlv{{Kind: 5}}, n), slices.Repeat([]api.Tlv{{Kind: 5, Data: []byte{}}}, n)
		one, e := Put(a)
		two, f := Put(b)
		if e != api.OK || f != api.OK || !bytes.Equal(one, two) {
			t.Errorf("%d parts: Put of nil: %v %d, of empty Data: %v %d", n, one, e, two, f)
		}
		got, ok := Find(a, 5)
		other, is := Find(b, 5)
		if ok != (n > 0) || is != ok || len(got) != 0 || len(other) != 0 {
			t.Errorf("%d parts: Find of nil: %v %v, of empty Data: %v %v", n, got, ok, other, is)
		}
	}
	if l, e := Parse(nil); e != api.OK || len(l) != 0 {
		t.Errorf("Parse of nil: %v %d", l, e)
	}
	if l, e := Parse([]byte{}); e != api.OK || len(l) != 0 {
		t.Errorf("Parse of no bytes: %v %d", l, e)
	}
}

// R4: asked again, each call answers what it answered, wherever its arguments stand.
func TestAskedAgain(t *testing.T) {
	for seed := range 500 {
		l, b := lottery(seed), laidBy(seed)
		put, e := Put(l)
		parsed, f := Parse(b)
		found, ok := Find(l, 9)
		pad := Pad(seed)
		for range 3 {
			list, _, _ := roomyParts(l)
			there, _ := roomy(b)
			c, g := Put(list)
			p, h := Parse(there)
			d, is := Find(list, 9)
			if !bytes.Equal(put, c) || e != g || Can(list) != e || !equalParts(parsed, p) || f != h || !bytes.Equal(found, d) || ok != is || !bytes.Equal(pad, Pad(seed)) {
				t.Errorf("list %d: asked again, it is another", seed)
			}
		}
	}
}
