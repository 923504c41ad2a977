package topt

import (
	"bytes"
	"fmt"
	"math"
	"slices"
	"strings"
	"testing"

	"harrier/api"
)

// mixed tells n bytes of no plain order; another seed tells others.
func mixed(n, seed int) []byte {
	b := make([]byte, n)
	x := uint32(seed)*2654435761 + 12345
	for i := range b {
		x = x*1664525 + 1013904223
		b[i] = byte(x >> 24)
	}
	return b
}

// opt is an option of a kind with n bytes of Data.
func opt(kind, n int) api.Opt {
	return api.Opt{Kind: kind, Data: mixed(n, kind+n)}
}

// nops are n options Nop.
func nops(n int) []api.Opt {
	return slices.Repeat([]api.Opt{{Kind: 1}}, n)
}

// asks tells how many bytes of Data a kind asks for, as the chapter names them; -1, if any may be.
func asks(kind int) int {
	switch kind {
	case 1, 4:
		return 0
	case 2:
		return 2
	case 3:
		return 1
	case 8:
		return 8
	}
	return -1
}

// askers are the kinds that ask for a length.
func askers() []int {
	return []int{1, 2, 3, 4, 8}
}

// fine is an option of a kind with as many bytes of Data as that asks for; with n, where any may be.
func fine(kind, n int) api.Opt {
	if asks(kind) >= 0 {
		n = asks(kind)
	}
	return opt(kind, n)
}

// wrongKinds are kinds that may not be: 0, such as no byte can say, and some that would be fine in their low bits.
func wrongKinds() []int {
	l := []int{0, math.MaxInt, math.MaxInt - 1, math.MinInt, math.MinInt + 1, math.MinInt + 2, math.MinInt + 5, 1 << 62}
	for _, room := range []int{256, 512, 65536, 1 << 31, 1 << 32, 1 << 48} {
		for _, k := range []int{0, 1, 2, 3, 4, 5, 8, 255} {
			l = append(l, room+k, -room+k, -room-k)
		}
	}
	for k := 1; k <= 256; k++ {
		l = append(l, -k, 255+k)
	}
	return l
}

// equalOpts: are they the same options? nil and empty lists are the same.
func equalOpts(a, b []api.Opt) bool {
	return slices.EqualFunc(a, b, func(x, y api.Opt) bool { return x.Kind == y.Kind && bytes.Equal(x.Data, y.Data) })
}

// cloned is the options in new memory.
func cloned(l []api.Opt) []api.Opt {
	var out []api.Opt
	for _, o := range l {
		out = append(out, api.Opt{Kind: o.Kind, Data: slices.Clone(o.Data)})
	}
	return out
}

// clonedBytes is the lists in new memory.
func clonedBytes(l [][]byte) [][]byte {
	var out [][]byte
	for _, b := range l {
		out = append(out, slices.Clone(b))
	}
	return out
}

// roomy tells b with room behind its end, which is filled, and the whole of it.
func roomy(b []byte) (list, whole []byte) {
	whole = append(slices.Clone(b), bytes.Repeat([]byte{2, 4, 5, 220}, 16)...)
	return whole[:len(b)], whole
}

// roomyOpts tells options with room behind each list's end, which is filled, the whole of them, and the whole of each Data.
func roomyOpts(l []api.Opt) (list, whole []api.Opt, datas [][]byte) {
	for _, o := range l {
		data, all := roomy(o.Data)
		whole = append(whole, api.Opt{Kind: o.Kind, Data: data})
		datas = append(datas, all)
	}
	whole = append(whole, api.Opt{Kind: 2, Data: []byte{9, 9}}, api.Opt{Kind: 77}, api.Opt{Kind: -1, Data: []byte{7}})
	return whole[:len(l)], whole, datas
}

// putBy tells what Put should, by another way than the program's: by texts of numbers.
func putBy(l []api.Opt) ([]byte, api.Errno) {
	var words []string
	for _, o := range l {
		if o.Kind < 1 || o.Kind > 255 {
			return nil, api.ErrArg
		}
		if want := asks(o.Kind); want >= 0 && want != len(o.Data) {
			return nil, api.ErrForm
		}
		words = append(words, fmt.Sprint(o.Kind))
		if o.Kind > 1 {
			words = append(words, fmt.Sprint(len(o.Data)+2))
		}
		words = append(words, strings.Fields(strings.Trim(fmt.Sprint(o.Data), "[]"))...)
	}
	if len(words) > 40 {
		return nil, api.ErrMany
	}
	var b []byte
	for i := range (len(words) + 3) / 4 * 4 {
		n := 0
		if i < len(words) {
			fmt.Sscan(words[i], &n)
		}
		b = append(b, byte(n))
	}
	return b, api.OK
}

// parseBy tells what Parse should, by another way than the program's: each option ahead of those that its bytes leave.
func parseBy(b []byte) ([]api.Opt, api.Errno) {
	switch {
	case len(b) > 40:
		return nil, api.ErrLong
	case len(b) == 0:
		return nil, api.OK
	case b[0] == 0:
		if strings.Trim(string(b), "\x00") != "" {
			return nil, api.ErrForm
		}
		return nil, api.OK
	case b[0] == 1:
		return ahead(api.Opt{Kind: 1}, b[1:])
	case len(b) == 1:
		return nil, api.ErrShort
	case b[1] == 0 || b[1] == 1:
		return nil, api.ErrForm
	}
	for n := 2; n <= len(b); n++ {
		if n != int(b[1]) {
			continue
		}
		if want := asks(int(b[0])); want >= 0 && want+2 != n {
			return nil, api.ErrForm
		}
		return ahead(api.Opt{Kind: int(b[0]), Data: b[2:n]}, b[n:])
	}
	return nil, api.ErrShort
}

// ahead tells an option and, behind it, those of the bytes that are left.
func ahead(o api.Opt, rest []byte) ([]api.Opt, api.Errno) {
	l, e := parseBy(rest)
	if e != api.OK {
		return nil, e
	}
	return append([]api.Opt{o}, l...), api.OK
}

// wantPut holds Can and Put against what they should tell: beside an error there is nothing.
func wantPut(t *testing.T, what string, l []api.Opt, want []byte, wantE api.Errno) {
	t.Helper()
	if e := Can(l); e != wantE {
		t.Errorf("%s: Can of %d options: %d, want %d", what, len(l), e, wantE)
	}
	b, e := Put(l)
	if e != wantE {
		t.Errorf("%s: Put of %d options: error %d, want %d", what, len(l), e, wantE)
	}
	if !bytes.Equal(b, want) {
		t.Errorf("%s: Put of %d options: %v, want %v", what, len(l), b, want)
	}
}

// wantPutError holds Can and Put against an error, with nothing beside it.
func wantPutError(t *testing.T, what string, l []api.Opt, want api.Errno) {
	t.Helper()
	wantPut(t, what, l, nil, want)
}

// wantParse holds Parse against what it should tell: beside an error there is nothing.
func wantParse(t *testing.T, what string, b []byte, want []api.Opt, wantE api.Errno) {
	t.Helper()
	list, _ := roomy(b)
	l, e := Parse(list)
	if e != wantE {
		t.Errorf("%s: Parse(%v): error %d, want %d", what, b, e, wantE)
	}
	if !equalOpts(l, want) {
		t.Errorf("%s: Parse(%v): %v, want %v", what, b, l, want)
	}
}

// wantParseError holds Parse against an error: at the beginning of the bytes, and behind options that are fine.
func wantParseError(t *testing.T, what string, b []byte, want api.Errno) {
	t.Helper()
	wantParse(t, what, b, nil, want)
	for _, first := range [][]byte{{1}, {1, 1, 1}, {4, 2}, {2, 4, 5, 220}, {3, 3, 0}, {255, 2}, {77, 5, 0, 0, 0}, {8, 10, 0, 1, 2, 3, 4, 5, 6, 7}} {
		if len(first)+len(b) <= 40 {
			wantParse(t, what, slices.Concat(first, b), nil, want)
		}
	}
}

func TestNumbersOfTheChapter(t *testing.T) {
	got := []int{End, Nop, Mss, Scale, Sack, Times, Most, Default}
	if want := []int{0, 1, 2, 3, 4, 8, 40, 1220}; !slices.Equal(got, want) {
		t.Errorf("the chapter's numbers: %v, want %v", got, want)
	}
}

// P6.1

func TestPut(t *testing.T) {
	for _, c := range []struct {
		l    []api.Opt
		want []byte
	}{
		{nil, nil},
		{[]api.Opt{}, nil},
		{[]api.Opt{{Kind: 2, Data: []byte{5, 220}}}, []byte{2, 4, 5, 220}},
		{[]api.Opt{{Kind: 1}}, []byte{1, 0, 0, 0}},
		{[]api.Opt{{Kind: 1, Data: []byte{}}}, []byte{1, 0, 0, 0}},
		{[]api.Opt{{Kind: 3, Data: []byte{7}}}, []byte{3, 3, 7, 0}},
		{[]api.Opt{{Kind: 4}}, []byte{4, 2, 0, 0}},
		{[]api.Opt{{Kind: 8, Data: []byte{9, 8, 7, 6, 5, 4, 3, 2}}}, []byte{8, 10, 9, 8, 7, 6, 5, 4, 3, 2, 0, 0}},
		{[]api.Opt{{Kind: 5}}, []byte{5, 2, 0, 0}},
		{[]api.Opt{{Kind: 5, Data: []byte{0}}}, []byte{5, 3, 0, 0}},
		{[]api.Opt{{Kind: 255, Data: []byte{255, 0, 255}}}, []byte{255, 5, 255, 0, 255, 0, 0, 0}},
		{[]api.Opt{{Kind: 1}, {Kind: 1}}, []byte{1, 1, 0, 0}},
		{[]api.Opt{{Kind: 1}, {Kind: 1}, {Kind: 1}}, []byte{1, 1, 1, 0}},
		{[]api.Opt{{Kind: 1}, {Kind: 1}, {Kind: 1}, {Kind: 1}}, []byte{1, 1, 1, 1}},
		{[]api.Opt{{Kind: 4}, {Kind: 4}, {Kind: 1}}, []byte{4, 2, 4, 2, 1, 0, 0, 0}},
		{[]api.Opt{{Kind: 2, Data: []byte{5, 220}}, {Kind: 1}, {Kind: 3, Data: []byte{7}}}, []byte{2, 4, 5, 220, 1, 3, 3, 7}},
		{[]api.Opt{{Kind: 1}, {Kind: 2, Data: []byte{0, 0}}, {Kind: 4}}, []byte{1, 2, 4, 0, 0, 4, 2, 0}},
	} {
		wantPut(t, fmt.Sprint(c.l), c.l, c.want, api.OK)
	}
}

// Each kind that may be, with Data of each length: none, one, many, as many as may be, and more.
func TestEachKindAndLength(t *testing.T) {
	for kind := 1; kind <= 255; kind++ {
		for n := range 45 {
			o := opt(kind, n)
			switch want := asks(kind); {
			case want >= 0 && want != n:
				wantPutError(t, fmt.Sprint("kind ", kind), []api.Opt{o}, api.ErrForm)
			case n > 38:
				wantPutError(t, fmt.Sprint("kind ", kind), []api.Opt{o}, api.ErrMany)
			default:
				want, _ := putBy([]api.Opt{o})
				wantPut(t, fmt.Sprint("kind ", kind), []api.Opt{o}, want, api.OK)
			}
		}
	}
}

// ErrArg, at each kind that may not be; it comes ahead of the same option's length and of how many bytes there are.
func TestKindThatMayNotBe(t *testing.T) {
	for _, kind := range wrongKinds() {
		for _, n := range []int{0, 1, 2, 8, 38, 39, 100} {
			o := opt(kind, n)
			wantPutError(t, fmt.Sprint("kind ", kind), []api.Opt{o}, api.ErrArg)
			wantPutError(t, fmt.Sprint("kind ", kind, " behind others"), []api.Opt{opt(2, 2), opt(1, 0), o}, api.ErrArg)
			wantPutError(t, fmt.Sprint("kind ", kind, " ahead of others"), []api.Opt{o, opt(2, 2), opt(1, 0)}, api.ErrArg)
		}
	}
}

// ErrForm: one byte too short, one too long, and far off, for each kind that asks for a length.
func TestDataNotAsLongAsAsked(t *testing.T) {
	for _, kind := range askers() {
		want := asks(kind)
		for _, n := range []int{want - 1, want + 1, want + 2, want + 8, 38, 39, 254, 255, 256, want + 256, want + 65536, 70000} {
			if n < 0 {
				continue
			}
			wantPutError(t, fmt.Sprint("kind ", kind), []api.Opt{opt(kind, n)}, api.ErrForm)
			wantPutError(t, fmt.Sprint("kind ", kind, " in the middle"), []api.Opt{opt(4, 0), opt(kind, n), opt(9, 5)}, api.ErrForm)
		}
		b, e := Put([]api.Opt{opt(kind, want)})
		if e != api.OK || len(b) == 0 {
			t.Errorf("kind %d with %d bytes: %v %d", kind, want, b, e)
		}
	}
}

// sized are options that are together n bytes, one way and another.
func sized(n int) [][]api.Opt {
	out := [][]api.Opt{nops(n)}
	if n >= 2 {
		out = append(out, []api.Opt{opt(9, n-2)})
	}
	if n >= 3 {
		out = append(out, []api.Opt{opt(1, 0), opt(254, n-3)}, []api.Opt{opt(254, n-3), opt(1, 0)})
	}
	if n >= 8 {
		out = append(out, append([]api.Opt{opt(2, 2), opt(4, 0), opt(255, 0)}, nops(n-8)...))
	}
	if n >= 21 {
		out = append(out, []api.Opt{opt(8, 8), opt(3, 1), opt(100, n-21), opt(5, 4)})
	}
	return out
}

func TestHowManyBytesTogether(t *testing.T) {
	for n := range 120 {
		for _, l := range sized(n) {
			what := fmt.Sprint(n, " bytes together")
			if n > 40 {
				wantPutError(t, what, l, api.ErrMany)
				continue
			}
			want, _ := putBy(l)
			wantPut(t, what, l, want, api.OK)
			b, _ := Put(l)
			if len(b) != []int{n, n + 3, n + 2, n + 1}[n%4] || !bytes.Equal(b[n:], make([]byte, len(b)-n)) {
				t.Errorf("%s: %v", what, b)
			}
		}
	}
}

func TestFarMoreBytes(t *testing.T) {
	for _, l := range [][]api.Opt{
		{opt(9, 252)}, {opt(9, 253)}, {opt(9, 254)}, {opt(9, 255)}, {opt(9, 256)}, {opt(9, 292)}, {opt(9, 65534)}, {opt(9, 65535)}, {opt(9, 65536)}, {opt(9, 1<<20)},
		{opt(9, 20), opt(9, 256)}, {opt(9, 254), opt(1, 0)}, {opt(9, 254), opt(9, 254)},
		nops(256), nops(257), nops(296), nops(65536), nops(65540),
		slices.Repeat([]api.Opt{opt(4, 0)}, 128),
		slices.Repeat([]api.Opt{opt(2, 2)}, 64),
		slices.Repeat([]api.Opt{opt(9, 62)}, 4),
		slices.Repeat([]api.Opt{opt(77, 1<<20-2)}, 4096),
	} {
		wantPutError(t, "far more bytes", l, api.ErrMany)
	}
}

// An earlier option's error comes ahead of a later one's, and both ahead of ErrMany.
func TestWhichErrorOfOptions(t *testing.T) {
	arg, form, much := api.Opt{Kind: 0}, opt(2, 3), opt(9, 39)
	for _, c := range []struct {
		l    []api.Opt
		want api.Errno
	}{
		{[]api.Opt{{Kind: 0, Data: mixed(3, 1)}}, api.ErrArg},
		{[]api.Opt{{Kind: 256, Data: mixed(100, 1)}}, api.ErrArg},
		{[]api.Opt{arg, form}, api.ErrArg},
		{[]api.Opt{form, arg}, api.ErrForm},
		{[]api.Opt{arg, form, much}, api.ErrArg},
		{[]api.Opt{form, arg, much}, api.ErrForm},
		{[]api.Opt{much, arg}, api.ErrArg},
		{[]api.Opt{much, form}, api.ErrForm},
		{[]api.Opt{much, arg, form}, api.ErrArg},
		{[]api.Opt{much, form, arg}, api.ErrForm},
		{[]api.Opt{much, opt(2, 2), opt(1, 0), form}, api.ErrForm},
		{append(nops(41), arg), api.ErrArg},
		{append(nops(41), form), api.ErrForm},
		{append(nops(1000), form, arg), api.ErrForm},
		{append(nops(1000), arg, form), api.ErrArg},
		{append([]api.Opt{form}, nops(41)...), api.ErrForm},
		{append([]api.Opt{arg}, nops(41)...), api.ErrArg},
		{[]api.Opt{opt(1, 40)}, api.ErrForm},
		{[]api.Opt{opt(8, 39)}, api.ErrForm},
		{[]api.Opt{much, much}, api.ErrMany},
	} {
		wantPutError(t, fmt.Sprint(len(c.l), " options"), c.l, c.want)
	}
}

// lottery tells options of each sort, most often such as can be.
func lottery(seed int) []api.Opt {
	dice := mixed(60, seed)
	var l []api.Opt
	for i := range int(dice[0]) % 12 {
		kind, n := int(dice[3*i+1])%10, int(dice[3*i+2])%8
		switch chance := int(dice[3*i+3]) % 64; {
		case chance == 0:
			l = append(l, opt(wrongKinds()[int(dice[50])%len(wrongKinds())], n))
		case chance == 1:
			l = append(l, opt(kind, n))
		case chance == 2:
			l = append(l, fine(int(dice[51])|1, 30))
		default:
			l = append(l, fine(max(kind, 1), n))
		}
	}
	return l
}

func TestManyOptions(t *testing.T) {
	met := map[api.Errno]int{}
	for seed := range 30000 {
		l := lottery(seed)
		want, e := putBy(l)
		wantPut(t, fmt.Sprint("list ", seed), l, want, e)
		met[e]++
	}
	for _, e := range []api.Errno{api.OK, api.ErrArg, api.ErrForm, api.ErrMany} {
		if met[e] < 300 {
			t.Errorf("the lists hold error %d but %d times", e, met[e])
		}
	}
}

// P6.2

func TestParse(t *testing.T) {
	for _, c := range []struct {
		b    []byte
		want []api.Opt
	}{
		{nil, nil},
		{[]byte{}, nil},
		{[]byte{0}, nil},
		{[]byte{0, 0, 0, 0}, nil},
		{[]byte{1}, []api.Opt{{Kind: 1}}},
		{[]byte{1, 0}, []api.Opt{{Kind: 1}}},
		{[]byte{1, 1, 1}, []api.Opt{{Kind: 1}, {Kind: 1}, {Kind: 1}}},
		{[]byte{2, 4, 5, 220}, []api.Opt{{Kind: 2, Data: []byte{5, 220}}}},
		{[]byte{2, 4, 0, 0}, []api.Opt{{Kind: 2, Data: []byte{0, 0}}}},
		{[]byte{3, 3, 7}, []api.Opt{{Kind: 3, Data: []byte{7}}}},
		{[]byte{4, 2}, []api.Opt{{Kind: 4}}},
		{[]byte{8, 10, 1, 2, 3, 4, 5, 6, 7, 8}, []api.Opt{{Kind: 8, Data: []byte{1, 2, 3, 4, 5, 6, 7, 8}}}},
		{[]byte{5, 2}, []api.Opt{{Kind: 5}}},
		{[]byte{255, 3, 9, 0, 0}, []api.Opt{{Kind: 255, Data: []byte{9}}}},
		{[]byte{2, 4, 5, 220, 1, 3, 3, 7, 4, 2, 0, 0}, []api.Opt{{Kind: 2, Data: []byte{5, 220}}, {Kind: 1}, {Kind: 3, Data: []byte{7}}, {Kind: 4}}},
		{[]byte{6, 5, 0, 1, 0, 1, 6, 2, 0}, []api.Opt{{Kind: 6, Data: []byte{0, 1, 0}}, {Kind: 1}, {Kind: 6}}},
	} {
		wantParse(t, "an ordinary list", c.b, c.want, api.OK)
	}
}

// Bytes 0 end the options where they begin one: at the beginning, in the middle and at the end.
func TestBytesZero(t *testing.T) {
	for _, part := range [][]byte{nil, {1}, {4, 2}, {2, 4, 5, 220}, {9, 4, 0, 0}, {3, 3, 0}, {1, 1, 7, 3, 0}} {
		want, e := Parse(part)
		if e != api.OK {
			t.Fatalf("Parse(%v): %d", part, e)
		}
		for zeros := range 41 - len(part) {
			b := append(slices.Clone(part), make([]byte, zeros)...)
			wantParse(t, "zeros at the end", b, want, api.OK)
			for at := len(part) + 1; at < len(b); at++ {
				for _, x := range []byte{1, 2, 128, 255} {
					c := slices.Clone(b)
					c[at] = x
					wantParse(t, "a byte behind a byte 0", c, nil, api.ErrForm)
				}
			}
		}
	}
	wantParseError(t, "a byte behind a byte 0", []byte{0, 1}, api.ErrForm)
	wantParseError(t, "an option behind a byte 0", []byte{0, 2, 4, 5, 220}, api.ErrForm)
	wantParseError(t, "a short option behind a byte 0", []byte{0, 5}, api.ErrForm)
	wantParseError(t, "a last byte behind many", append(make([]byte, 29), 1), api.ErrForm)
}

// ErrLong: more than 40 bytes, whatever they are; it comes ahead of all other errors.
func TestHowManyBytesToParse(t *testing.T) {
	whole := slices.Concat([]byte{2, 4, 5, 220, 9, 34}, mixed(32, 1), []byte{4, 2})
	wantParse(t, "40 bytes", whole, []api.Opt{{Kind: 2, Data: []byte{5, 220}}, {Kind: 9, Data: mixed(32, 1)}, {Kind: 4}}, api.OK)
	wantParse(t, "one option of 40 bytes", append([]byte{9, 40}, mixed(38, 2)...), []api.Opt{{Kind: 9, Data: mixed(38, 2)}}, api.OK)
	wantParse(t, "40 bytes 1", bytes.Repeat([]byte{1}, 40), nops(40), api.OK)
	wantParse(t, "40 bytes 0", make([]byte, 40), nil, api.OK)
	for _, size := range []int{41, 42, 43, 44, 80, 255, 256, 257, 296, 65536, 1 << 20} {
		for _, b := range [][]byte{make([]byte, size), bytes.Repeat([]byte{1}, size), bytes.Repeat([]byte{4, 2}, size)[:size], append(slices.Clone(whole), make([]byte, size-40)...),
			append([]byte{0, 1}, make([]byte, size-2)...), append([]byte{2, 0}, make([]byte, size-2)...), append([]byte{5, 255}, make([]byte, size-2)...), append([]byte{2, 3}, make([]byte, size-2)...), append(make([]byte, size-1), 5)} {
			wantParse(t, "too many bytes", b, nil, api.ErrLong)
		}
	}
}

// ErrShort: a kind as the last byte, though more stands in the room behind the list's end.
func TestKindAsTheLastByte(t *testing.T) {
	for kind := 2; kind <= 255; kind++ {
		wantParseError(t, "a kind as the last byte", []byte{byte(kind)}, api.ErrShort)
		wantParse(t, "a kind as the last of 40", append(bytes.Repeat([]byte{1}, 39), byte(kind)), nil, api.ErrShort)
	}
}

// Each kind with each length that may be said, and with fewer, as many and more bytes than it says.
func TestEachLengthThatIsSaid(t *testing.T) {
	for kind := 2; kind <= 255; kind++ {
		for said := range 256 {
			for _, there := range []int{2, 3, 4, said - 1, said, said + 1, 40} {
				if there < 2 || there > 40 {
					continue
				}
				b := make([]byte, there)
				b[0], b[1] = byte(kind), byte(said)
				what := fmt.Sprint("kind ", kind, ", length ", said)
				switch want := asks(kind); {
				case said < 2:
					wantParse(t, what, b, nil, api.ErrForm)
				case said > there:
					wantParse(t, what, b, nil, api.ErrShort)
				case want >= 0 && want != said-2:
					wantParse(t, what, b, nil, api.ErrForm)
				default:
					wantParse(t, what, b, []api.Opt{{Kind: kind, Data: b[2:said]}}, api.OK)
				}
			}
		}
	}
}

func TestWrongOptions(t *testing.T) {
	for _, kind := range []byte{2, 3, 4, 5, 8, 255} {
		wantParseError(t, "a length of 0", []byte{kind, 0}, api.ErrForm)
		wantParseError(t, "a length of 1", []byte{kind, 1}, api.ErrForm)
		wantParseError(t, "a length of 0, and more bytes", []byte{kind, 0, 0, 0}, api.ErrForm)
		wantParseError(t, "a length of 1, and more bytes", []byte{kind, 1, 4, 2}, api.ErrForm)
		wantParseError(t, "a length of 3 of 2", []byte{kind, 3}, api.ErrShort)
		wantParseError(t, "a length of 255", []byte{kind, 255, 1, 1}, api.ErrShort)
		wantParseError(t, "a length of one more than there is", []byte{kind, 11, 1, 1, 1, 1, 1, 1, 1, 1}, api.ErrShort)
	}
	for _, kind := range []int{2, 3, 4, 8} {
		for _, n := range []int{asks(kind) - 1, asks(kind) + 1, asks(kind) + 2, 20} {
			if n < 0 {
				continue
			}
			b := append([]byte{byte(kind), byte(n + 2)}, make([]byte, n)...)
			wantParseError(t, "Data not as long as asked", b, api.ErrForm)
			wantParseError(t, "Data not as long as asked, and more bytes", append(b, 0, 0), api.ErrForm)
			if n > 0 {
				wantParseError(t, "Data not as long as asked, and not all there", b[:len(b)-1], api.ErrShort)
			}
		}
	}
}

// The first error is told: what stands behind it is not looked at, and nothing ahead of it is told.
func TestWhichErrorOfBytes(t *testing.T) {
	for _, c := range []struct {
		b    []byte
		want api.Errno
	}{
		{[]byte{5, 0, 5}, api.ErrForm},
		{[]byte{5, 9, 5, 0}, api.ErrShort},
		{[]byte{4, 2, 5, 0, 0, 1}, api.ErrForm},
		{[]byte{4, 2, 5, 9, 0, 1}, api.ErrShort},
		{[]byte{2, 3, 0, 5}, api.ErrForm},
		{[]byte{2, 9, 0, 0}, api.ErrShort},
		{[]byte{2, 3}, api.ErrShort},
		{[]byte{4, 3}, api.ErrShort},
		{[]byte{4, 3, 0}, api.ErrForm},
		{[]byte{0, 5}, api.ErrForm},
		{[]byte{1, 0, 0, 5, 9}, api.ErrForm},
		{[]byte{1, 5}, api.ErrShort},
	} {
		wantParseError(t, "two errors", c.b, c.want)
	}
}

// each goes over all lists of size bytes out of few.
func each(few []byte, size int, do func([]byte)) {
	b := make([]byte, size)
	var fill func(at int)
	fill = func(at int) {
		if at == size {
			do(b)
			return
		}
		for _, x := range few {
			b[at] = x
			fill(at + 1)
		}
	}
	fill(0)
}

func TestAllShortLists(t *testing.T) {
	for size := range 7 {
		each([]byte{0, 1, 2, 3, 4, 5, 8, 255}, size, func(b []byte) {
			want, e := parseBy(b)
			l, f := Parse(b)
			if e != f || !equalOpts(l, want) {
				t.Errorf("Parse(%v): %v %d, want %v %d", b, l, f, want, e)
			}
		})
	}
}

// bytesOf tells bytes of options, most often fine ones, and at times changed, cut short or with bytes behind.
func bytesOf(seed int) []byte {
	dice := mixed(20, seed+100000)
	b, _ := putBy(lottery(seed))
	b = slices.Clone(b)
	if len(b) > 0 && dice[0]%3 == 0 {
		b[int(dice[1])%len(b)] = dice[2] % 12
	}
	if dice[3]%4 == 0 {
		b = append(b, dice[4:4+dice[5]%8]...)
	}
	if dice[6]%4 == 0 {
		b = b[:int(dice[7])%(len(b)+1)]
	}
	return b
}

func TestManyLists(t *testing.T) {
	met := map[api.Errno]int{}
	for seed := range 60000 {
		b := bytesOf(seed)
		want, e := parseBy(b)
		wantParse(t, fmt.Sprint("list ", seed), b, want, e)
		met[e]++
	}
	for _, e := range []api.Errno{api.OK, api.ErrLong, api.ErrShort, api.ErrForm} {
		if met[e] < 300 {
			t.Errorf("the lists hold error %d but %d times", e, met[e])
		}
	}
}

// P6.3

// lists are options such as Parse tells, and such as it never would.
func lists() [][]api.Opt {
	return [][]api.Opt{
		nil,
		{},
		{{Kind: 2, Data: []byte{5, 220}}},
		{{Kind: 2}},
		{{Kind: 1}, {Kind: 1, Data: []byte{1}}},
		{{Kind: 3, Data: []byte{7}}, {Kind: 2, Data: []byte{1, 0}}, {Kind: 3, Data: []byte{8}}},
		{{Kind: 2, Data: []byte{1}}, {Kind: 2, Data: []byte{1, 2, 3}}, {Kind: 2, Data: []byte{1, 2}}, {Kind: 2, Data: []byte{3, 4}}},
		{{Kind: 0, Data: []byte{9, 9}}, {Kind: -1, Data: mixed(100, 1)}, {Kind: 256, Data: []byte{6}}, {Kind: 258, Data: []byte{0, 1}}, {Kind: 1<<32 + 2, Data: []byte{0, 2}}},
		{{Kind: math.MaxInt, Data: []byte{1, 1}}, {Kind: math.MinInt, Data: []byte{2, 2}}, {Kind: math.MinInt + 2, Data: []byte{3, 3}}, {Kind: math.MaxInt}},
		slices.Repeat([]api.Opt{{Kind: 1}, {Kind: 8, Data: mixed(8, 2)}}, 300),
		append(nops(1000), api.Opt{Kind: 2, Data: []byte{7, 8}}),
	}
}

func TestFind(t *testing.T) {
	for _, c := range []struct {
		l    []api.Opt
		kind int
		want []byte
		ok   bool
	}{
		{nil, 0, nil, false},
		{nil, 2, nil, false},
		{[]api.Opt{}, 0, nil, false},
		{[]api.Opt{{Kind: 2, Data: []byte{5, 220}}}, 2, []byte{5, 220}, true},
		{[]api.Opt{{Kind: 2, Data: []byte{5, 220}}}, 3, nil, false},
		{[]api.Opt{{Kind: 2, Data: []byte{5, 220}}}, 0, nil, false},
		{[]api.Opt{{Kind: 2, Data: []byte{5, 220}}}, 258, nil, false},
		{[]api.Opt{{Kind: 2, Data: []byte{5, 220}}}, -254, nil, false},
		{[]api.Opt{{Kind: 4}}, 4, nil, true},
		{[]api.Opt{{Kind: 4}, {Kind: 4, Data: []byte{1}}}, 4, nil, true},
		{[]api.Opt{{Kind: 4, Data: []byte{1}}, {Kind: 4}}, 4, []byte{1}, true},
		{[]api.Opt{{Kind: 2, Data: []byte{1, 2, 3}}, {Kind: 2, Data: []byte{4, 5}}}, 2, []byte{1, 2, 3}, true},
		{[]api.Opt{{Kind: 1}, {Kind: 3, Data: []byte{7}}, {Kind: 3, Data: []byte{8}}, {Kind: 1, Data: []byte{9}}}, 3, []byte{7}, true},
		{[]api.Opt{{Kind: 1}, {Kind: 3, Data: []byte{7}}, {Kind: 3, Data: []byte{8}}, {Kind: 1, Data: []byte{9}}}, 1, nil, true},
		{[]api.Opt{{Kind: 0, Data: []byte{7}}}, 0, []byte{7}, true},
		{[]api.Opt{{Kind: 256, Data: []byte{7}}, {Kind: 0, Data: []byte{8}}}, 0, []byte{8}, true},
		{[]api.Opt{{Kind: math.MinInt, Data: []byte{7}}, {Kind: math.MaxInt, Data: []byte{8}}}, math.MaxInt, []byte{8}, true},
		{[]api.Opt{{Kind: math.MinInt, Data: []byte{7}}, {Kind: math.MaxInt, Data: []byte{8}}}, math.MinInt, []byte{7}, true},
		{[]api.Opt{{Kind: 9, Data: mixed(70000, 1)}}, 9, mixed(70000, 1), true},
	} {
		got, ok := Find(c.l, c.kind)
		if ok != c.ok || !bytes.Equal(got, c.want) {
			t.Errorf("Find(%v, %d): %v %v, want %v %v", c.l, c.kind, got, ok, c.want, c.ok)
		}
	}
}

// What Find tells is the first one's; where it tells none, there is none.
func TestFindOfEachKind(t *testing.T) {
	kinds := wrongKinds()
	for k := 1; k <= 255; k++ {
		kinds = append(kinds, k)
	}
	for _, l := range lists() {
		for _, kind := range kinds {
			got, ok := Find(l, kind)
			at := slices.IndexFunc(l, func(o api.Opt) bool { return o.Kind == kind })
			if ok != (at >= 0) || at >= 0 && !bytes.Equal(got, l[at].Data) || at < 0 && len(got) != 0 {
				t.Errorf("Find of %d in %d options: %v %v, and the first one is %d", kind, len(l), got, ok, at)
			}
		}
	}
}

func TestSegment(t *testing.T) {
	for _, c := range []struct {
		l    []api.Opt
		want int
	}{
		{nil, 1220},
		{[]api.Opt{}, 1220},
		{[]api.Opt{{Kind: 2, Data: []byte{5, 220}}}, 1500},
		{[]api.Opt{{Kind: 2, Data: []byte{0, 0}}}, 0},
		{[]api.Opt{{Kind: 2, Data: []byte{0, 1}}}, 1},
		{[]api.Opt{{Kind: 2, Data: []byte{1, 0}}}, 256},
		{[]api.Opt{{Kind: 2, Data: []byte{255, 255}}}, 65535},
		{[]api.Opt{{Kind: 2}}, 1220},
		{[]api.Opt{{Kind: 2, Data: []byte{5}}}, 1220},
		{[]api.Opt{{Kind: 2, Data: []byte{5, 220, 0}}}, 1220},
		{[]api.Opt{{Kind: 2, Data: mixed(258, 1)}}, 1220},
		{[]api.Opt{{Kind: 3, Data: []byte{5, 220}}}, 1220},
		{[]api.Opt{{Kind: 1, Data: []byte{5, 220}}}, 1220},
		{[]api.Opt{{Kind: 0, Data: []byte{5, 220}}}, 1220},
		{[]api.Opt{{Kind: 258, Data: []byte{5, 220}}}, 1220},
		{[]api.Opt{{Kind: -254, Data: []byte{5, 220}}}, 1220},
		{[]api.Opt{{Kind: 1<<32 + 2, Data: []byte{5, 220}}}, 1220},
		{[]api.Opt{{Kind: math.MinInt + 2, Data: []byte{5, 220}}}, 1220},
		{[]api.Opt{{Kind: 2, Data: []byte{1, 2}}, {Kind: 2, Data: []byte{3, 4}}}, 258},
		{[]api.Opt{{Kind: 2, Data: []byte{0, 0}}, {Kind: 2, Data: []byte{3, 4}}}, 0},
		{[]api.Opt{{Kind: 2}, {Kind: 2, Data: []byte{3, 4}}}, 772},
		{[]api.Opt{{Kind: 2, Data: []byte{9}}, {Kind: 2, Data: []byte{9, 9, 9}}, {Kind: 2, Data: []byte{3, 4}}, {Kind: 2, Data: []byte{5, 6}}}, 772},
		{[]api.Opt{{Kind: 2, Data: []byte{3, 4}}, {Kind: 2, Data: []byte{9}}}, 772},
		{[]api.Opt{{Kind: 2, Data: []byte{9}}, {Kind: 2, Data: []byte{9, 9, 9}}}, 1220},
		{[]api.Opt{{Kind: 1}, {Kind: 3, Data: []byte{7}}, {Kind: 2, Data: []byte{4, 196}}}, 1220},
		{[]api.Opt{{Kind: 1}, {Kind: 3, Data: []byte{7}}, {Kind: 2, Data: []byte{4, 195}}}, 1219},
		{append(nops(1000), api.Opt{Kind: 2, Data: []byte{7, 8}}), 1800},
	} {
		if got := Segment(c.l); got != c.want {
			t.Errorf("Segment of %d options: %d, want %d", len(c.l), got, c.want)
		}
	}
	for n := range 65536 {
		if got := Segment([]api.Opt{opt(3, 1), {Kind: 2, Data: []byte{byte(n >> 8), byte(n)}}}); got != n {
			t.Errorf("Segment of %d: %d", n, got)
		}
	}
}

// Options in the room behind a list's end are none of its options, nor are bytes behind the end of Data its bytes.
func TestEndOfAList(t *testing.T) {
	whole := []api.Opt{{Kind: 1}, {Kind: 9, Data: []byte{1, 2, 3, 4}[:3]}, {Kind: 2, Data: []byte{5, 220, 7}[:2]}, {Kind: 77, Data: []byte{8}}}
	for size := range len(whole) + 1 {
		l := whole[:size]
		for i, o := range whole {
			got, ok := Find(l, o.Kind)
			if ok != (i < size) || ok && !bytes.Equal(got, o.Data) || !ok && len(got) != 0 {
				t.Errorf("Find of %d in %d of 4: %v %v", o.Kind, size, got, ok)
			}
		}
		want := 1220
		if size > 2 {
			want = 1500
		}
		if got := Segment(l); got != want {
			t.Errorf("Segment of %d of 4: %d, want %d", size, got, want)
		}
	}
	wantPut(t, "a part of a list", whole[:2], []byte{1, 9, 5, 1, 2, 3, 0, 0}, api.OK)
	if got := Segment([]api.Opt{{Kind: 2, Data: []byte{5, 220, 7}[:1]}}); got != 1220 {
		t.Errorf("Segment of an Mss whose second byte is behind its end: %d", got)
	}
}

// P6.4

// wantBack holds options that can be against P6.4.
func wantBack(t *testing.T, what string, l []api.Opt) {
	t.Helper()
	b, e := Put(l)
	if e != api.OK || len(b) > 40 || len(b)%4 != 0 {
		t.Errorf("%s: Put: %v %d", what, b, e)
		return
	}
	m, e := Parse(b)
	if e != api.OK || !equalOpts(l, m) {
		t.Errorf("%s: put as %v, parsed as %v %d", what, b, m, e)
	}
	if Segment(m) != Segment(l) {
		t.Errorf("%s: Segment %d, and %d of what was parsed", what, Segment(l), Segment(m))
	}
	again, e := Put(m)
	if e != api.OK || !bytes.Equal(again, b) {
		t.Errorf("%s: put as %v, and again as %v %d", what, b, again, e)
	}
}

func TestPutIsParsed(t *testing.T) {
	for n := range 41 {
		for _, l := range sized(n) {
			wantBack(t, fmt.Sprint(n, " bytes together"), l)
		}
	}
	for kind := 1; kind <= 255; kind++ {
		for n := range 39 {
			wantBack(t, fmt.Sprint("kind ", kind), []api.Opt{fine(kind, n)})
		}
		wantBack(t, fmt.Sprint("kind ", kind, " among others"), []api.Opt{opt(1, 0), fine(kind, 5), opt(3, 1), fine(kind, 0), opt(1, 0)})
	}
	// Data of bytes that would be options, or their end, themselves.
	for _, x := range []byte{0, 1, 2, 4, 255} {
		for n := range 39 {
			wantBack(t, "Data of one byte over and over", []api.Opt{{Kind: 5, Data: bytes.Repeat([]byte{x}, n)}})
		}
		wantBack(t, "Data of one byte over and over", []api.Opt{{Kind: 5, Data: bytes.Repeat([]byte{x}, 9)}, {Kind: 1}, {Kind: 2, Data: []byte{x, x}}, {Kind: 8, Data: bytes.Repeat([]byte{x}, 8)}, {Kind: 4}})
	}
}

func TestManyArePutAndParsed(t *testing.T) {
	many := 0
	for seed := range 30000 {
		if l := lottery(seed); Can(l) == api.OK {
			wantBack(t, fmt.Sprint("list ", seed), l)
			many++
		}
	}
	if many < 5000 {
		t.Errorf("but %d of the lists can be", many)
	}
}

// What is parsed can be put, and its bytes are those that were parsed, without or with bytes 0 at the end.
func TestParsedIsPut(t *testing.T) {
	for seed := range 60000 {
		b := bytesOf(seed)
		l, e := Parse(b)
		if e != api.OK {
			continue
		}
		got, f := Put(l)
		if f != api.OK || !bytes.Equal(bytes.TrimRight(got, "\x00"), bytes.TrimRight(b, "\x00")) {
			t.Errorf("list %d: %v is put again as %v %d", seed, b, got, f)
		}
	}
}

// R1: no call panics, whatever it is given; beside an error there is nothing.
func TestWhateverIsGiven(t *testing.T) {
	for _, kind := range append(wrongKinds(), 1, 2, 3, 4, 5, 8, 255) {
		for _, data := range [][]byte{nil, {}, {0}, {1, 2}, mixed(8, 1), mixed(38, 1), mixed(41, 1), mixed(70000, 1)} {
			l := []api.Opt{{}, {Kind: kind, Data: data}, {Kind: kind}}
			for from := range len(l) {
				if b, e := Put(l[from:]); e != Can(l[from:]) || e != api.OK && len(b) != 0 {
					t.Errorf("Put(%v): %v %d, and Can: %d", l[from:], b, e, Can(l[from:]))
				}
			}
			if got, ok := Find(l, kind); !ok || kind != 0 && !bytes.Equal(got, data) {
				t.Errorf("Find(%v, %d): %v %v", l, kind, got, ok)
			}
			if n := Segment(l); n < 0 || n > 65535 {
				t.Errorf("Segment(%v): %d", l, n)
			}
		}
	}
	for seed := range 3000 {
		for _, size := range []int{1, 2, 3, 5, 39, 40, 41} {
			b := mixed(size, seed)
			if l, e := Parse(b); e != api.OK && len(l) != 0 {
				t.Errorf("Parse(%v): %v beside %d", b, l, e)
			}
		}
	}
}

// R3: what is handed in stays as it was, with the room behind it; what is told is new memory.

func TestOptionsStay(t *testing.T) {
	all := lists()
	for seed := range 300 {
		all = append(all, lottery(seed))
	}
	for i, l := range all {
		list, whole, datas := roomyOpts(l)
		was, dataWas := cloned(whole), clonedBytes(datas)
		Can(list)
		Put(list)
		Segment(list)
		for _, kind := range []int{0, 1, 2, 3, 4, 5, 8, 9, 77, 255, 256, -1, math.MaxInt, math.MinInt} {
			Find(list, kind)
		}
		if !equalOpts(whole, was) || !slices.EqualFunc(datas, dataWas, bytes.Equal) {
			t.Errorf("list %d of options, or the room behind it, changed", i)
		}
	}
}

func TestBytesStay(t *testing.T) {
	for seed := range 3000 {
		list, whole := roomy(bytesOf(seed))
		was := slices.Clone(whole)
		Parse(list)
		if !bytes.Equal(whole, was) {
			t.Fatalf("Parse changed list %d or the room behind it", seed)
		}
	}
}

// fill writes over a list and the room behind its end.
func fill(b []byte) {
	b = b[:cap(b)]
	for i := range b {
		b[i] ^= 255
	}
}

func TestWhatPutTellsIsNewMemory(t *testing.T) {
	for n := range 41 {
		for _, l := range sized(n) {
			list, whole, datas := roomyOpts(l)
			was, dataWas := cloned(whole), clonedBytes(datas)
			one, _ := Put(list)
			two, _ := Put(list)
			want := slices.Clone(one)
			fill(one)
			if !bytes.Equal(two, want) {
				t.Errorf("two answers of %d bytes share memory", n)
			}
			if !equalOpts(whole, was) || !slices.EqualFunc(datas, dataWas, bytes.Equal) {
				t.Errorf("the answer of %d bytes shares memory with what was handed in", n)
			}
			for i := range datas {
				fill(datas[i])
			}
			if !bytes.Equal(two, want) {
				t.Errorf("the answer of %d bytes changes with what was handed in", n)
			}
		}
	}
}

// No two lists of one answer share memory, nor two answers, nor an answer and the bytes.
func TestWhatParseTellsIsNewMemory(t *testing.T) {
	for seed := range 3000 {
		list, whole := roomy(bytesOf(seed))
		was := slices.Clone(whole)
		one, e := Parse(list)
		if e != api.OK {
			continue
		}
		two, _ := Parse(list)
		want := cloned(one)
		for i := range one {
			fill(one[i].Data)
			for j := i + 1; j < len(one); j++ {
				if !bytes.Equal(one[j].Data, want[j].Data) {
					t.Errorf("list %d: the options %d and %d share memory", seed, i, j)
				}
			}
		}
		room := one[:cap(one)]
		for i := range room {
			room[i] = api.Opt{Kind: -9}
		}
		if !equalOpts(two, want) {
			t.Errorf("list %d: two answers share memory", seed)
		}
		if !bytes.Equal(whole, was) {
			t.Errorf("list %d: the answer shares memory with the bytes", seed)
		}
		fill(whole)
		if !equalOpts(two, want) {
			t.Errorf("list %d: the answer changes with the bytes", seed)
		}
	}
}

// What is appended to one answer does not come into another list of it.
func TestWhatIsAppendedStaysApart(t *testing.T) {
	l, e := Parse([]byte{9, 4, 1, 2, 10, 5, 3, 4, 5, 4, 2, 1, 11, 3, 6})
	if e != api.OK || len(l) != 5 {
		t.Fatalf("%v %d", l, e)
	}
	want := cloned(l)
	for i := range l {
		_ = append(l[i].Data, 99, 99, 99, 99, 99, 99)
	}
	if !equalOpts(l, want) {
		t.Errorf("what was appended came into other options: %v, want %v", l, want)
	}
}

func TestWhatFindTellsIsNewMemory(t *testing.T) {
	for n := range 45 {
		data, whole := roomy(mixed(n, n))
		was := slices.Clone(whole)
		l := []api.Opt{{Kind: 1}, {Kind: 9, Data: data}}
		one, _ := Find(l, 9)
		two, _ := Find(l, 9)
		fill(one)
		if !bytes.Equal(whole, was) || !bytes.Equal(two, was[:n]) {
			t.Errorf("what Find tells of %d bytes shares memory", n)
		}
		fill(whole)
		if !bytes.Equal(two, was[:n]) {
			t.Errorf("what Find tells of %d bytes changes with what was handed in", n)
		}
	}
}

// What was handed in is not kept: changed, it is told as it is now.
func TestNothingIsKept(t *testing.T) {
	l := []api.Opt{{Kind: 2, Data: []byte{5, 220}}, {Kind: 1}}
	wantPut(t, "ahead of the change", l, []byte{2, 4, 5, 220, 1, 0, 0, 0}, api.OK)
	l[0].Data[1] = 221
	l[1] = api.Opt{Kind: 4}
	wantPut(t, "behind the change", l, []byte{2, 4, 5, 221, 4, 2, 0, 0}, api.OK)
	if data, ok := Find(l, 2); !ok || !bytes.Equal(data, []byte{5, 221}) || Segment(l) != 1501 {
		t.Errorf("behind the change: %v %v %d", data, ok, Segment(l))
	}
	l[0].Kind = 0
	wantPutError(t, "behind the second change", l, api.ErrArg)
	l[0].Kind = 3
	wantPutError(t, "behind the third change", l, api.ErrForm)
	b := []byte{3, 3, 7}
	wantParse(t, "ahead of the change", b, []api.Opt{{Kind: 3, Data: []byte{7}}}, api.OK)
	b[2] = 8
	wantParse(t, "behind the change", b, []api.Opt{{Kind: 3, Data: []byte{8}}}, api.OK)
	b[0] = 2
	wantParse(t, "behind the second change", b, nil, api.ErrForm)
}

func TestNilAndEmptyAreTheSame(t *testing.T) {
	for _, l := range [][]api.Opt{nil, {}} {
		wantPut(t, "no options", l, nil, api.OK)
		if data, ok := Find(l, 0); ok || len(data) != 0 || Segment(l) != 1220 {
			t.Errorf("no options: Find %v %v, Segment %d", data, ok, Segment(l))
		}
	}
	for _, b := range [][]byte{nil, {}} {
		if l, e := Parse(b); e != api.OK || len(l) != 0 {
			t.Errorf("no bytes: %v %d", l, e)
		}
	}
	for _, kind := range []int{0, 1, 2, 3, 4, 5, 8, 255, 256} {
		one, two := []api.Opt{{Kind: kind}}, []api.Opt{{Kind: kind, Data: []byte{}}}
		a, e := Put(one)
		b, f := Put(two)
		if e != f || !bytes.Equal(a, b) || Segment(one) != Segment(two) {
			t.Errorf("kind %d: %v %d of nil, %v %d of an empty list", kind, a, e, b, f)
		}
		if _, ok := Find(one, kind); !ok {
			t.Errorf("kind %d without Data: Find tells none", kind)
		}
	}
}

// R4: asked again, each call answers what it answered.
func TestAskedAgain(t *testing.T) {
	for seed := range 500 {
		l, b := lottery(seed), bytesOf(seed)
		put, e := Put(l)
		parsed, f := Parse(b)
		for range 3 {
			list, _, _ := roomyOpts(l)
			wantPut(t, fmt.Sprintf("list %d, asked again", seed), list, put, e)
			wantParse(t, fmt.Sprintf("list %d, asked again", seed), b, parsed, f)
			if Segment(list) != Segment(l) {
				t.Errorf("list %d: Segment %d, and then %d", seed, Segment(l), Segment(list))
			}
		}
	}
}

// What is laid may be left at any place, gone over again and nested.
func TestLaidIsLeft(t *testing.T) {
	l := []api.Opt{{Kind: 2, Data: []byte{5, 220}}, {Kind: 1}, {Kind: 9, Data: []byte{7, 7, 7}}}
	all := laid(l)
	want := [][]byte{{2, 4}, {5, 220}, {1}, {}, {9, 5}, {7, 7, 7}}
	for stop := range len(want) + 1 {
		var got [][]byte
		for part := range all {
			if len(got) == stop {
				break
			}
			got = append(got, part)
			inner := 0
			for range all {
				inner++
			}
			if inner != len(want) {
				t.Errorf("nested: %d parts", inner)
			}
		}
		if !slices.EqualFunc(got, want[:stop], bytes.Equal) {
			t.Errorf("left behind %d: %v, want %v", stop, got, want[:stop])
		}
	}
}
