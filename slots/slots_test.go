package slots

import (
	"maps"
	"math"
	"math/rand"
	"runtime"
	"slices"
	"strconv"
	"testing"
	"weak"
)

// lies is what Cell tells of a cell.
type lies[K comparable] struct {
	key   K
	value int
	used  bool
}

// laid tells what Cell tells of all cells.
func laid[K comparable](x *Table[K]) []lies[K] {
	var l []lies[K]
	for i := range x.Cap() {
		k, v, ok := x.Cell(i)
		l = append(l, lies[K]{k, v, ok})
	}
	return l
}

// wantSame wants that a table lies, cell by cell, as it lay.
func wantSame[K comparable](t *testing.T, what string, x *Table[K], was []lies[K]) {
	t.Helper()
	if got := laid(x); !slices.Equal(got, was) {
		t.Errorf("%s: the cells are %v, and were %v", what, got, was)
	}
}

// wantWhole wants that a table tells just the pairs of a map, by each of its calls, no key twice, and each where it may lie.
func wantWhole[K comparable](t *testing.T, x *Table[K], n int, m map[K]int) {
	t.Helper()
	if x.Cap() != n || x.Len() != len(m) {
		t.Fatalf("Cap %d, Len %d, want %d, %d", x.Cap(), x.Len(), n, len(m))
	}
	cells := laid(x)
	where := map[K]int{}
	for i, c := range cells {
		if !c.used {
			if c != (lies[K]{}) {
				t.Fatalf("cell %d is free, and tells %v", i, c)
			}
			continue
		}
		if at, twice := where[c.key]; twice {
			t.Fatalf("%v lies in cells %d and %d", c.key, at, i)
		}
		where[c.key] = i
		if v, ok := m[c.key]; !ok || v != c.value {
			t.Fatalf("cell %d: %v with %d; should be %d, %t", i, c.key, c.value, v, ok)
		}
	}
	for k, v := range m {
		if got, ok := x.Get(k); !ok || got != v {
			t.Fatalf("Get(%v): %d, %t, want %d", k, got, ok, v)
		}
		at, ok := where[k]
		if !ok {
			t.Fatalf("%v lies in no cell", k)
		}
		home := x.Home(k)
		if home < 0 || home >= n {
			t.Fatalf("Home(%v): %d", k, home)
		}
		for i := home; i != at; i = (i + 1) % n {
			if !cells[i].used {
				t.Fatalf("%v lies in cell %d, its home is %d, and cell %d is free: %v", k, at, home, i, cells)
			}
		}
	}
}

func wantHome[K comparable](t *testing.T, x *Table[K], k K, want int) {
	t.Helper()
	if got := x.Home(k); got != want {
		t.Errorf("Home(%v): %d, want %d", k, got, want)
	}
}

func wantPut[K comparable](t *testing.T, x *Table[K], k K, v int, want bool) {
	t.Helper()
	was := laid(x)
	if got := x.Put(k, v); got != want {
		t.Errorf("Put(%v, %d): %t", k, v, got)
	}
	if !want {
		wantSame(t, "a Put that could not be", x, was)
	}
}

func wantGet[K comparable](t *testing.T, x *Table[K], k K, v int, want bool) {
	t.Helper()
	was := laid(x)
	if got, ok := x.Get(k); got != v || ok != want {
		t.Errorf("Get(%v): %d, %t, want %d, %t", k, got, ok, v, want)
	}
	wantSame(t, "Get", x, was)
}

func wantDel[K comparable](t *testing.T, x *Table[K], k K, want bool) {
	t.Helper()
	was := laid(x)
	if got := x.Del(k); got != want {
		t.Errorf("Del(%v): %t", k, got)
	}
	if !want {
		wantSame(t, "a Del of what was not there", x, was)
	}
}

func wantCell[K comparable](t *testing.T, x *Table[K], i int, k K, v int, want bool) {
	t.Helper()
	if gotKey, got, ok := x.Cell(i); gotKey != k || got != v || ok != want {
		t.Errorf("Cell(%d): %v, %d, %t, want %v, %d, %t", i, gotKey, got, ok, k, v, want)
	}
}

// wantNothing wants that each call of a table that no call made tells nothing.
func wantNothing[K comparable](t *testing.T, x *Table[K], keys ...K) {
	t.Helper()
	var zero K
	for range 2 {
		for _, k := range append(keys, zero) {
			wantHome(t, x, k, 0)
			wantPut(t, x, k, 7, false)
			wantGet(t, x, k, 0, false)
			wantDel(t, x, k, false)
		}
		for _, i := range []int{0, 1, -1, 255, math.MaxInt, math.MinInt} {
			wantCell(t, x, i, zero, 0, false)
		}
		if x.Len() != 0 || x.Cap() != 0 {
			t.Errorf("Len %d, Cap %d, want 0, 0", x.Len(), x.Cap())
		}
	}
}

// number is the hash of a key that is one: the number itself.
func number(k int) uint64 { return uint64(k) }

// tens is a hash that ten numbers share.
func tens(k int) uint64 { return uint64(k / 10) }

// always tells a hash that is the same for all keys.
func always[K comparable](u uint64) func(K) uint64 {
	return func(K) uint64 { return u }
}

// told tells a hash that stands in a list, by the key.
func told(homes []int) func(int) uint64 {
	return func(k int) uint64 { return uint64(homes[k]) }
}

// words is a hash of texts.
func words(s string) uint64 {
	var u uint64
	for _, c := range []byte(s) {
		u = u*131 + uint64(c)
	}
	return u
}

// orders tells in which orders n numbers may stand.
func orders(n int) [][]int {
	if n == 0 {
		return [][]int{nil}
	}
	var l [][]int
	for _, o := range orders(n - 1) {
		for at := range n {
			l = append(l, slices.Insert(slices.Clone(o), at, n-1))
		}
	}
	return l
}

// P21.1
func TestNewTellsAnEmptyTableOfOneTo256Cells(t *testing.T) {
	for n := 1; n <= 256; n++ {
		x := New(n, number)
		if x == nil {
			t.Fatalf("New(%d): nil", n)
		}
		wantWhole(t, x, n, nil)
	}
}

// P21.1
func TestNewTellsNilOfAnotherNumberOrWithoutAHash(t *testing.T) {
	for _, n := range []int{0, -1, -256, 257, 258, 512, 1<<32 + 1, math.MaxInt, math.MinInt, math.MinInt + 1} {
		if New(n, number) != nil {
			t.Errorf("New(%d) is a table", n)
		}
		if New[string](n, nil) != nil {
			t.Errorf("New(%d) without a hash is a table", n)
		}
	}
	for _, n := range []int{1, 2, 4, 255, 256} {
		if New[int](n, nil) != nil || New[string](n, nil) != nil {
			t.Errorf("New(%d) without a hash is a table", n)
		}
	}
}

// P21.1
func TestHomeIsTheHashModuloTheCells(t *testing.T) {
	for _, c := range []struct {
		n    int
		u    uint64
		want int
	}{
		{1, 0, 0}, {1, 7, 0}, {1, math.MaxUint64, 0},
		{2, 0, 0}, {2, 1, 1}, {2, 2, 0}, {2, math.MaxUint64, 1}, {2, math.MaxUint64 - 1, 0}, {2, 1 << 63, 0}, {2, 1<<63 + 1, 1},
		{3, 1 << 63, 2}, {3, math.MaxUint64, 0}, {3, math.MaxUint64 - 1, 2},
		{7, 1 << 32, 4}, {7, 1<<32 - 1, 3}, {7, 1 << 63, 1}, {7, math.MaxUint64, 1},
		{255, 254, 254}, {255, 255, 0}, {255, 256, 1}, {255, 1 << 63, 128}, {255, math.MaxUint64, 0}, {255, math.MaxUint64 - 1, 254},
		{256, 255, 255}, {256, 256, 0}, {256, 257, 1}, {256, 0x0123456789abcdef, 0xef}, {256, math.MaxUint64, 255}, {256, 1 << 63, 0},
	} {
		x := New(c.n, always[string](c.u))
		for _, k := range []string{"", "a", "ab"} {
			wantHome(t, x, k, c.want)
		}
		wantPut(t, x, "a", 5, true)
		wantHome(t, x, "a", c.want)
		wantHome(t, x, "b", c.want)
		wantCell(t, x, c.want, "a", 5, true)
		wantWhole(t, x, c.n, map[string]int{"a": 5})
	}
}

// P21.1
func TestTheTableOfTheChapter(t *testing.T) {
	x := New(2, number)
	wantPut(t, x, 8, 1, true)
	wantPut(t, x, 6, 2, true)
	wantPut(t, x, 4, 3, false)
	wantPut(t, x, 5, 3, false)
	wantWhole(t, x, 2, map[int]int{8: 1, 6: 2})
	wantCell(t, x, 0, 8, 1, true)
	wantCell(t, x, 1, 6, 2, true)
}

// P21.1, P21.2
func TestAKeyLiesInTheFirstFreeCellFromItsHomeOn(t *testing.T) {
	x := New(5, tens)
	wantPut(t, x, 31, 1, true) // home 3
	wantPut(t, x, 32, 2, true) // from 3 on: 4
	wantPut(t, x, 33, 3, true) // round the end: 0
	wantPut(t, x, 41, 4, true) // from 4 on: 1
	wantPut(t, x, 1, 5, true)  // from 0 on: 2
	for i, k := range []int{33, 41, 1, 31, 32} {
		v := map[int]int{31: 1, 32: 2, 33: 3, 41: 4, 1: 5}[k]
		wantCell(t, x, i, k, v, true)
	}
	wantPut(t, x, 21, 6, false)
	wantPut(t, x, 41, 7, true)
	wantCell(t, x, 1, 41, 7, true)
	wantWhole(t, x, 5, map[int]int{31: 1, 32: 2, 33: 3, 41: 7, 1: 5})
}

// P21.1
func TestAPutMovesNoOtherKey(t *testing.T) {
	r := rand.New(rand.NewSource(21))
	for range 300 {
		n := 1 + r.Intn(12)
		x := New(n, tens)
		for range 4 * n {
			k := r.Intn(10 * n)
			if r.Intn(3) == 0 {
				x.Del(k)
				continue
			}
			was := laid(x)
			at := slices.Index(was, lies[int]{k, 0, true})
			if at < 0 {
				at = x.Home(k)
				for range was {
					if !was[at].used {
						break
					}
					at = (at + 1) % n
				}
				if was[at].used {
					wantPut(t, x, k, 0, false)
					continue
				}
			}
			wantPut(t, x, k, 0, true)
			was[at] = lies[int]{k, 0, true}
			wantSame(t, "Put", x, was)
		}
	}
}

// P21.1, P21.3
func TestAnyNumberMayStandByAKey(t *testing.T) {
	for _, n := range []int{1, 2, 255, 256} {
		x := New(n, number)
		for _, v := range []int{0, 1, -1, 1 << 32, math.MaxInt, math.MinInt, 0} {
			wantPut(t, x, 300, v, true)
			wantGet(t, x, 300, v, true)
			wantCell(t, x, 300%n, 300, v, true)
			wantWhole(t, x, n, map[int]int{300: v})
		}
	}
}

// P21.1
func TestAnyNumberMayBeAKey(t *testing.T) {
	m := map[int]int{0: 1, -1: 2, 1: 3, math.MaxInt: 4, math.MinInt: 5, 1 << 32: 6, 256: 7}
	for _, n := range []int{7, 8, 255, 256} {
		x := New(n, number)
		for k, v := range m {
			wantPut(t, x, k, v, true)
		}
		wantWhole(t, x, n, m)
		wantGet(t, x, 2, 0, false)
		wantGet(t, x, -2, 0, false)
	}
}

// P21.1
func TestCellsThatAreNotThereOrAreFreeTellNothing(t *testing.T) {
	for _, n := range []int{1, 2, 3, 255, 256} {
		x := New(n, always[int](0))
		wantCell(t, x, 0, 0, 0, false)
		wantPut(t, x, 5, 6, true)
		wantCell(t, x, 0, 5, 6, true)
		for _, i := range []int{-1, -n, -256, n, n + 1, 2 * n, 256, 257, 1 << 32, math.MaxInt, math.MinInt, math.MinInt + 1} {
			wantCell(t, x, i, 0, 0, false)
		}
		for i := 1; i < n; i++ {
			wantCell(t, x, i, 0, 0, false)
		}
		wantDel(t, x, 5, true)
		wantCell(t, x, 0, 0, 0, false)
	}
}

// P21.1
func TestOnlyAKeyThatIsThereMayBePutIntoAFullTable(t *testing.T) {
	for _, n := range []int{1, 2, 3, 16, 255, 256} {
		for _, u := range []uint64{0, 1, 254, math.MaxUint64} {
			x, m := New(n, func(k int) uint64 { return u * uint64(k) }), map[int]int{}
			for k := range n {
				if x.Len() != k {
					t.Fatalf("Len: %d, want %d", x.Len(), k)
				}
				wantPut(t, x, k, k+1, true)
				m[k] = k + 1
			}
			wantWhole(t, x, n, m)
			for _, k := range []int{n, n + 1, -1, math.MaxInt, math.MinInt} {
				wantPut(t, x, k, 9, false)
				wantGet(t, x, k, 0, false)
				wantDel(t, x, k, false)
			}
			for k := range n {
				wantPut(t, x, k, -k, true)
				m[k] = -k
			}
			wantWhole(t, x, n, m)
			wantDel(t, x, n/2, true)
			wantDel(t, x, n/2, false)
			delete(m, n/2)
			wantWhole(t, x, n, m)
			wantPut(t, x, n, 3, true)
			wantPut(t, x, n/2, 4, false)
			m[n] = 3
			wantWhole(t, x, n, m)
		}
	}
}

// P21.1, P21.3
func TestAKeyIsTakenOutOnce(t *testing.T) {
	x := New(4, tens)
	wantDel(t, x, 31, false)
	wantPut(t, x, 31, 1, true)
	wantPut(t, x, 32, 2, true)
	wantDel(t, x, 33, false)
	wantDel(t, x, 31, true)
	wantDel(t, x, 31, false)
	wantGet(t, x, 31, 0, false)
	wantGet(t, x, 32, 2, true)
	wantWhole(t, x, 4, map[int]int{32: 2})
	wantPut(t, x, 31, 5, true)
	wantPut(t, x, 31, 6, true)
	wantWhole(t, x, 4, map[int]int{32: 2, 31: 6})
	wantDel(t, x, 32, true)
	wantDel(t, x, 31, true)
	wantDel(t, x, 31, false)
	wantWhole(t, x, 4, nil)
}

// P21.2
func TestKeysBehindAGapGoBackOnlyWhereTheirWayLedOverIt(t *testing.T) {
	x := New(6, tens)
	m := map[int]int{51: 1, 52: 2, 1: 3, 11: 4, 53: 5}
	for _, k := range []int{51, 52, 1, 11, 53} { // cells 5, 0, 1, 2, 3
		wantPut(t, x, k, m[k], true)
	}
	wantWhole(t, x, 6, m)
	wantDel(t, x, 51, true)
	delete(m, 51)
	wantWhole(t, x, 6, m)
	wantDel(t, x, 52, true)
	delete(m, 52)
	wantWhole(t, x, 6, m)
	wantCell(t, x, 5, 53, 5, true)
	wantDel(t, x, 53, true)
	delete(m, 53)
	wantWhole(t, x, 6, m)
	wantCell(t, x, 0, 1, 3, true)
	wantCell(t, x, 1, 11, 4, true)
	wantDel(t, x, 1, true)
	delete(m, 1)
	wantWhole(t, x, 6, m)
	wantCell(t, x, 1, 11, 4, true)
}

// P21.1, P21.2, P21.3
func TestFullTablesAreEmptiedInEveryOrder(t *testing.T) {
	for n := 1; n <= 5; n++ {
		homes := make([]int, n)
		for range int(math.Pow(float64(n), float64(n))) {
			for _, order := range orders(n) {
				x, m := New(n, told(homes)), map[int]int{}
				for k := range n {
					m[k] = 10 + k
					x.Put(k, 10+k)
				}
				for _, k := range order {
					if !x.Del(k) || x.Del(k) {
						t.Fatalf("Del(%d), and again, at the homes %d and in the order %d: not true and false", k, homes, order)
					}
					delete(m, k)
					wantWhole(t, x, n, m)
				}
			}
			another(homes, n)
		}
	}
}

// another makes numbers below n the next such ones.
func another(l []int, n int) {
	for i := range l {
		l[i] = (l[i] + 1) % n
		if l[i] > 0 {
			return
		}
	}
}

// step is one call: a Put, or a Del, of a key.
type step struct {
	put bool
	key int
}

// done tells a table to which all of the steps were made, what it should have, and whether the last step could be.
func done(homes []int, n int, steps []step) (x *Table[int], m map[int]int, should, did bool) {
	x, m = New(n, told(homes)), map[int]int{}
	for i, s := range steps {
		_, there := m[s.key]
		if !s.put {
			should, did = there, x.Del(s.key)
			delete(m, s.key)
			continue
		}
		should, did = there || len(m) < n, x.Put(s.key, i)
		if should {
			m[s.key] = i
		}
	}
	return x, m, should, did
}

// everyState makes each Put and each Del behind each way in which keys may come to lie.
func everyState(t *testing.T, homes []int, n int) {
	t.Helper()
	ways := [][]step{nil}
	seen := map[[4]int]bool{{}: true}
	for len(ways) > 0 {
		way := ways[0]
		ways = ways[1:]
		for k := range homes {
			for _, put := range []bool{true, false} {
				steps := append(slices.Clone(way), step{put, k})
				x, m, should, did := done(homes, n, steps)
				if should != did {
					t.Fatalf("homes %d, of %d cells, %v: %t", homes, n, steps, did)
				}
				wantWhole(t, x, n, m)
				var state [4]int
				for i, c := range laid(x) {
					if c.used {
						state[i] = c.key + 1
					}
				}
				if !seen[state] {
					seen[state] = true
					ways = append(ways, steps)
				}
			}
		}
	}
}

// P21.1, P21.2, P21.3
func TestEveryStateOfSmallTables(t *testing.T) {
	for n := 1; n <= 3; n++ {
		homes := make([]int, n+1)
		for range int(math.Pow(float64(n), float64(n+1))) {
			everyState(t, homes, n)
			another(homes, n)
		}
	}
	homes := make([]int, 5)
	for range 1024 {
		if slices.IsSorted(homes) {
			everyState(t, homes, 4)
		}
		another(homes, 4)
	}
}

// walked makes a long row of random calls of a table, and of a map, and holds them against each other.
func walked[K comparable](t *testing.T, r *rand.Rand, n int, keys []K, hash func(K) uint64) {
	t.Helper()
	x, m := New(n, hash), map[K]int{}
	odds := 4
	for i := range 12 * n {
		if i%n == 0 {
			odds = 1 + r.Intn(8)
		}
		k := keys[r.Intn(len(keys))]
		v, there := m[k]
		switch {
		case r.Intn(4) == 0:
			wantGet(t, x, k, v, there)
		case r.Intn(9) < odds:
			v = r.Intn(1000) - 500
			can := there || len(m) < n
			wantPut(t, x, k, v, can)
			if can {
				m[k] = v
			}
		default:
			wantDel(t, x, k, there)
			delete(m, k)
		}
		wantWhole(t, x, n, m)
	}
}

// P21.1, P21.2, P21.3
func TestLongRowsOfCallsTellWhatAMapTells(t *testing.T) {
	r := rand.New(rand.NewSource(7))
	for _, n := range []int{1, 2, 3, 5, 8, 13, 61, 64} {
		keys := make([]int, n+n/2+1)
		for i := range keys {
			keys[i] = r.Int() - r.Int()
		}
		for _, hash := range []func(int) uint64{
			number, tens, always[int](0), always[int](math.MaxUint64),
			func(k int) uint64 { return uint64(k) * 0x9e3779b97f4a7c15 },
			func(k int) uint64 { return uint64(n) - 1 - uint64(k)%3 },
			func(k int) uint64 { return math.MaxUint64 - uint64(k)%4 },
		} {
			walked(t, r, n, keys, hash)
		}
	}
}

// P21.1, P21.2, P21.3
func TestKeysOfManyTypes(t *testing.T) {
	r := rand.New(rand.NewSource(70))
	var texts []string
	var pairs [][2]int16
	var flows []flow
	var bytes []byte
	var links []*int
	var kinds []any
	var floats []float64
	number := map[*int]uint64{}
	for i := range 40 {
		texts = append(texts, strconv.Itoa(i*i))
		pairs = append(pairs, [2]int16{int16(i % 7), int16(-i)})
		flows = append(flows, flow{strconv.Itoa(i % 5), i, i%2 == 0})
		bytes = append(bytes, byte(7*i))
		links = append(links, new(int))
		number[links[i]] = uint64(i / 3)
		floats = append(floats, float64(i-20)/4)
	}
	kinds = append(kinds, nil, 1, "1", int8(1), 1.0, uint(1), true, [1]int{1}, struct{}{}, flow{}, links[0], "", 0, 'a', 2+3i)
	for _, n := range []int{1, 2, 7, 32} {
		walked(t, r, n, texts, words)
		walked(t, r, n, append(texts, ""), always[string](3))
		walked(t, r, n, pairs, func(k [2]int16) uint64 { return uint64(k[0]) })
		walked(t, r, n, flows, func(k flow) uint64 { return words(k.name) + uint64(k.port) })
		walked(t, r, n, bytes, func(k byte) uint64 { return uint64(k) })
		walked(t, r, n, append(links, nil), func(k *int) uint64 { return number[k] })
		walked(t, r, n, kinds, always[any](math.MaxUint64))
		walked(t, r, n, floats, func(k float64) uint64 { return uint64(int(k)) })
		walked(t, r, n, []struct{}{{}}, always[struct{}](9))
		walked(t, r, n, []bool{true, false}, always[bool](1))
	}
}

// flow is a key of several fields.
type flow struct {
	name string
	port int
	back bool
}

// P21.1, P21.2, P21.3
func TestTheGreatestTablesAreFilledAndEmptied(t *testing.T) {
	r := rand.New(rand.NewSource(9))
	for _, n := range []int{255, 256} {
		for _, hash := range []func(int) uint64{number, tens, always[int](0), always[int](math.MaxUint64), func(k int) uint64 { return uint64(k) * 0x9e3779b97f4a7c15 }} {
			rising := make([]int, n)
			for i := range rising {
				rising[i] = i
			}
			falling := slices.Clone(rising)
			slices.Reverse(falling)
			for _, order := range [][]int{rising, falling, r.Perm(n)} {
				x, m := New(n, hash), map[int]int{}
				for _, k := range r.Perm(n) {
					wantPut(t, x, k, 3*k, true)
					m[k] = 3 * k
				}
				wantWhole(t, x, n, m)
				for i, k := range order {
					wantDel(t, x, k, true)
					delete(m, k)
					if i%8 == 0 || n-i < 4 {
						wantWhole(t, x, n, m)
					}
				}
				wantWhole(t, x, n, nil)
			}
		}
	}
}

// P21.2, R5
func TestATableThatNoCallMadeTellsNothing(t *testing.T) {
	wantNothing(t, nil, 1, -1, math.MaxInt)
	wantNothing(t, new(Table[int]), 1, -1, math.MaxInt)
	wantNothing(t, nil, "a", "b")
	wantNothing(t, new(Table[string]), "a", "b")
	wantNothing(t, &Table[flow]{}, flow{"a", 1, true})
	wantNothing(t, nil, any(1), any("a"))
	wantNothing(t, New(0, number), 1, 2)
	wantNothing(t, New[int](4, nil), 1, 2)
	wantNothing(t, New(257, number), 1, 2)
}

// R4
func TestTablesToWhichTheSameCallsWereMadeTellTheSame(t *testing.T) {
	for seed := range int64(40) {
		r := rand.New(rand.NewSource(seed))
		n := 1 + r.Intn(20)
		x, other, y := New(n, tens), New(n, number), New(n, tens)
		for range 200 {
			k, v, put := r.Intn(12*n), r.Intn(9), r.Intn(5) < 3
			was := laid(y)
			var a, b bool
			if put {
				a = x.Put(k, v)
				other.Put(k, v)
				wantSame(t, "calls of other tables", y, was)
				b = y.Put(k, v)
			} else {
				a = x.Del(k)
				other.Del(k)
				wantSame(t, "calls of other tables", y, was)
				b = y.Del(k)
			}
			if a != b {
				t.Errorf("key %d, put %t: %t and %t", k, put, a, b)
			}
			wantSame(t, "the same calls", y, laid(x))
			if x.Len() != y.Len() || x.Home(k) != y.Home(k) {
				t.Errorf("Len %d and %d, Home(%d) %d and %d", x.Len(), y.Len(), k, x.Home(k), y.Home(k))
			}
		}
	}
}

// R4
func TestWhatIsAskedChangesNothing(t *testing.T) {
	x := New(4, tens)
	for _, k := range []int{31, 32, 1} {
		wantPut(t, x, k, k, true)
	}
	was := laid(x)
	for range 3 {
		for k := -2; k < 60; k++ {
			wantHome(t, x, k, int(tens(k)%4))
			v, there := k, k == 31 || k == 32 || k == 1
			if !there {
				v = 0
			}
			wantGet(t, x, k, v, there)
			wantDel(t, x, k+1000, false)
		}
		if x.Len() != 3 || x.Cap() != 4 {
			t.Errorf("Len %d, Cap %d", x.Len(), x.Cap())
		}
		wantSame(t, "what is asked", x, was)
	}
}

// R1
func TestAHashThatPanicsIsNoHomeAndChangesNothing(t *testing.T) {
	for _, with := range []any{nil, 1, "no", &runtime.TypeAssertionError{}} {
		bad := map[int]bool{}
		x := New(4, func(k int) uint64 {
			if bad[k] {
				panic(with)
			}
			return tens(k)
		})
		m := map[int]int{31: 1, 32: 2, 33: 3}
		for _, k := range []int{31, 32, 33} {
			wantPut(t, x, k, m[k], true)
		}
		was := laid(x)
		for _, k := range []int{31, 32, 33, 34, 1} {
			bad[k] = true
			wantHome(t, x, k, 0)
			wantPut(t, x, k, 9, false)
			wantGet(t, x, k, 0, false)
			wantDel(t, x, k, false)
			wantSame(t, "a hash that panics", x, was)
			if x.Len() != 3 || x.Cap() != 4 {
				t.Errorf("Len %d, Cap %d", x.Len(), x.Cap())
			}
		}
		clear(bad)
		wantWhole(t, x, 4, m)
		wantPut(t, x, 1, 4, true)
		m[1] = 4
		wantWhole(t, x, 4, m)
	}
}

// R1, P21.2
func TestAKeyIsTakenOutWhileTheHashPanicsAtOthers(t *testing.T) {
	for _, k := range []int{31, 32, 33, 41} {
		bad := false
		x := New(5, func(of int) uint64 {
			if bad && of != k {
				panic("no")
			}
			return tens(of)
		})
		m := map[int]int{31: 1, 32: 2, 33: 3, 41: 4}
		for _, k := range []int{31, 32, 33, 41} {
			wantPut(t, x, k, m[k], true)
		}
		bad = true
		wantDel(t, x, k, true)
		wantDel(t, x, k, false)
		wantPut(t, x, k, 7, true)
		wantDel(t, x, k, true)
		bad = false
		delete(m, k)
		wantWhole(t, x, 5, m)
	}
}

// R1
func TestAHashThatAnswersAnewEachTimeEndsAndPanicsNot(t *testing.T) {
	r := rand.New(rand.NewSource(3))
	for _, n := range []int{1, 2, 3, 8, 256} {
		x := New(n, func(int) uint64 { return r.Uint64() })
		for range 20 * n {
			k := r.Intn(2 * n)
			switch r.Intn(3) {
			case 0:
				x.Del(k)
			case 1:
				x.Get(k)
			default:
				x.Put(k, k)
			}
			if home := x.Home(k); home < 0 || home >= n {
				t.Fatalf("Home(%d): %d", k, home)
			}
			used := 0
			for _, c := range laid(x) {
				if c.used {
					used++
				}
			}
			if x.Len() != used || x.Cap() != n {
				t.Fatalf("Len %d, Cap %d, want %d, %d", x.Len(), x.Cap(), used, n)
			}
		}
	}
}

// R1, P21.3
func TestAHashMayCallItsTable(t *testing.T) {
	var x *Table[int]
	x = New(3, func(k int) uint64 {
		if k > 100 {
			x.Put(k-100, 1)
			x.Del(k - 200)
		}
		return tens(k % 100)
	})
	wantHome(t, x, 121, 2)
	wantWhole(t, x, 3, map[int]int{21: 1})
	if !x.Put(122, 5) {
		t.Errorf("Put: false")
	}
	for k, want := range map[int]int{21: 1, 22: 1, 122: 5} {
		if got, ok := x.Get(k); !ok || got != want {
			t.Errorf("Get(%d): %d, %t, want %d", k, got, ok, want)
		}
	}
	if x.Len() != 3 || x.Put(123, 5) || x.Len() != 3 {
		t.Errorf("the table is full")
	}
}

// R1
func TestKeysThatCanNotBeHeldAgainstOthersAreNeverThere(t *testing.T) {
	odd := []any{[]int{1}, []int(nil), map[int]int{}, func() {}, [1]any{[]int{1}}, struct{ a any }{[]int{1}}}
	for _, n := range []int{1, 2, 8} {
		x := New(n, always[any](1))
		for _, k := range odd {
			wantHome(t, x, k, 1%n)
			for range 2 {
				if x.Put(k, 7) || x.Del(k) || x.Len() != 0 {
					t.Errorf("a %T was put, or taken out", k)
				}
				if v, ok := x.Get(k); v != 0 || ok {
					t.Errorf("Get of a %T: %d, %t", k, v, ok)
				}
			}
		}
		m := map[any]int{}
		for k := range n {
			wantPut(t, x, any(k), k, true)
			m[k] = k
			for _, k := range odd {
				if v, ok := x.Get(k); v != 0 || ok || x.Put(k, 7) || x.Del(k) {
					t.Errorf("a %T is there", k)
				}
			}
			wantWhole(t, x, n, m)
		}
	}
}

// R1
func TestAKeyThatIsNotEvenEqualToItselfIsNeverFound(t *testing.T) {
	x := New(3, always[float64](2))
	nan := math.NaN()
	for i := range 5 {
		if got := x.Put(nan, i); got != (i < 3) {
			t.Errorf("Put: %t", got)
		}
		if v, ok := x.Get(nan); v != 0 || ok || x.Del(nan) || x.Len() != min(i+1, 3) {
			t.Errorf("Get: %d, %t; Len %d", v, ok, x.Len())
		}
	}
	y := New(2, always[float64](1))
	wantPut(t, y, 0, 5, true)
	wantGet(t, y, math.Copysign(0, -1), 5, true)
	wantPut(t, y, math.Copysign(0, -1), 6, true)
	wantWhole(t, y, 2, map[float64]int{0: 6})
}

// What a key leads to is let go when the key is taken out: nothing is kept that no promise needs.
func TestAKeyThatWasTakenOutIsKeptNoMore(t *testing.T) {
	homes := map[weak.Pointer[[64]byte]]int{}
	x := New(4, func(k *[64]byte) uint64 { return uint64(homes[weak.Make(k)]) })
	var gone []weak.Pointer[[64]byte]
	for i := range 4 {
		k := new([64]byte)
		gone = append(gone, weak.Make(k))
		homes[gone[i]] = 3 * (i % 2)
		if !x.Put(k, i) {
			t.Fatalf("Put: false")
		}
	}
	for i, g := range gone {
		if !x.Del(g.Value()) {
			t.Errorf("Del: false")
		}
		runtime.GC()
		for j, g := range gone {
			if (g.Value() != nil) != (j > i) {
				t.Errorf("behind the Del of key %d: key %d is kept: %t", i, j, g.Value() != nil)
			}
		}
	}
	runtime.KeepAlive(x)
}

// P21.3
func TestWhatWasPutLastIsGotWhateverElseIsPutAndTakenOut(t *testing.T) {
	r := rand.New(rand.NewSource(33))
	for _, n := range []int{2, 3, 16, 256} {
		x, m := New(n, tens), map[int]int{}
		wantPut(t, x, 7, -7, true)
		m[7] = -7
		for i := range 40 * n {
			k := 8 + r.Intn(3*n)
			if r.Intn(2) == 0 {
				if x.Put(k, i) {
					m[k] = i
				}
			} else {
				x.Del(k)
				delete(m, k)
			}
			wantGet(t, x, 7, -7, true)
		}
		wantWhole(t, x, n, maps.Clone(m))
	}
}
