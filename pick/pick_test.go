package pick

import (
	"maps"
	"math"
	"math/big"
	"math/rand"
	"slices"
	"testing"
)

// ones is the number of which each bit is 1.
const ones = math.MaxUint64

// hashes are the ordinary ones and those at the edges: of the lower and of the higher 32 bits, alone and together.
func hashes() []uint64 {
	l := []uint64{
		0, 1, 4294967295, 4294967296, 4294967297, ones,
		2, 3, 6, 7, 249, 250, 251, 252, 65535, 65536, 1<<31 - 1, 1 << 31, 1<<31 + 1, 1<<32 - 2,
		2 << 32, 3 << 32, 250 << 32, 251 << 32, 252 << 32, 250<<32 + 250, 251<<32 + 1, 1<<63 - 1, 1 << 63, 1<<63 + 1, ones - 1, ones - 1<<32, 0xffffffff00000000,
		0x0123456789abcdef, 0xfedcba9876543210, 0x8000000080000000, 0x7fffffff7fffffff, 0x00000002ffffffff,
	}
	r := rand.New(rand.NewSource(18))
	for range 40 {
		l = append(l, r.Uint64())
	}
	return l
}

// nobodies are numbers in slots that are nobody's, also such as would be a backend's modulo 2^8, 2^16, 2^32 or 2^63.
func nobodies() []int {
	return []int{0, -1, math.MinInt, -2, -255, -256, -65535, -65536, 1 - 1<<31, -1 << 31, 1 - 1<<32, -1 << 32, 5 - 1<<32, math.MinInt + 1, math.MinInt + 5}
}

// backends are numbers of backends, also such as would be nobody modulo 2^8, 2^16 or 2^32, or below 0 in fewer bits.
func backends() []int {
	return []int{1, 2, 3, 255, 256, 257, 32768, 65535, 65536, 65537, 1<<31 - 1, 1 << 31, 1<<31 + 1, 1<<32 - 1, 1 << 32, 1<<32 + 1, 1 << 40, math.MaxInt - 1, math.MaxInt}
}

// squares is a table of 251 slots, some of which are nobody's.
func squares() []int {
	l := make([]int, 251)
	for i := range l {
		l[i] = i*i%17 - 3
	}
	return l
}

// drawn tells a table of some numbers, all of them drawn.
func drawn(r *rand.Rand, many int, of []int) []int {
	l := make([]int, many)
	for i := range l {
		l[i] = of[r.Intn(len(of))]
	}
	return l
}

// tables are such of many kinds: of nobody, of one, of two and of many, of 1 to 251 slots and of more.
func tables() [][]int {
	l := [][]int{nil, {}, nobodies(), backends(), squares(), slices.Concat(nobodies(), backends()), slices.Concat(backends(), nobodies(), backends())}
	for _, c := range known() {
		l = append(l, c.table)
	}
	r := rand.New(rand.NewSource(1))
	for _, many := range []int{1, 2, 3, 4, 5, 7, 8, 13, 16, 61, 64, 251, 256, 257, 1000} {
		l = append(l,
			make([]int, many),
			drawn(r, many, nobodies()),
			drawn(r, many, backends()),
			drawn(r, many, []int{7}),
			drawn(r, many, []int{0, -1, math.MinInt, 7}),
			drawn(r, many, []int{1, 2}),
			drawn(r, many, []int{0, 0, 0, 0, -1, 1, 2}),
			drawn(r, many, []int{0, 1, 2, 3, 4, 5, 6, 7, 8, 9, 10, 11, 12, 13, 14, 15, 16}),
			drawn(r, many, slices.Concat(nobodies(), backends())),
		)
		one := make([]int, many)
		one[r.Intn(many)] = 9
		l = append(l, one)
	}
	return l
}

// met tells the backends of a table in the order in which they are met from a slot on, by another way than the program's: the
// slot is reckoned by big numbers, and the table cut there.
func met(table []int, from uint64) []int {
	if len(table) == 0 {
		return nil
	}
	slot := new(big.Int).Mod(new(big.Int).SetUint64(from), big.NewInt(int64(len(table)))).Int64()
	return slices.DeleteFunc(slices.Concat(table[slot:], table[:slot]), func(n int) bool { return n < 1 })
}

// twoBy tells what Two should, by another way than the program's.
func twoBy(table []int, hash uint64) (int, int) {
	l := met(table, hash)
	if len(l) == 0 {
		return 0, 0
	}
	first := l[0]
	l = slices.DeleteFunc(met(table, hash/4294967296), func(n int) bool { return n == first })
	return first, append(l, 0)[0]
}

// nodesBy tells what Nodes should, by another way than the program's: each number is the least that is greater than the one ahead.
func nodesBy(table []int) []int {
	var l []int
	for last := 0; last < math.MaxInt; {
		next, found := 0, false
		for _, n := range table {
			if n > last && (!found || n < next) {
				next, found = n, true
			}
		}
		if !found {
			break
		}
		l = append(l, next)
		last = next
	}
	return l
}

func wantTwo(t *testing.T, table []int, hash uint64, first, second int) {
	t.Helper()
	if a, b := Two(table, hash); a != first || b != second {
		t.Errorf("Two(%d, %#x): %d, %d, want %d, %d", table, hash, a, b, first, second)
	}
}

func wantNodes(t *testing.T, table []int, want []int) {
	t.Helper()
	if got := Nodes(table); !slices.Equal(got, want) {
		t.Errorf("Nodes(%d): %d, want %d", table, got, want)
	}
}

func wantHas(t *testing.T, table []int, node int, want bool) {
	t.Helper()
	if got := Has(table, node); got != want {
		t.Errorf("Has(%d, %d): %t", table, node, got)
	}
}

// P18.1

// chosen is a table, and of each of the seven hashes of TestKnownTables the first and the second backend.
type chosen struct {
	table []int
	two   []int
}

// known are tables of which another program told what is chosen.
func known() []chosen {
	return []chosen{
		{[]int{0}, []int{0, 0, 0, 0, 0, 0, 0, 0, 0, 0, 0, 0, 0, 0}},
		{[]int{-1}, []int{0, 0, 0, 0, 0, 0, 0, 0, 0, 0, 0, 0, 0, 0}},
		{[]int{7}, []int{7, 0, 7, 0, 7, 0, 7, 0, 7, 0, 7, 0, 7, 0}},
		{[]int{math.MinInt}, []int{0, 0, 0, 0, 0, 0, 0, 0, 0, 0, 0, 0, 0, 0}},
		{[]int{math.MaxInt}, []int{math.MaxInt, 0, math.MaxInt, 0, math.MaxInt, 0, math.MaxInt, 0, math.MaxInt, 0, math.MaxInt, 0, math.MaxInt, 0}},
		{[]int{0, 0}, []int{0, 0, 0, 0, 0, 0, 0, 0, 0, 0, 0, 0, 0, 0}},
		{[]int{1, 0}, []int{1, 0, 1, 0, 1, 0, 1, 0, 1, 0, 1, 0, 1, 0}},
		{[]int{0, 1}, []int{1, 0, 1, 0, 1, 0, 1, 0, 1, 0, 1, 0, 1, 0}},
		{[]int{1, 1}, []int{1, 0, 1, 0, 1, 0, 1, 0, 1, 0, 1, 0, 1, 0}},
		{[]int{1, 2}, []int{1, 2, 2, 1, 1, 2, 2, 1, 1, 2, 2, 1, 2, 1}},
		{[]int{2, 1}, []int{2, 1, 1, 2, 2, 1, 1, 2, 2, 1, 1, 2, 1, 2}},
		{[]int{-1, 2}, []int{2, 0, 2, 0, 2, 0, 2, 0, 2, 0, 2, 0, 2, 0}},
		{[]int{math.MinInt, 2}, []int{2, 0, 2, 0, 2, 0, 2, 0, 2, 0, 2, 0, 2, 0}},
		{[]int{2, math.MinInt}, []int{2, 0, 2, 0, 2, 0, 2, 0, 2, 0, 2, 0, 2, 0}},
		{[]int{0, 0, 0}, []int{0, 0, 0, 0, 0, 0, 0, 0, 0, 0, 0, 0, 0, 0}},
		{[]int{0, -1, math.MinInt}, []int{0, 0, 0, 0, 0, 0, 0, 0, 0, 0, 0, 0, 0, 0}},
		{[]int{3, 3, 5}, []int{3, 5, 3, 5, 5, 3, 3, 5, 3, 5, 5, 3, 3, 5}},
		{[]int{3, 5, 3}, []int{3, 5, 5, 3, 3, 5, 3, 5, 5, 3, 3, 5, 3, 5}},
		{[]int{5, 3, 3}, []int{5, 3, 3, 5, 3, 5, 5, 3, 3, 5, 3, 5, 5, 3}},
		{[]int{0, 7, 0}, []int{7, 0, 7, 0, 7, 0, 7, 0, 7, 0, 7, 0, 7, 0}},
		{[]int{7, 0, 8}, []int{7, 8, 8, 7, 8, 7, 7, 8, 8, 7, 8, 7, 7, 8}},
		{[]int{0, 7, 8}, []int{7, 8, 7, 8, 8, 7, 7, 8, 7, 8, 8, 7, 7, 8}},
		{[]int{8, 0, 7}, []int{8, 7, 7, 8, 7, 8, 8, 7, 7, 8, 7, 8, 8, 7}},
		{[]int{-1, 7, -1}, []int{7, 0, 7, 0, 7, 0, 7, 0, 7, 0, 7, 0, 7, 0}},
		{[]int{math.MinInt, 1, 2}, []int{1, 2, 1, 2, 2, 1, 1, 2, 1, 2, 2, 1, 1, 2}},
		{[]int{1, math.MinInt, 2}, []int{1, 2, 2, 1, 2, 1, 1, 2, 2, 1, 2, 1, 1, 2}},
		{[]int{1, 2, math.MinInt}, []int{1, 2, 2, 1, 1, 2, 1, 2, 2, 1, 1, 2, 1, 2}},
		{[]int{9, 8, 7}, []int{9, 8, 8, 9, 7, 9, 9, 8, 8, 7, 7, 8, 9, 8}},
		{[]int{1, 1, 2, 2, 3, 3, 4}, []int{1, 2, 1, 2, 2, 1, 2, 1, 3, 1, 3, 1, 1, 2}},
		{[]int{0, 0, 0, 0, 0, 0, 5}, []int{5, 0, 5, 0, 5, 0, 5, 0, 5, 0, 5, 0, 5, 0}},
		{[]int{5, 0, 0, 0, 0, 0, 0}, []int{5, 0, 5, 0, 5, 0, 5, 0, 5, 0, 5, 0, 5, 0}},
		{[]int{0, 0, 5, 0, 6, 0, 0}, []int{5, 6, 5, 6, 5, 6, 6, 5, 6, 5, 5, 6, 5, 6}},
		{[]int{6, -1, -1, math.MinInt, 5, 0, 0}, []int{6, 5, 5, 6, 5, 6, 5, 6, 5, 6, 6, 5, 5, 6}},
		{[]int{4, 4, 4, 4, 4, 4, 4}, []int{4, 0, 4, 0, 4, 0, 4, 0, 4, 0, 4, 0, 4, 0}},
		{[]int{1, 0, 2, -1, 3, math.MinInt, 4}, []int{1, 2, 2, 1, 2, 1, 3, 1, 3, 2, 4, 2, 2, 3}},
		{[]int{7, 6, 5, 4, 3, 2, 1}, []int{7, 6, 6, 7, 5, 7, 4, 7, 3, 6, 2, 6, 6, 4}},
	}
}

func TestKnownTables(t *testing.T) {
	for _, c := range known() {
		for i, hash := range []uint64{0, 1, 2, 4294967295, 4294967296, 4294967297, ones} {
			wantTwo(t, c.table, hash, c.two[2*i], c.two[2*i+1])
		}
	}
}

func TestExample(t *testing.T) {
	wantTwo(t, []int{3, 3, 5}, 1, 3, 5)
}

// What another program told of a table of 251 slots: 2^32 is 123 modulo 251, and the higher 32 bits lead elsewhere than the whole.
func TestKnownOf251(t *testing.T) {
	for _, c := range []struct {
		hash          uint64
		first, second int
	}{
		{0, 1, 6},
		{1, 1, 6},
		{2, 1, 6},
		{4, 13, 1},
		{250, 5, 1},
		{251, 1, 6},
		{4294967295, 6, 1},
		{4294967296, 13, 1},
		{4294967297, 5, 1},
		{250 << 32, 10, 5},
		{251 << 32, 1, 6},
		{250<<32 + 250, 10, 5},
		{4<<32 + 4, 12, 13},
		{8<<32 + 9, 1, 10},
		{3<<32 + 248, 13, 6},
		{249<<32 + 1, 12, 5},
		{1 << 63, 12, 1},
		{1<<63 - 1, 12, 1},
		{0x0123456789abcdef, 1, 12},
		{0xfedcba9876543210, 1, 12},
		{0xffffffff00000000, 12, 6},
		{ones, 1, 6},
	} {
		wantTwo(t, squares(), c.hash, c.first, c.second)
	}
}

func TestTwoOfNoSlots(t *testing.T) {
	for _, hash := range hashes() {
		wantTwo(t, nil, hash, 0, 0)
		wantTwo(t, []int{}, hash, 0, 0)
	}
}

func TestTwoOfNobody(t *testing.T) {
	for _, many := range []int{1, 2, 3, 7, 61, 251} {
		for _, n := range nobodies() {
			for _, hash := range hashes() {
				wantTwo(t, slices.Repeat([]int{n}, many), hash, 0, 0)
			}
		}
	}
	for _, hash := range hashes() {
		wantTwo(t, nobodies(), hash, 0, 0)
	}
}

// One backend alone is the first, wherever it stands, and there is no second.
func TestTwoOfOne(t *testing.T) {
	for _, many := range []int{1, 2, 3, 7, 61} {
		for place := range many {
			for i, n := range backends() {
				table := slices.Repeat([]int{nobodies()[i%len(nobodies())]}, many)
				table[place] = n
				for _, hash := range hashes() {
					wantTwo(t, table, hash, n, 0)
					wantTwo(t, slices.Repeat([]int{n}, many), hash, n, 0)
				}
			}
		}
	}
}

// A table of seven slots, gone over from each one on: 2^32 is 4 modulo 7.
func TestFromEachSlot(t *testing.T) {
	table := []int{1, 2, 3, 4, 5, 6, 7}
	for whole := range 7 {
		for high := range 7 {
			// What the higher 32 bits add is 4 of each, and with 3 in the lower ones it is nothing.
			hash := uint64(high)<<32 + uint64((whole+3*high)%7)
			if high == whole {
				wantTwo(t, table, hash, whole+1, (high+1)%7+1)
			} else {
				wantTwo(t, table, hash, whole+1, high+1)
			}
		}
	}
}

// Nobody's slots where the looking begins, in the midst of it, and on the way round behind the last slot.
func TestNobodyOnTheWay(t *testing.T) {
	for _, n := range nobodies() {
		// The first one's looking begins at slot 2, the second one's at slot 5.
		const hash = 5<<32 + 3
		wantTwo(t, []int{1, 2, 3, 4, 5, 6, 7}, hash, 3, 6)
		wantTwo(t, []int{1, 2, n, 4, 5, n, 7}, hash, 4, 7)
		wantTwo(t, []int{1, 2, n, n, 5, n, 7}, hash, 5, 7)
		wantTwo(t, []int{1, 2, 3, 4, 5, n, 3}, hash, 3, 1)
		wantTwo(t, []int{1, 2, 3, 4, 5, n, n}, hash, 3, 1)
		wantTwo(t, []int{n, 2, 3, 4, 5, n, n}, hash, 3, 2)
		wantTwo(t, []int{n, 3, 3, 4, 5, n, n}, hash, 3, 4)
		wantTwo(t, []int{n, n, n, 4, 5, n, n}, hash, 4, 5)
		wantTwo(t, []int{n, n, 3, n, 5, n, n}, hash, 3, 5)
		wantTwo(t, []int{1, n, n, n, n, n, n}, hash, 1, 0)
		wantTwo(t, []int{1, 2, n, n, n, n, n}, hash, 1, 2)
		wantTwo(t, []int{n, 2, n, n, n, n, n}, hash, 2, 0)
		wantTwo(t, []int{n, 2, n, n, 4, n, n}, hash, 4, 2)
	}
}

// The first backend stands at the slot ahead of the one where the looking begins: all slots are gone over.
func TestAheadOfTheBeginning(t *testing.T) {
	for _, many := range []int{2, 3, 7, 61, 251} {
		for start := range many {
			for _, n := range nobodies()[:3] {
				table := slices.Repeat([]int{n}, many)
				ahead := (start + many - 1) % many
				table[ahead] = 8
				hash := uint64(start)
				wantTwo(t, table, hash, 8, 0)
				// The second one at the slot ahead of the one where its looking begins.
				hash = uint64(start) << 32
				first := int(hash % uint64(many))
				table = slices.Repeat([]int{n}, many)
				table[first] = 5
				if first != ahead {
					table[ahead] = 9
					wantTwo(t, table, hash, 5, 9)
				}
				table = slices.Repeat([]int{5}, many)
				table[ahead] = 9
				if first == ahead {
					wantTwo(t, table, hash, 9, 5)
				} else {
					wantTwo(t, table, hash, 5, 9)
				}
			}
		}
	}
}

// The second one's looking begins at slots of the first backend, and goes over them.
func TestSecondBeginsAtFirst(t *testing.T) {
	for _, high := range []uint64{0, 7, 7 * 1000, 4294967290} {
		from := int(high % 7)
		table := []int{4, 4, 4, 4, 4, 4, 4}
		for i := 6; i > 0; i-- {
			table[(from+i)%7] = i + 10
			first, second := twoBy(table, high<<32)
			wantTwo(t, table, high<<32, first, second)
			if first == 4 && second != i+10 || first != 4 && second != 4 {
				t.Errorf("of %d, from slot %d on: %d, %d", table, from, first, second)
			}
		}
	}
	wantTwo(t, []int{4, 4, 4, 6, 4, 4, 5}, 0, 4, 6)
	wantTwo(t, []int{4, 4, 4, 0, 4, 4, 5}, 0, 4, 5)
	wantTwo(t, []int{4, 4, 6, 4, 4, 4, 4}, 3<<32, 4, 6)
}

// The higher 32 bits alone say where the second one's looking begins, the whole hash where the first one's does.
func TestHalves(t *testing.T) {
	table := make([]int, 251)
	for i := range table {
		table[i] = i + 1
	}
	for _, low := range []uint64{0, 1, 250, 251, 1 << 31, 1<<32 - 1} {
		for _, high := range []uint64{0, 1, 250, 251, 1 << 31, 1<<32 - 1} {
			first := int((high%251*123+low%251)%251) + 1
			second := int(high%251) + 1
			if second == first {
				second = second%251 + 1
			}
			wantTwo(t, table, high<<32+low, first, second)
		}
	}
}

func TestTwoByAnotherWay(t *testing.T) {
	for _, table := range tables() {
		for _, hash := range hashes() {
			first, second := twoBy(table, hash)
			wantTwo(t, table, hash, first, second)
		}
	}
}

// All tables of up to 5 slots, of nobody and three backends.
func TestAllSmallTables(t *testing.T) {
	for many := range 6 {
		table := make([]int, many)
		for n := range 1 << (2 * many) {
			for i := range table {
				table[i] = n >> (2 * i) & 3
			}
			for a := range uint64(many + 1) {
				for b := range uint64(many + 1) {
					first, second := twoBy(table, b<<32+a)
					wantTwo(t, table, b<<32+a, first, second)
				}
			}
		}
	}
}

// P18.2

func TestKnownNodes(t *testing.T) {
	for _, c := range []struct{ table, want []int }{
		{nil, nil},
		{[]int{}, nil},
		{[]int{0}, nil},
		{[]int{-1}, nil},
		{[]int{math.MinInt}, nil},
		{[]int{0, -1, math.MinInt, 0}, nil},
		{nobodies(), nil},
		{[]int{1}, []int{1}},
		{[]int{math.MaxInt}, []int{math.MaxInt}},
		{[]int{9, 0, 2, 9, -1}, []int{2, 9}},
		{[]int{9, 8, 7, 6, 5, 4, 3, 2, 1, 0, -1}, []int{1, 2, 3, 4, 5, 6, 7, 8, 9}},
		{[]int{1, 2, 3, 4, 5}, []int{1, 2, 3, 4, 5}},
		{[]int{7, 7, 7, 7, 7, 7, 7}, []int{7}},
		{[]int{math.MaxInt, 1, math.MaxInt, math.MinInt, 1}, []int{1, math.MaxInt}},
		{[]int{10, 9, 100, 11, 2, 20, 1}, []int{1, 2, 9, 10, 11, 20, 100}},
		{[]int{1, 1, 2, 2, 1, 1}, []int{1, 2}},
		{[]int{0, 0, 3}, []int{3}},
		{[]int{3, 0, 0}, []int{3}},
		{[]int{257, 1, 65537, 1<<32 + 1}, []int{1, 257, 65537, 1<<32 + 1}},
		{[]int{1 << 32, 65536, 256}, []int{256, 65536, 1 << 32}},
		{squares(), []int{1, 5, 6, 10, 12, 13}},
		{backends(), backends()},
	} {
		wantNodes(t, c.table, c.want)
		for _, n := range c.want {
			wantHas(t, c.table, n, true)
		}
	}
}

func TestNodesByAnotherWay(t *testing.T) {
	for _, table := range tables() {
		wantNodes(t, table, nodesBy(table))
		other := slices.Clone(table)
		slices.Reverse(other)
		wantNodes(t, other, nodesBy(table))
		slices.Sort(other)
		wantNodes(t, other, nodesBy(table))
		wantNodes(t, slices.Concat(other, table), nodesBy(table))
	}
}

// Of a backend in each slot, all, in whatever order they stand; that of a map's going through is seen in no answer.
func TestNodesOfMany(t *testing.T) {
	r := rand.New(rand.NewSource(2))
	for _, many := range []int{2, 3, 7, 61, 251, 5000} {
		want := make([]int, many)
		for i := range want {
			want[i] = i + 1
		}
		for range 10 {
			table := slices.Clone(want)
			r.Shuffle(many, func(i, j int) { table[i], table[j] = table[j], table[i] })
			wantNodes(t, table, want)
		}
	}
}

func TestKnownHas(t *testing.T) {
	table := []int{5, 0, -1, math.MinInt, 9, 5, math.MaxInt, 65537}
	for _, n := range []int{5, 9, math.MaxInt, 65537} {
		wantHas(t, table, n, true)
	}
	for _, n := range []int{0, -1, math.MinInt, 1, 4, 6, 8, 10, -5, -9, 65536, 65538, 1<<32 + 5, 256 + 9, math.MaxInt - 1, math.MinInt + 1, math.MinInt + 5} {
		wantHas(t, table, n, false)
	}
}

// No number of 0 and below is a backend, also where it stands in a slot.
func TestNobodyIsNoBackend(t *testing.T) {
	for _, n := range nobodies() {
		wantHas(t, nil, n, false)
		wantHas(t, []int{}, n, false)
		for _, table := range [][]int{{n}, {n, n, n}, {1, n}, {n, 1}, {n, 2, n}, nobodies()} {
			wantHas(t, table, n, false)
		}
	}
}

// A backend is found in each slot; in none of an empty table.
func TestHasInEachSlot(t *testing.T) {
	for _, n := range backends() {
		wantHas(t, nil, n, false)
		wantHas(t, []int{}, n, false)
		for _, many := range []int{1, 2, 3, 7, 251} {
			wantHas(t, make([]int, many), n, false)
			for place := range many {
				table := make([]int, many)
				table[place] = n
				wantHas(t, table, n, true)
				wantHas(t, table, n-1, false)
				if n < math.MaxInt {
					wantHas(t, table, n+1, false)
				}
			}
		}
	}
}

func TestHasByAnotherWay(t *testing.T) {
	numbers := slices.Concat(nobodies(), backends(), []int{4, 5, 6, 7, 8, 9, 10, 11, 12, 13, 14, 15, 16, 17})
	for _, table := range tables() {
		in := map[int]int{}
		for _, n := range nodesBy(table) {
			in[n]++
		}
		for _, n := range numbers {
			wantHas(t, table, n, in[n] == 1)
		}
		for n := range maps.Keys(in) {
			wantHas(t, table, n, true)
		}
	}
}

// P18.3

func TestBothAreBackends(t *testing.T) {
	r := rand.New(rand.NewSource(3))
	for _, table := range tables() {
		many := len(nodesBy(table))
		for _, hash := range append(hashes(), r.Uint64(), r.Uint64(), r.Uint64()) {
			a, b := Two(table, hash)
			if (a != 0) != (many > 0) || (b != 0) != (many > 1) {
				t.Errorf("of %d, %#x: %d, %d, of %d backends", table, hash, a, b, many)
			}
			if a != 0 && !Has(table, a) || b != 0 && !Has(table, b) || a == b && a != 0 {
				t.Errorf("of %d, %#x: %d, %d", table, hash, a, b)
			}
		}
	}
}

// Of two backends both are chosen for each hash; which one is first hangs on the hash.
func TestBothOfTwo(t *testing.T) {
	r := rand.New(rand.NewSource(4))
	for _, table := range [][]int{{1, 2}, {1, 2, 0}, {0, 0, 2, 0, 0, 1, 0}, slices.Concat(make([]int, 249), []int{1, 2}), drawn(r, 251, []int{1, 2})} {
		ahead := map[int]int{}
		for range 2000 {
			a, b := Two(table, r.Uint64())
			if a+b != 3 || a*b != 2 {
				t.Errorf("of %d: %d, %d", table, a, b)
			}
			ahead[a]++
		}
		if ahead[1] == 0 || ahead[2] == 0 {
			t.Errorf("of %d: how often each one is first: %v", table, ahead)
		}
	}
}

// Of many backends each is chosen first, and second, by some hash.
func TestEachIsChosen(t *testing.T) {
	r := rand.New(rand.NewSource(5))
	table := make([]int, 61)
	for i := range table {
		table[i] = i%16 + 1
	}
	first, second := map[int]int{}, map[int]int{}
	for range 5000 {
		a, b := Two(table, r.Uint64())
		first[a]++
		second[b]++
	}
	for n := 1; n <= 16; n++ {
		if first[n] < 100 || second[n] < 100 {
			t.Errorf("%d is first for %d hashes, second for %d", n, first[n], second[n])
		}
	}
}

// R1: no call panics, whatever it is given.
func TestWhateverIsGiven(t *testing.T) {
	numbers := slices.Concat(nobodies(), backends())
	for _, a := range numbers {
		for _, b := range numbers {
			for _, table := range [][]int{{a}, {a, b}, {b, a, b}, {a, 0, b, 1, a, a, b}} {
				wantNodes(t, table, nodesBy(table))
				wantHas(t, table, a, a > 0)
				for _, hash := range []uint64{uint64(a), uint64(b), uint64(a) << 32, uint64(a) * uint64(b)} {
					first, second := twoBy(table, hash)
					wantTwo(t, table, hash, first, second)
				}
			}
		}
	}
}

// A long table, of nobody but at its end, of one backend, and of another in each slot, takes no long time.
func TestLongTables(t *testing.T) {
	const many = 1000000
	table := make([]int, many)
	wantTwo(t, table, ones, 0, 0)
	wantNodes(t, table, nil)
	table[many-1] = 3
	wantTwo(t, table, 0, 3, 0)
	wantHas(t, table, 3, true)
	wantNodes(t, table, []int{3})
	for i := range table {
		table[i] = many - i
	}
	wantTwo(t, table, 8589934597, 65403, 999998)
	nodes := Nodes(table)
	if len(nodes) != many || nodes[0] != 1 || nodes[many-1] != many || !slices.IsSorted(nodes) {
		t.Errorf("%d backends of a long table", len(nodes))
	}
}

// R3: what is handed in stays as it was, with the room behind it, and that room does not count.
func TestTableStays(t *testing.T) {
	behind := []int{8, 0, -1, 900, math.MaxInt, 1, 2, 3}
	for _, table := range tables() {
		whole := slices.Concat(behind, table, behind)
		was := slices.Clone(whole)
		list := whole[len(behind) : len(behind)+len(table)]
		for _, hash := range hashes()[:12] {
			first, second := twoBy(table, hash)
			wantTwo(t, list, hash, first, second)
		}
		nodes := Nodes(list)
		for i := range nodes[:cap(nodes)] {
			nodes[:cap(nodes)][i] = -7
		}
		wantNodes(t, list, nodesBy(table))
		for _, n := range behind {
			wantHas(t, list, n, n > 0 && slices.Contains(table, n))
		}
		if !slices.Equal(whole, was) {
			t.Errorf("%d, or what lies around it, changed to %d", table, whole)
		}
	}
}

// R3, R4: asked again, Nodes tells what it told, also if that was changed meanwhile, with the room behind it; no two answers share any.
func TestAskedAgain(t *testing.T) {
	for _, table := range tables() {
		nodes, again := Nodes(table), Nodes(table)
		was := slices.Clone(nodes)
		whole := nodes[:cap(nodes)]
		for i := range whole {
			whole[i] = -5
		}
		if !slices.Equal(again, was) {
			t.Errorf("Nodes(%d) shares what it told", table)
		}
		wantNodes(t, table, was)
		for _, hash := range hashes() {
			first, second := Two(table, hash)
			wantTwo(t, table, hash, first, second)
		}
	}
}

// What was handed in is not kept: a table that changed behind a call is another to the next one, and changes nothing that was told.
func TestTablesThatChange(t *testing.T) {
	table := []int{4, 5, 6}
	nodes := Nodes(table)
	wantTwo(t, table, 0, 4, 5)
	for i := range table {
		table[i] += 10
	}
	wantTwo(t, table, 0, 14, 15)
	wantHas(t, table, 4, false)
	wantHas(t, table, 14, true)
	wantNodes(t, table, []int{14, 15, 16})
	if !slices.Equal(nodes, []int{4, 5, 6}) {
		t.Errorf("what was told changed with the table to %d", nodes)
	}
	table[0], table[1] = 0, -1
	wantTwo(t, table, 0, 16, 0)
	wantNodes(t, table, []int{16})
}

// What was asked between changes nothing.
func TestAskedInAnotherOrder(t *testing.T) {
	type told struct {
		first, second int
		nodes         []int
	}
	var l []told
	all, some := tables(), hashes()
	for i, table := range all {
		first, second := Two(table, some[i%len(some)])
		l = append(l, told{first, second, Nodes(table)})
	}
	for i := len(all) - 1; i >= 0; i-- {
		wantTwo(t, nil, some[i%len(some)], 0, 0)
		wantTwo(t, all[i], some[i%len(some)], l[i].first, l[i].second)
		wantNodes(t, all[i], l[i].nodes)
	}
}

func TestNilAndEmptyAreTheSame(t *testing.T) {
	if len(Nodes(nil)) != 0 || len(Nodes([]int{})) != 0 {
		t.Errorf("of nothing: %d, %d", Nodes(nil), Nodes([]int{}))
	}
	for _, n := range slices.Concat(nobodies(), backends()) {
		wantHas(t, nil, n, Has([]int{}, n))
	}
	for _, hash := range hashes() {
		first, second := Two([]int{}, hash)
		wantTwo(t, nil, hash, first, second)
	}
}
