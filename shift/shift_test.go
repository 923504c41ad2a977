package shift

import (
	"math"
	"math/big"
	"math/rand"
	"slices"
	"testing"
)

// ones is the number of which each bit is 1.
const ones = math.MaxUint64

// hashes are those at the edges, and ordinary ones.
func hashes() []uint64 {
	l := []uint64{0, 1, 2, 3, 4294967295, 4294967296, 4294967297, 2 << 32, 3<<32 + 1, 60, 61, 250, 251, 252, 1<<63 - 1, 1 << 63, ones - 1, ones}
	return append(l, spread(20)...)
}

// spread tells many hashes that lie far from each other.
func spread(many int) []uint64 {
	l := make([]uint64, many)
	for i := range l {
		l[i] = uint64(i) * 0x9e3779b97f4a7c15
	}
	return l
}

// nobodies are numbers in slots that are nobody's, also such as would be a backend's modulo 2^8, 2^16, 2^32 or 2^63.
func nobodies() []int {
	return []int{0, -1, math.MinInt, -2, -255, -256, -65535, -65536, 1 - 1<<31, -1 << 31, 1 - 1<<32, -1 << 32, 5 - 1<<32, math.MinInt + 1, math.MinInt + 5}
}

// backends are numbers of backends, also such as would be nobody modulo 2^8, 2^16 or 2^32, or below 0 in fewer bits.
func backends() []int {
	return []int{1, 2, 3, 255, 256, 257, 32768, 65535, 65536, 65537, 1<<31 - 1, 1 << 31, 1<<31 + 1, 1<<32 - 1, 1 << 32, 1<<32 + 1, 1 << 40, math.MaxInt - 1, math.MaxInt}
}

// squares is a table of 251 slots, some of which are nobody's.
func squares() []int {
	l := make([]int, 251)
	for i := range l {
		l[i] = i*i%17 - 3
	}
	return l
}

// thirds is squares with another number in some of the slots that 3 divides.
func thirds() []int {
	l := squares()
	for i := 0; i < len(l); i += 3 {
		l[i] = i*7%12 - 1
	}
	return l
}

// drawn tells a table of some numbers, all of them drawn.
func drawn(r *rand.Rand, many int, of []int) []int {
	l := make([]int, many)
	for i := range l {
		l[i] = of[r.Intn(len(of))]
	}
	return l
}

// tables are such of many kinds: of nobody, of one, of two and of many, of no slot to some hundreds.
func tables() [][]int {
	l := [][]int{nil, {}, nobodies(), backends(), squares(), thirds(), slices.Concat(nobodies(), backends())}
	r := rand.New(rand.NewSource(19))
	for _, many := range []int{1, 2, 3, 5, 13, 61, 251, 256} {
		l = append(l,
			make([]int, many),
			drawn(r, many, nobodies()),
			drawn(r, many, backends()),
			slices.Repeat([]int{7}, many),
			drawn(r, many, []int{0, 0, 0, -1, 1, 2}),
			drawn(r, many, []int{1, 2, 3, 4}),
		)
	}
	return l
}

// at tells what stands in a slot, and whether the table has the slot.
func at(table []int, slot int) (int, bool) {
	if slot < len(table) {
		return table[slot], true
	}
	return 0, false
}

// movedBy tells what Moved should, by another way than the program's.
func movedBy(was, is []int) int {
	n := 0
	for slot := range len(was) + len(is) {
		a, hadIt := at(was, slot)
		b, hasIt := at(is, slot)
		if hadIt != hasIt || a != b {
			n++
		}
	}
	return n
}

// rowsBy tells what Rows should, by another way than the program's: the numbers are put in order, and each is counted for itself.
func rowsBy(was, is []int) []Row {
	numbers := slices.Concat(was, is)
	slices.Sort(numbers)
	var l []Row
	for _, node := range slices.Compact(numbers) {
		if node < 1 {
			continue
		}
		row := Row{Node: node}
		for slot := range max(len(was), len(is)) {
			a, hadIt := at(was, slot)
			b, hasIt := at(is, slot)
			hadIt, hasIt = hadIt && a == node, hasIt && b == node
			if hadIt {
				row.Had++
			}
			if hasIt {
				row.Has++
			}
			if hadIt && hasIt {
				row.Kept++
			}
		}
		l = append(l, row)
	}
	return l
}

// met tells the backends of a table in the order in which they are met from a slot on, which is reckoned by big numbers.
func met(table []int, from uint64) []int {
	if len(table) == 0 {
		return nil
	}
	slot := new(big.Int).Mod(new(big.Int).SetUint64(from), big.NewInt(int64(len(table)))).Int64()
	return slices.DeleteFunc(slices.Concat(table[slot:], table[:slot]), func(n int) bool { return n < 1 })
}

// chosen tells the two backends of a table for a hash, without package pick.
func chosen(table []int, hash uint64) []int {
	l := met(table, hash)
	if len(l) == 0 {
		return []int{0, 0}
	}
	first := l[0]
	l = slices.DeleteFunc(met(table, hash/4294967296), func(n int) bool { return n == first })
	return []int{first, append(l, 0)[0]}
}

// turnedBy tells what Turned should, by another way than the program's.
func turnedBy(was, is []int, hashes []uint64) int {
	return len(slices.DeleteFunc(slices.Clone(hashes), func(h uint64) bool { return slices.Equal(chosen(was, h), chosen(is, h)) }))
}

func wantMoved(t *testing.T, was, is []int, want int) {
	t.Helper()
	if got := Moved(was, is); got != want {
		t.Errorf("Moved(%d, %d): %d, want %d", was, is, got, want)
	}
}

func wantRows(t *testing.T, was, is []int, want []Row) {
	t.Helper()
	if got := Rows(was, is); !slices.Equal(got, want) {
		t.Errorf("Rows(%d, %d): %d, want %d", was, is, got, want)
	}
}

func wantTurned(t *testing.T, was, is []int, hashes []uint64, want int) {
	t.Helper()
	if got := Turned(was, is, hashes); got != want {
		t.Errorf("Turned(%d, %d, %#x): %d, want %d", was, is, hashes, got, want)
	}
}

// wantAll wants of two tables what the other way tells.
func wantAll(t *testing.T, was, is []int, hashes []uint64) {
	t.Helper()
	wantMoved(t, was, is, movedBy(was, is))
	wantRows(t, was, is, rowsBy(was, is))
	wantTurned(t, was, is, hashes, turnedBy(was, is, hashes))
}

// change is one table that takes the place of another, and what another program told of it; turned is of the hashes of someHashes.
type change struct {
	was, is []int
	moved   int
	rows    []Row
	turned  int
}

func someHashes() []uint64 {
	return []uint64{0, 1, 2, 4294967295, 4294967296, 4294967297, ones}
}

func known() []change {
	return slices.Concat(knownOfNobody(), knownOfSame(), knownOfOthers())
}

// knownOfNobody are changes with a table that has no slot, or no backend.
func knownOfNobody() []change {
	return []change{
		{nil, nil, 0, nil, 0},
		{nil, []int{}, 0, nil, 0},
		{[]int{}, []int{}, 0, nil, 0},
		{nil, []int{0}, 1, nil, 0},
		{[]int{0}, nil, 1, nil, 0},
		{[]int{}, []int{5}, 1, []Row{{5, 0, 1, 0}}, 7},
		{[]int{5}, []int{}, 1, []Row{{5, 1, 0, 0}}, 7},
		{nil, []int{0, -1, math.MinInt}, 3, nil, 0},
		{[]int{0, -1, math.MinInt}, nil, 3, nil, 0},
		{[]int{5}, []int{0}, 1, []Row{{5, 1, 0, 0}}, 7},
		{[]int{0}, []int{5}, 1, []Row{{5, 0, 1, 0}}, 7},
		{[]int{0}, []int{0}, 0, nil, 0},
		{[]int{0}, []int{-1}, 1, nil, 0},
		{[]int{-1}, []int{0}, 1, nil, 0},
		{[]int{-1}, []int{-1}, 0, nil, 0},
		{[]int{math.MinInt}, []int{math.MinInt}, 0, nil, 0},
		{[]int{math.MinInt}, []int{0}, 1, nil, 0},
		{[]int{math.MinInt}, []int{-1}, 1, nil, 0},
		{[]int{0, -1, math.MinInt}, []int{0, -1, math.MinInt}, 0, nil, 0},
		{[]int{0, -1, math.MinInt}, []int{-1, math.MinInt, 0}, 3, nil, 0},
		{[]int{0, 0}, []int{0, math.MinInt}, 1, nil, 0},
		{[]int{5, 6}, []int{0, 0}, 2, []Row{{5, 1, 0, 0}, {6, 1, 0, 0}}, 7},
	}
}

// knownOfSame are changes at which the backends stay, at most in other slots.
func knownOfSame() []change {
	return []change{
		{[]int{5}, []int{5}, 0, []Row{{5, 1, 1, 1}}, 0},
		{[]int{1, 1, 2}, []int{1, 2, 2}, 1, []Row{{1, 2, 1, 1}, {2, 1, 2, 1}}, 2},
		{[]int{1, 1, 2, 0}, []int{1, 2, 2}, 2, []Row{{1, 2, 1, 1}, {2, 1, 2, 1}}, 3},
		{[]int{1, 2, 2}, []int{1, 1, 2, 0}, 2, []Row{{1, 1, 2, 1}, {2, 2, 1, 1}}, 3},
		{[]int{1, 1, 2, -1, 0, math.MinInt}, []int{1, 2, 2}, 4, []Row{{1, 2, 1, 1}, {2, 1, 2, 1}}, 3},
		{[]int{1, 2}, []int{2, 1}, 2, []Row{{1, 1, 1, 0}, {2, 1, 1, 0}}, 7},
		{[]int{1, 2, 3}, []int{2, 3, 1}, 3, []Row{{1, 1, 1, 0}, {2, 1, 1, 0}, {3, 1, 1, 0}}, 7},
		{[]int{9, 8, 7, 6}, []int{9, 8, 7, 6}, 0, []Row{{6, 1, 1, 1}, {7, 1, 1, 1}, {8, 1, 1, 1}, {9, 1, 1, 1}}, 0},
		{[]int{9, 8, 7, 6, 5}, []int{5, 6, 7, 8, 9}, 4, []Row{{5, 1, 1, 0}, {6, 1, 1, 0}, {7, 1, 1, 1}, {8, 1, 1, 0}, {9, 1, 1, 0}}, 7},
		{[]int{math.MaxInt, 1}, []int{1, math.MaxInt}, 2, []Row{{1, 1, 1, 0}, {math.MaxInt, 1, 1, 0}}, 7},
		{[]int{3, 3, 3}, []int{0, 3, -1}, 2, []Row{{3, 3, 1, 1}}, 0},
		{[]int{0, 3, math.MinInt}, []int{3, 3, 3}, 2, []Row{{3, 1, 3, 1}}, 0},
		{[]int{1, 0, 2, -1}, []int{1, -1, 2, 0}, 2, []Row{{1, 1, 1, 1}, {2, 1, 1, 1}}, 0},
		{[]int{7, 7, 7, 7}, []int{7}, 3, []Row{{7, 4, 1, 1}}, 0},
		{[]int{7}, []int{7, 7, 7, 7}, 3, []Row{{7, 1, 4, 1}}, 0},
		{[]int{7, 0, 0, 0}, []int{0, 0, 0, 7}, 2, []Row{{7, 1, 1, 0}}, 0},
		{[]int{10, 9, 100, 11, 20, 1}, []int{1, 9, 10, 11, 20, 100}, 3, []Row{{1, 1, 1, 0}, {9, 1, 1, 1}, {10, 1, 1, 0}, {11, 1, 1, 1}, {20, 1, 1, 1}, {100, 1, 1, 0}}, 5},
		{[]int{5, 0}, []int{0, 5}, 2, []Row{{5, 1, 1, 0}}, 0},
		{[]int{1, 2, 3}, []int{1, 3, 2}, 2, []Row{{1, 1, 1, 1}, {2, 1, 1, 0}, {3, 1, 1, 0}}, 7},
		{[]int{1, 2, 3, 1, 2, 3}, []int{1, 2, 3}, 3, []Row{{1, 2, 1, 1}, {2, 2, 1, 1}, {3, 2, 1, 1}}, 0},
		{[]int{1, 2, 1, 2}, []int{1, 2}, 2, []Row{{1, 2, 1, 1}, {2, 2, 1, 1}}, 0},
		{[]int{4, 4, 5, 6}, []int{4, 4, 6, 5}, 2, []Row{{4, 2, 2, 2}, {5, 1, 1, 0}, {6, 1, 1, 0}}, 7},
		{[]int{1<<32 + 1, 1}, []int{1, 1<<32 + 1}, 2, []Row{{1, 1, 1, 0}, {1<<32 + 1, 1, 1, 0}}, 7},
		{[]int{1, 2, 3, 4}, []int{2, 3, 4, 1}, 4, []Row{{1, 1, 1, 0}, {2, 1, 1, 0}, {3, 1, 1, 0}, {4, 1, 1, 0}}, 7},
	}
}

// knownOfOthers are changes at which backends come or go.
func knownOfOthers() []change {
	return []change{
		{[]int{5}, []int{6}, 1, []Row{{5, 1, 0, 0}, {6, 0, 1, 0}}, 7},
		{[]int{1, 1, 2, 5}, []int{1, 2, 2}, 2, []Row{{1, 2, 1, 1}, {2, 1, 2, 1}, {5, 1, 0, 0}}, 5},
		{[]int{1, 2, 2}, []int{1, 1, 2, 5}, 2, []Row{{1, 1, 2, 1}, {2, 2, 1, 1}, {5, 0, 1, 0}}, 5},
		{[]int{1, 2}, []int{2, 2}, 1, []Row{{1, 1, 0, 0}, {2, 1, 2, 1}}, 7},
		{[]int{2, 2}, []int{1, 2}, 1, []Row{{1, 0, 1, 0}, {2, 2, 1, 1}}, 7},
		{[]int{math.MaxInt, math.MaxInt, 3}, []int{math.MaxInt, math.MaxInt}, 1, []Row{{3, 1, 0, 0}, {math.MaxInt, 2, 2, 2}}, 7},
		{[]int{3, 3, 3}, []int{4, 4, 4}, 3, []Row{{3, 3, 0, 0}, {4, 0, 3, 0}}, 7},
		{[]int{5, 0}, []int{5, 6}, 1, []Row{{5, 1, 1, 1}, {6, 0, 1, 0}}, 7},
		{[]int{257, 1, 65537}, []int{1, 1, 1}, 2, []Row{{1, 1, 3, 1}, {257, 1, 0, 0}, {65537, 1, 0, 0}}, 7},
		{[]int{1, 2, 3, 4, 5}, []int{1, 2, 3, 4}, 1, []Row{{1, 1, 1, 1}, {2, 1, 1, 1}, {3, 1, 1, 1}, {4, 1, 1, 1}, {5, 1, 0, 0}}, 4},
	}
}

// P19.1

func TestKnownMoved(t *testing.T) {
	for _, c := range known() {
		wantMoved(t, c.was, c.is, c.moved)
		// Which of the two is handed in first is all the same.
		wantMoved(t, c.is, c.was, c.moved)
	}
}

func TestKnownRows(t *testing.T) {
	for _, c := range known() {
		wantRows(t, c.was, c.is, c.rows)
		back := slices.Clone(c.rows)
		for i := range back {
			back[i].Had, back[i].Has = back[i].Has, back[i].Had
		}
		wantRows(t, c.is, c.was, back)
	}
}

func TestExample(t *testing.T) {
	wantMoved(t, []int{1, 1, 2}, []int{1, 2, 2}, 1)
	wantRows(t, []int{1, 1, 2}, []int{1, 2, 2}, []Row{{Node: 1, Had: 2, Has: 1, Kept: 1}, {Node: 2, Had: 1, Has: 2, Kept: 1}})
}

// What another program told of two tables of 251 slots, and of pieces of them.
func TestKnownOf251(t *testing.T) {
	was, is := squares(), thirds()
	wantMoved(t, was, is, 80)
	wantMoved(t, is, was, 80)
	wantMoved(t, was, is[:200], 114)
	wantMoved(t, was[:13], is, 243)
	wantRows(t, was, is, []Row{{1, 29, 19, 19}, {2, 0, 21, 0}, {5, 30, 41, 22}, {6, 29, 20, 20}, {8, 0, 21, 0}, {10, 30, 20, 20}, {12, 30, 20, 20}, {13, 29, 19, 19}})
	wantRows(t, was[:60], is[:100], []Row{{1, 7, 7, 5}, {2, 0, 8, 0}, {5, 7, 16, 5}, {6, 7, 8, 4}, {8, 0, 9, 0}, {10, 7, 8, 5}, {12, 7, 8, 5}, {13, 7, 8, 5}})
	wantRows(t, was, nil, []Row{{1, 29, 0, 0}, {5, 30, 0, 0}, {6, 29, 0, 0}, {10, 30, 0, 0}, {12, 30, 0, 0}, {13, 29, 0, 0}})
}

// A slot that the other table has not is moved, whatever stands in it, also what stands for a slot that is not there.
func TestSlotsBehindTheEnd(t *testing.T) {
	for _, n := range slices.Concat(nobodies(), backends()) {
		for many := range 9 {
			short := slices.Repeat([]int{4}, 3)
			long := slices.Concat(short, slices.Repeat([]int{n}, many))
			wantMoved(t, short, long, many)
			wantMoved(t, long, short, many)
			wantMoved(t, nil, long, many+3)
			wantMoved(t, long, nil, many+3)
			wantAll(t, short, long, hashes())
			wantAll(t, long, short, hashes())
		}
	}
}

// Each two numbers in a slot: it is moved, if they are others, also if it was and is nobody's; none is told that is nobody's.
func TestEachTwoNumbers(t *testing.T) {
	numbers := slices.Concat(nobodies(), backends())
	for _, a := range numbers {
		for _, b := range numbers {
			want := 1
			if a == b {
				want = 0
			}
			wantMoved(t, []int{a}, []int{b}, want)
			wantMoved(t, []int{9, a, 9}, []int{9, b, 9}, want)
			wantMoved(t, []int{a, 9, a}, []int{b, 9, b}, 2*want)
			for _, row := range Rows([]int{a}, []int{b}) {
				if row.Node < 1 || row.Node != a && row.Node != b {
					t.Errorf("Rows of %d and %d tell %d", a, b, row)
				}
			}
			wantRows(t, []int{a, 9, a}, []int{b, 9, b}, rowsBy([]int{a, 9, a}, []int{b, 9, b}))
		}
	}
}

// A backend that had slots and has none, that has some and had none, that had and has others, and the same.
func TestEachKindOfRow(t *testing.T) {
	for _, n := range backends() {
		wantRows(t, []int{n, n, 0}, []int{0, 0, 0}, []Row{{Node: n, Had: 2}})
		wantRows(t, []int{0, 0, 0}, []int{n, 0, n}, []Row{{Node: n, Has: 2}})
		wantRows(t, []int{n, 0, 0}, []int{0, n, n}, []Row{{Node: n, Had: 1, Has: 2}})
		wantRows(t, []int{n, 0, n}, []int{n, 0, n}, []Row{{Node: n, Had: 2, Has: 2, Kept: 2}})
		wantRows(t, []int{n, 0, n}, []int{n, n, 0}, []Row{{Node: n, Had: 2, Has: 2, Kept: 1}})
		wantRows(t, []int{n, 0, 0}, []int{n, 0, 0, n}, []Row{{Node: n, Had: 1, Has: 2, Kept: 1}})
		wantRows(t, []int{0, -1, 0, n, n}, []int{0, -1}, []Row{{Node: n, Had: 2}})
	}
}

// Rows rise, in whatever order the backends stand; that of a map's going through is seen in no answer.
func TestRowsRise(t *testing.T) {
	r := rand.New(rand.NewSource(1))
	for _, many := range []int{1, 2, 3, 7, 61, 251, 3000} {
		rising := make([]int, many)
		for i := range rising {
			rising[i] = i + 1
		}
		falling := slices.Clone(rising)
		slices.Reverse(falling)
		for range 5 {
			table := slices.Clone(rising)
			r.Shuffle(many, func(i, j int) { table[i], table[j] = table[j], table[i] })
			for _, other := range [][]int{nil, rising, falling, table} {
				rows := Rows(table, other)
				if len(rows) != many {
					t.Fatalf("%d rows of %d backends", len(rows), many)
				}
				kept := 0
				for i, row := range rows {
					if row.Node != i+1 || row.Had != 1 || row.Has != min(len(other), 1) || row.Kept > row.Has {
						t.Fatalf("row %d of %d: %d", i, many, row)
					}
					kept += row.Kept
				}
				if kept != many-Moved(table, other) {
					t.Errorf("%d slots of %d kept, %d moved", kept, many, Moved(table, other))
				}
			}
		}
	}
}

func TestByAnotherWay(t *testing.T) {
	all := tables()
	for _, was := range all {
		for _, is := range all {
			wantMoved(t, was, is, movedBy(was, is))
			if len(was)+len(is) < 300 {
				wantRows(t, was, is, rowsBy(was, is))
			}
		}
	}
}

// All tables of up to four slots with two backends and nobody, each in the place of each.
func TestEachOfFew(t *testing.T) {
	var all [][]int
	for many := range 5 {
		for n := range 1 << (2 * many) {
			table := make([]int, many)
			for i := range table {
				table[i] = n>>(2*i)&3 - 1
			}
			all = append(all, table)
		}
	}
	some := []uint64{0, 1<<32 + 2, 3<<32 + 1}
	for _, was := range all {
		for _, is := range all {
			if len(was)+len(is) < 7 {
				wantAll(t, was, is, some)
			}
		}
	}
}

// P19.2

func TestKnownTurned(t *testing.T) {
	for _, c := range known() {
		wantTurned(t, c.was, c.is, someHashes(), c.turned)
		wantTurned(t, c.is, c.was, someHashes(), c.turned)
		wantTurned(t, c.was, c.is, nil, 0)
		wantTurned(t, c.was, c.is, []uint64{}, 0)
		wantTurned(t, c.was, c.was, hashes(), 0)
		wantTurned(t, c.is, slices.Clone(c.is), hashes(), 0)
	}
}

// What another program told of a thousand hashes.
func TestKnownOfThousand(t *testing.T) {
	l := spread(1000)
	wantTurned(t, squares(), thirds(), l, 678)
	wantTurned(t, thirds(), squares(), l, 678)
	wantTurned(t, squares(), squares(), l, 0)
	wantTurned(t, squares(), squares()[:250], l, 952)
	wantTurned(t, squares(), thirds()[:61], l, 983)
	wantTurned(t, squares(), thirds(), someHashes(), 5)
	wantTurned(t, squares()[:13], squares(), someHashes(), 4)
	wantTurned(t, []int{1, 2, 3}, []int{1, 2, 3, 4}, l, 895)
	wantTurned(t, []int{1, 2, 0}, []int{2, 1, 0}, l, 1000)
}

// Another first one alone, another second one alone, both, the two in each other's place, and none.
func TestFirstOrSecond(t *testing.T) {
	zero := []uint64{0}
	wantTurned(t, []int{1, 3, 3}, []int{2, 3, 3}, zero, 1)
	wantTurned(t, []int{1, 2, 2}, []int{1, 3, 3}, zero, 1)
	wantTurned(t, []int{1, 2}, []int{3, 4}, zero, 1)
	wantTurned(t, []int{1, 4}, []int{2, 3}, zero, 1)
	wantTurned(t, []int{2, 6}, []int{3, 4}, zero, 1)
	wantTurned(t, []int{1, 2}, []int{2, 1}, zero, 1)
	wantTurned(t, []int{1, 2, 2}, []int{1, 2, 3}, zero, 0)
	wantTurned(t, []int{1, 2, 3}, []int{1, 2, 2, 9}, zero, 0)
	// For hash 1 the tables' second ones alone are others, 1 and 9; for 2^32 + 2 the first ones alone; for 2^32 none.
	was, is := []int{1, 2, 5}, []int{9, 2, 5}
	wantTurned(t, was, is, []uint64{1}, 1)
	wantTurned(t, was, is, []uint64{1<<32 + 2}, 1)
	wantTurned(t, was, is, []uint64{1 << 32}, 0)
}

// One table has a second backend and the other none; one has a backend, and the other nobody; of two that have none nothing turns.
func TestOneOrNone(t *testing.T) {
	all := hashes()
	for _, n := range backends() {
		other := 77
		for _, none := range [][]int{nil, {}, {0}, {-1, 0}, nobodies()} {
			wantTurned(t, none, []int{n}, all, len(all))
			wantTurned(t, []int{n}, none, all, len(all))
			wantTurned(t, none, []int{n, other}, all, len(all))
			wantTurned(t, []int{0, n, 0}, none, all, len(all))
			for _, nobody := range [][]int{nil, {}, {0}, {math.MinInt, -1, 0}, nobodies()} {
				wantTurned(t, none, nobody, all, 0)
			}
		}
		wantTurned(t, []int{n}, []int{n, other}, all, len(all))
		wantTurned(t, []int{other, n}, []int{n, n}, all, len(all))
		wantTurned(t, []int{n}, []int{n, n, 0, n}, all, 0)
		wantTurned(t, []int{0, n, -1}, []int{n}, all, 0)
		wantTurned(t, []int{n}, []int{other}, all, len(all))
	}
}

// A hash counts as often as it stands there, wherever.
func TestHashesThatStandTwice(t *testing.T) {
	was, is := []int{1, 1, 2, 5}, []int{1, 2, 2}
	for _, h := range hashes() {
		one := turnedBy(was, is, []uint64{h})
		for many := range 6 {
			wantTurned(t, was, is, slices.Repeat([]uint64{h}, many), many*one)
		}
	}
	all := hashes()
	n := turnedBy(was, is, all)
	wantTurned(t, was, is, slices.Concat(all, all, all), 3*n)
	slices.Reverse(all)
	wantTurned(t, was, is, all, n)
	slices.Sort(all)
	wantTurned(t, was, is, all, n)
	wantTurned(t, []int{5}, []int{6}, []uint64{0, 0, 0, ones, ones}, 5)
}

func TestTurnedByAnotherWay(t *testing.T) {
	all, some := tables(), hashes()
	for _, was := range all {
		for _, is := range all {
			if len(was)+len(is) < 150 {
				wantTurned(t, was, is, some, turnedBy(was, is, some))
			}
		}
	}
	wantTurned(t, squares(), thirds(), some, turnedBy(squares(), thirds(), some))
}

// Each hash for itself: of all of them as many turn as turn alone.
func TestEachHashAlone(t *testing.T) {
	was, is := squares(), thirds()
	n := 0
	for _, h := range hashes() {
		one := turnedBy(was, is, []uint64{h})
		wantTurned(t, was, is, []uint64{h}, one)
		n += one
	}
	wantTurned(t, was, is, hashes(), n)
}

// R1: no call panics, whatever it is given.
func TestWhateverIsGiven(t *testing.T) {
	numbers := slices.Concat(nobodies(), backends())
	for i, a := range numbers {
		b := numbers[(i+7)%len(numbers)]
		some := []uint64{uint64(a), uint64(b), uint64(a) << 32, uint64(a) * uint64(b)}
		for _, was := range [][]int{nil, {a}, {a, b}, {b, a, b}} {
			for _, is := range [][]int{nil, {b}, {a, b}, {a, 0, b, 1, a, a, b}} {
				wantAll(t, was, is, some)
				wantAll(t, is, was, some)
			}
		}
	}
}

// Long tables and many hashes take no long time.
func TestLongTables(t *testing.T) {
	const many = 1000000
	was, is := make([]int, many), make([]int, many)
	for i := range was {
		was[i], is[i] = many-i, i+1
	}
	wantMoved(t, was, was[:3], many-3)
	if n := Moved(was, is); n != many {
		t.Errorf("%d of %d slots moved", n, many)
	}
	rows := Rows(was, is)
	if len(rows) != many || rows[0] != (Row{1, 1, 1, 0}) || rows[many-1] != (Row{many, 1, 1, 0}) {
		t.Errorf("%d rows of a long table", len(rows))
	}
	l := spread(many)
	if n := Turned(was, was, l); n != 0 {
		t.Errorf("%d of %d hashes turned of one table", n, many)
	}
	if n := Turned([]int{1}, []int{2}, l); n != many {
		t.Errorf("%d of %d hashes turned", n, many)
	}
	wantRows(t, make([]int, many), slices.Repeat([]int{3}, many), []Row{{3, 0, many, 0}})
	wantRows(t, slices.Repeat([]int{3}, many), slices.Repeat([]int{3}, many), []Row{{3, many, many, many}})
}

// R3: what is handed in stays as it was, with the room behind it, and that room does not count.
func TestTablesStay(t *testing.T) {
	behind := []int{8, 0, -1, 900, math.MaxInt, 1, 2, 3}
	some := hashes()
	wholeHashes := slices.Concat([]uint64{1, 2, 3}, some, []uint64{4, 5, 6, ones})
	hashesWere := slices.Clone(wholeHashes)
	list := wholeHashes[3 : 3+len(some)]
	all := tables()
	for i, a := range all {
		b := all[(i*5+3)%len(all)]
		wholeA, wholeB := slices.Concat(behind, a, behind), slices.Concat(behind, b, behind)
		aWas, bWas := slices.Clone(wholeA), slices.Clone(wholeB)
		was, is := wholeA[len(behind):len(behind)+len(a)], wholeB[len(behind):len(behind)+len(b)]
		wantMoved(t, was, is, movedBy(a, b))
		wantTurned(t, was, is, list, turnedBy(a, b, some))
		rows := Rows(was, is)
		for j := range rows[:cap(rows)] {
			rows[:cap(rows)][j] = Row{-7, -7, -7, -7}
		}
		wantRows(t, was, is, rowsBy(a, b))
		if !slices.Equal(wholeA, aWas) || !slices.Equal(wholeB, bWas) || !slices.Equal(wholeHashes, hashesWere) {
			t.Errorf("what was handed in, or what lies around it, changed to %d, %d, %#x", wholeA, wholeB, wholeHashes)
		}
	}
}

// Two tables that lie in one memory are two tables all the same.
func TestTablesOfOneMemory(t *testing.T) {
	whole := []int{1, 1, 2, 3, 3, 0, 5}
	for from := range whole {
		for to := from; to <= len(whole); to++ {
			a, b := whole[from:to], whole[:to]
			was, is := slices.Clone(a), slices.Clone(b)
			wantMoved(t, a, b, movedBy(was, is))
			wantRows(t, a, b, rowsBy(was, is))
			wantRows(t, b, a, rowsBy(is, was))
			wantTurned(t, a, b, hashes(), turnedBy(was, is, hashes()))
			wantMoved(t, a, a, 0)
		}
	}
}

// R3, R4: asked again, Rows tells what it told, also if that was changed meanwhile; no two answers share memory.
func TestAskedAgain(t *testing.T) {
	all := tables()
	for i, was := range all {
		is := all[(i+6)%len(all)]
		rows, again := Rows(was, is), Rows(was, is)
		want := slices.Clone(rows)
		whole := rows[:cap(rows)]
		for j := range whole {
			whole[j] = Row{-5, -5, -5, -5}
		}
		if !slices.Equal(again, want) {
			t.Errorf("Rows(%d, %d) share what was told", was, is)
		}
		wantRows(t, was, is, want)
		wantMoved(t, was, is, Moved(was, is))
		wantTurned(t, was, is, hashes(), Turned(was, is, hashes()))
	}
}

// What was handed in is not kept: tables and hashes that changed behind a call are others to the next one, and change nothing that was told.
func TestTablesThatChange(t *testing.T) {
	was, is, l := []int{1, 1, 2}, []int{1, 2, 2}, []uint64{1, 0}
	rows := Rows(was, is)
	wantMoved(t, was, is, 1)
	wantTurned(t, was, is, l, 1)
	was[0], is[2], l[0] = 7, 9, 2
	wantMoved(t, was, is, 3)
	wantRows(t, was, is, []Row{{1, 1, 1, 0}, {2, 1, 1, 0}, {7, 1, 0, 0}, {9, 0, 1, 0}})
	wantTurned(t, was, is, l, 2)
	if !slices.Equal(rows, []Row{{1, 2, 1, 1}, {2, 1, 2, 1}}) {
		t.Errorf("what was told changed with the tables to %d", rows)
	}
}

// What was asked between changes nothing.
func TestAskedInAnotherOrder(t *testing.T) {
	type told struct {
		moved, turned int
		rows          []Row
	}
	var l []told
	all, some := tables(), hashes()
	for i, was := range all {
		is := all[(i+1)%len(all)]
		l = append(l, told{Moved(was, is), Turned(was, is, some), Rows(was, is)})
	}
	for i := len(all) - 1; i >= 0; i-- {
		was, is := all[i], all[(i+1)%len(all)]
		wantTurned(t, was, is, some, l[i].turned)
		wantRows(t, was, is, l[i].rows)
		wantMoved(t, was, is, l[i].moved)
		wantRows(t, nil, nil, nil)
	}
}

func TestNilAndEmptyAreTheSame(t *testing.T) {
	for _, table := range tables() {
		wantMoved(t, nil, table, Moved([]int{}, table))
		wantMoved(t, table, nil, Moved(table, []int{}))
		wantRows(t, nil, table, Rows([]int{}, table))
		wantRows(t, table, nil, Rows(table, []int{}))
		wantTurned(t, nil, table, hashes(), Turned([]int{}, table, hashes()))
		wantTurned(t, table, nil, hashes(), Turned(table, []int{}, hashes()))
		wantTurned(t, table, squares(), nil, Turned(table, squares(), []uint64{}))
	}
}
