package maglev

import (
	"fmt"
	"math"
	"math/rand"
	"slices"
	"strconv"
	"testing"

	"harrier/api"
	"harrier/keyed"
	"harrier/perm"
)

// ones is the number of which each bit is 1.
const ones = math.MaxUint64

// plain is the key of keyed's example.
func plain() keyed.Key { return keyed.Key{A: 0x0706050403020100, B: 0x0f0e0d0c0b0a0908} }

// keys are a plain one, and those that are all 0, all ones, and of which the one half alone is 0.
func keys() []keyed.Key {
	return []keyed.Key{plain(), {}, {A: ones, B: ones}, {A: ones}, {B: ones}, {A: plain().A}, {B: plain().B}}
}

// sizes are all numbers of slots that a table may have.
func sizes() []int {
	return []int{
		2, 3, 5, 7, 11, 13, 17, 19, 23, 29, 31, 37, 41, 43, 47, 53, 59, 61, 67, 71, 73, 79, 83, 89, 97,
		101, 103, 107, 109, 113, 127, 131, 137, 139, 149, 151, 157, 163, 167, 173, 179, 181, 191, 193, 197, 199,
		211, 223, 227, 229, 233, 239, 241, 251,
	}
}

// oddSizes are numbers of slots that no table has: no prime numbers, too great ones, and such as would be a fine one modulo 2^8, 2^16 or 2^32.
func oddSizes() []int {
	return []int{
		1, 0, -1, 4, 250, 252, 257, math.MinInt, math.MaxInt,
		-2, -3, -61, -251, 6, 9, 25, 49, 60, 62, 121, 169, 221, 247, 249, 253, 255, 256, 258, 259, 263, 317, 509, 997, 1000, 1009, 65536, 65538, 65597, 999983, 1000003,
		1<<31 - 1, 1 << 31, 1 << 32, 1<<32 + 2, 1<<32 + 61, -1<<32 + 61, 1<<61 - 1, math.MinInt + 1, math.MinInt + 61, math.MaxInt - 1,
	}
}

// oddNodes are numbers of which no member is, also such as would be fine modulo 2^16 or 2^32.
func oddNodes() []int {
	return []int{
		0, -1, 65536, math.MinInt, math.MaxInt,
		-2, -16, -65535, -65536, -65537, 65537, 65538, 131071, 1<<31 - 1, 1 << 31, -1 << 31, 1 << 32, 1<<32 + 1, 1<<32 + 65535, -1<<32 + 1, math.MinInt + 1, math.MaxInt - 1,
	}
}

// oddWeights are numbers that no Weight is, also such as would be fine modulo 2^8 or 2^32.
func oddWeights() []int {
	return []int{
		-1, 5, math.MinInt, math.MaxInt,
		-2, -4, -5, 6, 8, 16, 255, 256, 257, 65536, 65537, 1<<31 - 1, 1 << 31, -1 << 31, 1 << 32, 1<<32 + 1, 1<<32 + 4, -1<<32 + 1, math.MinInt + 1, math.MinInt + 4, math.MaxInt - 1,
	}
}

// of tells members by their Nodes and their Weights, by turns.
func of(numbers ...int) []api.Member {
	var l []api.Member
	for i := 0; i < len(numbers); i += 2 {
		l = append(l, api.Member{Node: numbers[i], Weight: numbers[i+1]})
	}
	return l
}

// row tells as many members, of the Nodes from 1 on, all of a Weight.
func row(many, weight int) []api.Member {
	l := make([]api.Member, many)
	for i := range l {
		l[i] = api.Member{Node: i + 1, Weight: weight}
	}
	return l
}

// with tells l with one member more, at a place.
func with(l []api.Member, place int, m api.Member) []api.Member {
	return slices.Insert(slices.Clone(l), place, m)
}

// drawn tells members that are Right; another seed tells mostly others.
func drawn(r *rand.Rand) []api.Member {
	var l []api.Member
	most := []int{16, 20, 300, 65535}[r.Intn(4)]
	for _, n := range r.Perm(most)[:r.Intn(17)] {
		l = append(l, api.Member{Node: n + 1, Weight: r.Intn(5)})
	}
	return l
}

// rights are lists of members that are Right.
func rights() [][]api.Member {
	l := [][]api.Member{
		nil, {},
		of(1, 0), of(1, 1), of(1, 4), of(65535, 0), of(65535, 1), of(65535, 4),
		of(1, 1, 2, 1), of(2, 1, 1, 1), of(1, 4, 2, 1), of(1, 1, 2, 4), of(1, 0, 2, 1), of(1, 1, 2, 0), of(1, 0, 2, 0), of(65535, 2, 1, 3),
		of(1, 1, 2, 2, 3, 3, 4, 4), of(4, 4, 3, 3, 2, 2, 1, 1), of(3, 0, 1, 2, 9, 0, 4, 1), of(255, 1, 256, 2, 257, 1), of(32767, 1, 32768, 1),
		row(16, 0), row(16, 1), row(16, 4), row(15, 2),
		of(1, 1, 2, 2, 3, 3, 4, 4, 5, 0, 6, 1, 7, 2, 8, 3, 9, 4, 10, 0, 11, 1, 12, 2, 13, 3, 14, 4, 15, 0, 65535, 1),
	}
	r := rand.New(rand.NewSource(17))
	for range 40 {
		l = append(l, drawn(r))
	}
	return l
}

// fault is a list of members, and what is wrong with it.
type fault struct {
	l []api.Member
	e api.Errno
}

// faults are lists of members of which something is wrong, alone and of several things that are.
func faults() []fault {
	var l []fault
	add := func(e api.Errno, members []api.Member) { l = append(l, fault{members, e}) }
	for _, n := range oddNodes() {
		add(api.ErrArg, of(n, 1))
		add(api.ErrArg, of(n, 0, n, 0))
		for place := range 17 {
			add(api.ErrArg, with(row(16, 1), place, api.Member{Node: n, Weight: 1}))
		}
	}
	for _, w := range oddWeights() {
		add(api.ErrArg, of(1, w))
		add(api.ErrArg, of(0, w))
		for place := range 17 {
			add(api.ErrArg, with(row(16, 1), place, api.Member{Node: 100, Weight: w}))
		}
	}
	// The same Node twice, with another Weight, too: at each two places of a list.
	for last := 1; last < 17; last++ {
		for first := range last {
			for w := range 5 {
				add(api.ErrTwice, with(row(16, 1), last, api.Member{Node: first + 1, Weight: w}))
			}
		}
	}
	add(api.ErrTwice, of(7, 0, 7, 0))
	add(api.ErrTwice, of(65535, 4, 65535, 4, 65535, 4))
	// Of two faults the earlier member's; of one member's two ErrArg.
	add(api.ErrArg, of(1, 1, 0, 1, 1, 1))
	add(api.ErrArg, of(1, 1, 2, 5, 1, 1))
	add(api.ErrArg, of(1, 5, 1, 1))
	add(api.ErrTwice, of(1, 1, 1, 1, 0, 1))
	add(api.ErrTwice, of(1, 1, 1, 1, 2, 5))
	add(api.ErrTwice, of(1, 1, 2, 1, 2, 1, 2, -1))
	add(api.ErrArg, of(1, 1, 1, 5))
	add(api.ErrArg, of(1, 1, 1, -1))
	add(api.ErrArg, of(1, 1, 2, 1, 3, 1, 2, 5, 3, 1))
	// More than 16, and a fault in the last one, or behind the seventeenth.
	for _, many := range []int{17, 18, 32, 33, 100, 256, 272, 65535} {
		add(api.ErrMany, row(many, 1))
		add(api.ErrMany, row(many, 0))
	}
	for _, many := range []int{16, 17, 40} {
		add(api.ErrArg, with(row(many, 1), many, api.Member{Node: 0, Weight: 1}))
		add(api.ErrArg, with(row(many, 1), many, api.Member{Node: 65536, Weight: 1}))
		add(api.ErrArg, with(row(many, 1), many, api.Member{Node: 100, Weight: 5}))
		add(api.ErrArg, with(row(many, 1), many, api.Member{Node: 1, Weight: 5}))
		add(api.ErrTwice, with(row(many, 1), many, api.Member{Node: 1, Weight: 1}))
		add(api.ErrTwice, with(row(many, 1), many, api.Member{Node: many}))
	}
	add(api.ErrTwice, with(row(65535, 1), 65535, api.Member{Node: 65535}))
	return l
}

// rightBy tells what Right should, by another way than the program's: each member is held against each one ahead of it.
func rightBy(l []api.Member) api.Errno {
	for i, m := range l {
		if m.Node <= 0 || m.Node >= 1<<16 || m.Weight <= -1 || m.Weight >= 5 {
			return api.ErrArg
		}
		if slices.ContainsFunc(l[:i], func(o api.Member) bool { return o.Node == m.Node }) {
			return api.ErrTwice
		}
	}
	if len(l) >= 17 {
		return api.ErrMany
	}
	return api.OK
}

// buildBy tells the table that Build should of members that are Right, by another way than the program's: slot behind slot is
// given to whose turn it is, and of its order each slot is looked at from the first one on.
func buildBy(k keyed.Key, m int, l []api.Member) []int {
	var turns []int
	for _, o := range l {
		turns = append(turns, slices.Repeat([]int{o.Node}, o.Weight)...)
	}
	slices.Sort(turns)
	table := make([]int, m)
	for n := 0; n < m && len(turns) > 0; n++ {
		node := turns[n%len(turns)]
		slot := perm.Offset(k, node, m)
		for table[slot] != 0 {
			slot = (slot + perm.Skip(k, node, m)) % m
		}
		table[slot] = node
	}
	return table
}

// digits tells a table of which each slot is one digit: 1 to 9, and a to g for 10 to 16.
func digits(s string) []int {
	table := make([]int, len(s))
	for i := range s {
		n, _ := strconv.ParseInt(s[i:i+1], 17, 8)
		table[i] = int(n)
	}
	return table
}

// wantRight asks Right.
func wantRight(t *testing.T, l []api.Member, want api.Errno) {
	t.Helper()
	if got := Right(l); got != want {
		t.Errorf("Right(%v): %d, want %d", l[:min(len(l), 20)], got, want)
	}
}

// wantTotal asks Total.
func wantTotal(t *testing.T, l []api.Member, want int) {
	t.Helper()
	if got := Total(l); got != want {
		t.Errorf("Total(%v): %d, want %d", l[:min(len(l), 20)], got, want)
	}
}

// wantCount asks Count.
func wantCount(t *testing.T, table []int, node, want int) {
	t.Helper()
	if got := Count(table, node); got != want {
		t.Errorf("Count(%v, %d): %d, want %d", table, node, got, want)
	}
}

// wantTable asks Build, which should tell a table.
func wantTable(t *testing.T, k keyed.Key, m int, l []api.Member, want []int) {
	t.Helper()
	if got, e := Build(k, m, l); e != api.OK || !slices.Equal(got, want) {
		t.Errorf("Build(%x, %d, %v): %v, %d, want %v", k, m, l, got, e, want)
	}
}

// wantError asks Build, which should tell an error, and no table.
func wantError(t *testing.T, k keyed.Key, m int, l []api.Member, want api.Errno) {
	t.Helper()
	if got, e := Build(k, m, l); e != want || len(got) != 0 {
		t.Errorf("Build(%x, %d, %v): %v, %d, want none, %d", k, m, l[:min(len(l), 20)], got, e, want)
	}
}

// each goes over each table that there is of the keys, of some sizes and of the lists that are Right.
func each(do func(k keyed.Key, m int, l []api.Member)) {
	for _, k := range keys() {
		for _, m := range []int{2, 3, 5, 7, 13, 17, 61, 127, 241, 251} {
			for _, l := range rights() {
				do(k, m, l)
			}
		}
	}
}

// P17.1

func TestRight(t *testing.T) {
	for _, l := range rights() {
		wantRight(t, l, api.OK)
	}
	for many := range 40 {
		want := api.OK
		if many > 16 {
			want = api.ErrMany
		}
		for weight := range 5 {
			wantRight(t, row(many, weight), want)
		}
	}
}

// Nodes from 1 to 65535 and Weights from 0 to 4 are Right, and no others.
func TestRightOfOneMember(t *testing.T) {
	for node := -2; node <= 65540; node++ {
		for _, weight := range []int{-1, 0, 1, 2, 3, 4, 5} {
			want := api.ErrArg
			if node >= 1 && node <= 65535 && weight >= 0 && weight <= 4 {
				want = api.OK
			}
			wantRight(t, of(node, weight), want)
		}
	}
}

func TestRightOfFaults(t *testing.T) {
	for _, f := range faults() {
		wantRight(t, f.l, f.e)
	}
}

// Lists of few numbers, so that many have several faults.
func TestRightOfMany(t *testing.T) {
	r := rand.New(rand.NewSource(1))
	told := map[api.Errno]int{}
	for range 40000 {
		l := make([]api.Member, r.Intn(24))
		nodes, odd := 3+r.Intn(200), r.Intn(2) == 0
		for i := range l {
			l[i] = api.Member{Node: 1 + (i*7+r.Intn(1+r.Intn(5)))%nodes, Weight: r.Intn(5)}
			if odd && r.Intn(20) == 0 {
				l[i] = api.Member{Node: r.Intn(5) - 1, Weight: r.Intn(8) - 1}
			}
		}
		wantRight(t, l, rightBy(l))
		told[rightBy(l)]++
	}
	for _, e := range []api.Errno{api.OK, api.ErrArg, api.ErrTwice, api.ErrMany} {
		if told[e] < 500 {
			t.Errorf("%d lists of error %d", told[e], e)
		}
	}
}

func TestTotal(t *testing.T) {
	for _, c := range []struct {
		l    []api.Member
		want int
	}{
		{nil, 0}, {of(), 0}, {of(1, 0), 0}, {of(1, 1), 1}, {of(65535, 4), 4}, {of(2, 1, 1, 3, 9, 0), 4}, {of(1, 1, 2, 2, 3, 3, 4, 4), 10},
		{of(1, 0, 2, 0, 3, 0), 0}, {row(16, 0), 0}, {row(16, 1), 16}, {row(16, 4), 64}, {with(row(15, 0), 15, api.Member{Node: 16, Weight: 3}), 3},
	} {
		wantTotal(t, c.l, c.want)
	}
	for _, l := range rights() {
		n := 0
		for _, m := range l {
			n += m.Weight
		}
		wantTotal(t, l, n)
	}
}

func TestTotalOfMembersThatAreNotRight(t *testing.T) {
	for _, f := range faults() {
		wantTotal(t, f.l, 0)
	}
}

func TestCount(t *testing.T) {
	table := []int{3, 1, 3, 0, 3, 65535, 1}
	for _, c := range []struct{ node, want int }{
		{3, 3}, {1, 2}, {65535, 1}, {0, 1}, {2, 0}, {4, 0}, {-1, 0}, {-3, 0}, {65536, 0}, {65539, 0}, {1<<32 + 3, 0}, {math.MinInt, 0}, {math.MinInt + 3, 0}, {math.MaxInt, 0},
	} {
		wantCount(t, table, c.node, c.want)
		wantCount(t, nil, c.node, 0)
		wantCount(t, []int{}, c.node, 0)
		wantCount(t, []int{c.node}, c.node, 1)
		wantCount(t, slices.Repeat([]int{c.node}, 251), c.node, 251)
		wantCount(t, slices.Concat(table, []int{c.node}), c.node, c.want+1)
		wantCount(t, slices.Concat([]int{c.node}, table), c.node, c.want+1)
	}
	for m := range 10 {
		wantCount(t, make([]int, m), 0, m)
		wantCount(t, make([]int, m), 1, 0)
	}
}

func TestCountOfTables(t *testing.T) {
	each(func(k keyed.Key, m int, l []api.Member) {
		table, _ := Build(k, m, l)
		many := map[int]int{}
		for _, node := range table {
			many[node]++
		}
		for _, o := range l {
			wantCount(t, table, o.Node, many[o.Node])
		}
		wantCount(t, table, 0, many[0])
		wantCount(t, table, 65536, 0)
	})
}

// P17.2

// The tables were told by another program, whose hashes were another one's SipHash-2-4.
func TestBuild(t *testing.T) {
	for _, c := range []struct {
		k     keyed.Key
		l     []api.Member
		table string
	}{
		{plain(), of(1, 1, 2, 1), "21"},
		{keyed.Key{}, of(1, 1, 2, 1), "12"},
		{keyed.Key{A: ones, B: ones}, of(1, 1, 2, 1), "12"},
		{plain(), of(2, 4, 1, 1), "21"},
		{plain(), of(1, 1, 2, 1, 3, 1), "213"},
		{plain(), of(6, 1, 5, 1, 4, 1), "465"},
		{plain(), of(10, 1), "aaaaa"},
		{plain(), of(9, 0, 10, 1, 11, 0), "aaaaa"},
		{plain(), of(1, 1, 2, 1), "21211"},
		{plain(), of(1, 2, 2, 1), "21111"},
		{plain(), of(1, 1, 2, 2), "22211"},
		{plain(), row(8, 1), "25341"},
		{plain(), of(1, 1, 2, 2, 3, 4), "2333132"},
		{plain(), of(2, 1, 1, 3, 9, 0), "2111111221111"},
		{keyed.Key{}, of(2, 1, 1, 3, 9, 0), "1211112111121"},
		{plain(), of(1, 1, 2, 1, 3, 1), "1221232221331111132131133123213212222322313311311331331232232"},
		{plain(), of(3, 4, 2, 2, 1, 1), "1322232223331133132333333233213213222322333331321331333332332"},
		{keyed.Key{}, of(3, 4, 2, 2, 1, 1), "3331112222133333333322223233333333223332233311111333322233322"},
		{keyed.Key{A: ones, B: ones}, of(1, 4, 2, 3, 3, 2, 4, 1, 5, 0), "1142311331112423121212224313112331321212213413112431121212214"},
		{keyed.Key{A: ones}, row(16, 4), "3156dca24188d776d29fdc5bca46aeb9fe94fb76c855be192e74fa1g83233"},
		{plain(), of(16, 1, 15, 0, 14, 4, 13, 3, 12, 2, 11, 1, 10, 0, 9, 4, 8, 3, 7, 2, 6, 1, 5, 0, 4, 4, 3, 3, 2, 2, 1, 1),
			"99ed93d22974d1be474e63e4698348cbd48ce822g98ed87cd93ec1e434937"},
		{keyed.Key{B: ones}, of(1, 1, 2, 2, 3, 3, 4, 4),
			"43322342432131433234414344322332432433434224324344132332432413444224314344332342442443444224324344142243443413344224334144343241143343443134434423143242343411231434423123242341344433234134423434442342344411234424421114342342134434233124424344342334234"},
		{plain(), of(1, 2, 2, 3, 3, 4, 4, 1, 5, 2, 6, 3, 7, 4, 8, 1, 9, 2, 10, 3, 11, 4, 12, 1, 13, 2, 14, 3, 15, 4, 16, 1),
			"451fd2727bbb2bfbb59d33e33ae7agf7g51f3bb496ae46de657e79763d3aed62e52bf1b79257d7432g26fec2dfe83bbf367c72bf1f59fa1ea18294d74bf7e69a33f3332f685172aa79752fbbb6f2dfea8925333737621f6cf6bg1bg86c75ef767ad2ef69332f3ebbcaa51d3724c631e29da5a8egbb9b33fe633aaaf1171"},
	} {
		wantTable(t, c.k, len(c.table), c.l, digits(c.table))
	}
}

// Nodes of more than a byte are put in order by their numbers, too.
func TestBuildOfGreatNodes(t *testing.T) {
	l := of(65535, 1, 1, 2, 256, 1, 255, 1, 65534, 0, 32768, 1)
	wantTable(t, plain(), 11, l, []int{32768, 1, 256, 1, 32768, 256, 1, 255, 65535, 1, 255})
	wantTable(t, keyed.Key{}, 11, l, []int{1, 255, 256, 32768, 256, 32768, 255, 65535, 1, 1, 1})
	wantTable(t, plain(), 7, of(65535, 2, 1, 1), []int{65535, 65535, 1, 1, 1, 65535, 65535})
	wantTable(t, keyed.Key{}, 7, of(65535, 2, 1, 1), []int{65535, 1, 1, 65535, 65535, 1, 65535})
}

func TestBuildOfMany(t *testing.T) {
	each(func(k keyed.Key, m int, l []api.Member) { wantTable(t, k, m, l, buildBy(k, m, l)) })
}

func TestBuildOfEachSize(t *testing.T) {
	r := rand.New(rand.NewSource(2))
	for _, m := range sizes() {
		for _, k := range keys() {
			for _, l := range [][]api.Member{of(3, 1, 1, 2), row(16, 4), drawn(r), drawn(r)} {
				wantTable(t, k, m, l, buildBy(k, m, l))
			}
		}
	}
}

// Of one member each slot is its, whatever its Weight.
func TestBuildOfOneMember(t *testing.T) {
	for _, k := range keys() {
		for _, m := range sizes() {
			for _, node := range []int{1, 2, 16, 255, 256, 65534, 65535} {
				for weight := 1; weight <= 4; weight++ {
					wantTable(t, k, m, of(node, weight), slices.Repeat([]int{node}, m))
				}
			}
		}
	}
}

// Of no member each slot is 0, and likewise where no member has a Weight.
func TestBuildOfNone(t *testing.T) {
	for _, k := range keys() {
		for _, m := range sizes() {
			for _, l := range [][]api.Member{nil, {}, of(1, 0), of(65535, 0), of(2, 0, 1, 0), row(16, 0)} {
				wantTable(t, k, m, l, make([]int, m))
			}
		}
	}
}

// Where there are more turns than slots, those whose turns come first have one slot for each.
func TestBuildOfMoreThanThereAreSlots(t *testing.T) {
	for _, k := range keys() {
		for _, c := range []struct {
			m    int
			l    []api.Member
			want []int
		}{
			{2, row(16, 1), []int{1, 2}},
			{2, row(16, 2), []int{1, 1}},
			{2, of(9, 1, 7, 1, 8, 1), []int{7, 8}},
			{2, of(65535, 1, 256, 1, 9, 1), []int{9, 256}},
			{2, of(1, 0, 2, 0, 3, 1, 4, 1), []int{3, 4}},
			{3, of(1, 1, 2, 4, 3, 4), []int{1, 2, 2}},
			{3, row(16, 4), []int{1, 1, 1}},
			{5, row(16, 1), []int{1, 2, 3, 4, 5}},
			{5, row(16, 4), []int{1, 1, 1, 1, 2}},
			{13, row(16, 3), []int{1, 1, 1, 2, 2, 2, 3, 3, 3, 4, 4, 4, 5}},
		} {
			table, e := Build(k, c.m, c.l)
			wantTable(t, k, c.m, c.l, buildBy(k, c.m, c.l))
			if slices.Sort(table); e != api.OK || !slices.Equal(table, c.want) {
				t.Errorf("Build(%x, %d, %v), in order: %v, want %v", k, c.m, c.l, table, c.want)
			}
		}
	}
}

// The member whose Node is least takes the first slot of its order, as many turns as its Weight says.
func TestBuildBeginsWithTheLeastNode(t *testing.T) {
	each(func(k keyed.Key, m int, l []api.Member) {
		var first api.Member
		for _, o := range l {
			if o.Weight > 0 && (first.Node == 0 || o.Node < first.Node) {
				first = o
			}
		}
		table, _ := Build(k, m, l)
		for _, slot := range perm.Of(k, first.Node, m)[:min(first.Weight, m)] {
			if table[slot] != first.Node {
				t.Errorf("Build(%x, %d, %v): slot %d is %d's", k, m, l, slot, table[slot])
			}
		}
	})
}

// Members of Weight 0 have no turns: without them the table is the same.
func TestBuildWithoutMembersOfNoWeight(t *testing.T) {
	each(func(k keyed.Key, m int, l []api.Member) {
		table, _ := Build(k, m, l)
		wantTable(t, k, m, slices.DeleteFunc(slices.Clone(l), func(o api.Member) bool { return o.Weight == 0 }), table)
	})
}

func TestSizesThatMayNotBe(t *testing.T) {
	for _, k := range keys() {
		for _, m := range oddSizes() {
			for _, l := range [][]api.Member{nil, {}, of(1, 1), row(16, 4), row(16, 0), of(1, 0)} {
				wantError(t, k, m, l, api.ErrArg)
			}
		}
	}
	for m := -300; m <= 70000; m++ {
		if !slices.Contains(sizes(), m) {
			wantError(t, plain(), m, of(1, 1), api.ErrArg)
			wantError(t, plain(), m, nil, api.ErrArg)
		}
	}
}

func TestBuildOfFaults(t *testing.T) {
	for _, f := range faults() {
		for _, m := range []int{2, 61, 251} {
			wantError(t, plain(), m, f.l, f.e)
		}
	}
	for _, k := range keys() {
		for _, m := range sizes() {
			wantError(t, k, m, row(17, 1), api.ErrMany)
			wantError(t, k, m, of(1, 1, 1, 1), api.ErrTwice)
			wantError(t, k, m, of(0, 1), api.ErrArg)
		}
	}
}

// The size is ahead of the members.
func TestSizeAheadOfFaults(t *testing.T) {
	for _, f := range faults() {
		for _, m := range oddSizes()[:12] {
			wantError(t, plain(), m, f.l, api.ErrArg)
		}
	}
	for _, m := range oddSizes() {
		wantError(t, plain(), m, row(17, 1), api.ErrArg)
		wantError(t, plain(), m, of(1, 1, 1, 1), api.ErrArg)
		wantError(t, plain(), m, of(0, 1), api.ErrArg)
	}
}

// Another key, with one bit of it changed alone, makes another table.
func TestBuildOfOthers(t *testing.T) {
	l := of(1, 1, 2, 2, 3, 3, 4, 1)
	told := map[string]string{}
	add := func(k keyed.Key, l []api.Member, what string) {
		t.Helper()
		table, _ := Build(k, 251, l)
		if was, ok := told[fmt.Sprint(table)]; ok {
			t.Errorf("%s and %s: the same table", was, what)
		}
		told[fmt.Sprint(table)] = what
	}
	for _, k := range keys() {
		add(k, l, fmt.Sprintf("%x", k))
	}
	for bit := range 64 {
		add(keyed.Key{A: plain().A ^ 1<<bit, B: plain().B}, l, fmt.Sprint("another bit ", bit, " of A"))
		add(keyed.Key{A: plain().A, B: plain().B ^ 1<<bit}, l, fmt.Sprint("another bit ", bit, " of B"))
	}
	for i := range l {
		o := slices.Clone(l)
		o[i].Weight++
		add(plain(), o, fmt.Sprint("another Weight of ", o[i].Node))
		o = slices.Clone(l)
		o[i].Node += 10
		add(plain(), o, fmt.Sprint("another Node than ", l[i].Node))
		add(plain(), slices.Delete(slices.Clone(l), i, i+1), fmt.Sprint("without ", l[i].Node))
	}
}

// P17.3

// wantWhole asks whether each slot of a table that is not empty has a member of a Weight above 0.
func wantWhole(t *testing.T, k keyed.Key, m int, l []api.Member) {
	t.Helper()
	table, e := Build(k, m, l)
	if e != api.OK || len(table) != m {
		t.Fatalf("Build(%x, %d, %v): %v, %d", k, m, l, table, e)
	}
	weights := map[int]int{}
	for _, o := range l {
		weights[o.Node] = o.Weight
	}
	for slot, node := range table {
		if Total(l) > 0 && weights[node] <= 0 {
			t.Errorf("Build(%x, %d, %v): slot %d is %d's", k, m, l, slot, node)
		}
	}
}

// wantFair asks whether the slots of any two members are as many as their Weights say, but for both Weights multiplied.
func wantFair(t *testing.T, k keyed.Key, m int, l []api.Member) {
	t.Helper()
	table, _ := Build(k, m, l)
	for _, a := range l {
		for _, b := range l {
			if Count(table, a.Node)*b.Weight-Count(table, b.Node)*a.Weight > a.Weight*b.Weight {
				t.Errorf("Build(%x, %d, %v): of %v %d slots, of %v %d", k, m, l, a, Count(table, a.Node), b, Count(table, b.Node))
			}
		}
	}
}

func TestEachSlotIsHadAndFairly(t *testing.T) {
	each(func(k keyed.Key, m int, l []api.Member) {
		wantWhole(t, k, m, l)
		wantFair(t, k, m, l)
	})
	r := rand.New(rand.NewSource(3))
	for _, m := range sizes() {
		for range 40 {
			k, l := keyed.Key{A: r.Uint64(), B: r.Uint64()}, drawn(r)
			wantWhole(t, k, m, l)
			wantFair(t, k, m, l)
		}
	}
}

// orders goes over each order of a list.
func orders(l []api.Member, do func(l []api.Member)) {
	if len(l) == 0 {
		do(nil)
	}
	for i, first := range l {
		orders(slices.Delete(slices.Clone(l), i, i+1), func(rest []api.Member) { do(append([]api.Member{first}, rest...)) })
	}
}

func TestEachOrderOfMembers(t *testing.T) {
	for _, l := range [][]api.Member{of(1, 1, 2, 1, 3, 1, 4, 1, 5, 1), of(1, 4, 2, 0, 256, 1, 255, 2, 65535, 3), of(9, 4, 10, 1, 11, 1)} {
		for _, k := range keys() {
			for _, m := range []int{2, 3, 61} {
				want := buildBy(k, m, l)
				many := 0
				orders(l, func(l []api.Member) {
					wantTable(t, k, m, l, want)
					many++
				})
				if many != 120 && len(l) == 5 || many != 6 && len(l) == 3 {
					t.Errorf("%d orders of %v", many, l)
				}
			}
		}
	}
}

func TestOtherOrdersOfMany(t *testing.T) {
	r := rand.New(rand.NewSource(4))
	each(func(k keyed.Key, m int, l []api.Member) {
		table, _ := Build(k, m, l)
		other := slices.Clone(l)
		slices.Reverse(other)
		wantTable(t, k, m, other, table)
		r.Shuffle(len(other), func(i, j int) { other[i], other[j] = other[j], other[i] })
		wantTable(t, k, m, other, table)
	})
}

// R1: no call panics, whatever it is given.
func TestWhateverIsGiven(t *testing.T) {
	numbers := slices.Concat(oddNodes(), oddWeights(), oddSizes(), []int{1, 2, 3, 4, 16, 61, 251, 65535})
	for _, a := range numbers {
		for _, b := range numbers {
			l := of(a, b, b, a, 1, 1)
			e := rightBy(l)
			wantRight(t, l, e)
			wantCount(t, []int{a, b, a, math.MinInt, math.MaxInt}, a, 2+len(slices.DeleteFunc([]int{b, math.MinInt, math.MaxInt}, func(n int) bool { return n != a })))
			if e != api.OK {
				wantTotal(t, l, 0)
				wantError(t, keyed.Key{A: uint64(a), B: uint64(b)}, 61, l, e)
			}
			Build(keyed.Key{A: uint64(a), B: uint64(b)}, b, of(a, 1))
			Build(keyed.Key{A: uint64(a), B: uint64(b)}, a, of(1, b))
			Build(plain(), a, l)
		}
	}
}

// A list as long as may be told apart by its Nodes, and behind it one that is there already, or many more, takes no long time.
func TestLongLists(t *testing.T) {
	long := row(65535, 4)
	wantRight(t, long, api.ErrMany)
	wantTotal(t, long, 0)
	wantError(t, plain(), 61, long, api.ErrMany)
	long = append(long, slices.Repeat(of(65535, 1), 1000000)...)
	wantRight(t, long, api.ErrTwice)
	wantCount(t, make([]int, 1000000), 0, 1000000)
}

// R3: what is handed in stays as it was, with the room behind it, and that room does not count.
func TestMembersStay(t *testing.T) {
	behind := of(65535, 4, 0, 9, 1, 1, -5, -5)
	lists := rights()
	for _, f := range faults() {
		if len(f.l) < 50 {
			lists = append(lists, f.l)
		}
	}
	for i, l := range lists {
		whole := slices.Concat(behind, l, behind)
		was := slices.Clone(whole)
		list := whole[len(behind) : len(behind)+len(l)]
		e := rightBy(l)
		wantRight(t, list, e)
		wantTotal(t, list, Total(l))
		if e == api.OK {
			wantTable(t, plain(), sizes()[i%54], list, buildBy(plain(), sizes()[i%54], l))
		} else {
			wantError(t, plain(), sizes()[i%54], list, e)
		}
		wantError(t, plain(), 4, list, api.ErrArg)
		if !slices.Equal(whole, was) {
			t.Errorf("%v, or what lies around it, changed to %v", l, whole)
		}
	}
}

func TestTableStays(t *testing.T) {
	whole := []int{7, 7, 7, 1, 2, 7, 0, 7, 7}
	was := slices.Clone(whole)
	for node := -1; node < 10; node++ {
		want := len(slices.DeleteFunc([]int{1, 2, 7, 0}, func(n int) bool { return n != node }))
		wantCount(t, whole[3:7], node, want)
	}
	if !slices.Equal(whole, was) {
		t.Errorf("the table, or what lies around it, changed to %v", whole)
	}
}

// R3, R4: asked again, Build tells what it told, also if that was changed meanwhile, with the room behind it; no two tables share any.
func TestAskedAgain(t *testing.T) {
	each(func(k keyed.Key, m int, l []api.Member) {
		table, _ := Build(k, m, l)
		was := slices.Clone(table)
		again, _ := Build(k, m, l)
		whole := table[:cap(table)]
		for i := range whole {
			whole[i] = -5
		}
		if !slices.Equal(again, was) {
			t.Errorf("Build(%x, %d, %v) shares what it told", k, m, l)
		}
		wantTable(t, k, m, l, was)
		wantRight(t, l, api.OK)
		wantTotal(t, l, Total(l))
	})
}

// What was handed in is not kept: members that changed behind a call are others to the next one, and change no table that was told.
func TestMembersThatChange(t *testing.T) {
	l := of(1, 1, 2, 2, 3, 3)
	table, _ := Build(plain(), 61, l)
	was := slices.Clone(table)
	for i := range l {
		l[i] = api.Member{Node: l[i].Node + 5, Weight: 4 - l[i].Weight}
	}
	if !slices.Equal(table, was) {
		t.Errorf("the table changed with the members to %v", table)
	}
	wantTotal(t, l, 6)
	wantTable(t, plain(), 61, l, buildBy(plain(), 61, of(6, 3, 7, 2, 8, 1)))
	l[0].Node = 8
	wantRight(t, l, api.ErrTwice)
	wantTotal(t, l, 0)
	wantError(t, plain(), 61, l, api.ErrTwice)
	wantTable(t, plain(), 61, of(1, 1, 2, 2, 3, 3), was)
}

// What was asked between changes nothing, nor does an error.
func TestAskedInAnotherOrder(t *testing.T) {
	var told [][]int
	lists := rights()
	for i, l := range lists {
		table, _ := Build(keys()[i%7], sizes()[i%54], l)
		told = append(told, table)
	}
	for i := len(told) - 1; i >= 0; i-- {
		wantError(t, keys()[i%7], sizes()[i%54], row(17, 1), api.ErrMany)
		wantError(t, keys()[i%7], 4, lists[i], api.ErrArg)
		wantTable(t, keys()[i%7], sizes()[i%54], lists[i], told[i])
	}
}

func TestNilAndEmptyAreTheSame(t *testing.T) {
	wantRight(t, nil, Right([]api.Member{}))
	wantTotal(t, nil, Total([]api.Member{}))
	wantCount(t, nil, 0, Count([]int{}, 0))
	for _, m := range append(sizes(), oddSizes()...) {
		a, e := Build(plain(), m, nil)
		b, f := Build(plain(), m, []api.Member{})
		if e != f || !slices.Equal(a, b) {
			t.Errorf("of %d slots: %v, %d of nil, and %v, %d of an empty list", m, a, e, b, f)
		}
	}
}
