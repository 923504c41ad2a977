package history

import (
	"math"
	"math/rand"
	"runtime"
	"slices"
	"testing"
	"weak"

	"harrier/api"
	"harrier/pick"
)

// ones is the number of which each bit is 1.
const ones = math.MaxUint64

// hashes are those at the edges, and ordinary ones.
func hashes() []uint64 {
	return []uint64{0, 1, 2, 3, 60, 61, 4294967295, 4294967296, 4294967297, 2 << 32, 3<<32 + 1, 1<<63 - 1, 1 << 63, 0x9e3779b97f4a7c15, 0x0123456789abcdef, ones - 1, ones}
}

// tables are such of many kinds: of no slot, of nobody, of one, of two and of many.
func tables() [][]int {
	l := [][]int{nil, {}, {0}, {-1, math.MinInt}, {1}, {3, 3, 5}, {0, 7}, {math.MaxInt, 1, 0}, {65535, 65536, 65537}, {1<<32 + 1, 1}}
	r := rand.New(rand.NewSource(20))
	for _, many := range []int{1, 2, 5, 13, 61, 251} {
		table := make([]int, many)
		for i := range table {
			table[i] = r.Intn(18) - 1
		}
		l = append(l, table, slices.Repeat([]int{many}, many))
	}
	return l
}

// past is all versions that ever were: by it is told what should be, by another way than the program's.
type past []Version

// kept are the last four of them.
func (p past) kept() []Version {
	var l []Version
	for back := 4; back > 0; back-- {
		if back <= len(p) {
			l = append(l, p[len(p)-back])
		}
	}
	return l
}

// errno tells what Push should answer.
func (p past) errno(now int) api.Errno {
	if now < 0 || len(p) > 0 && p[len(p)-1].From > now {
		return api.ErrArg
	}
	if len(p) > 3 && p[len(p)-4].Until > now-16 {
		return api.ErrBusy
	}
	return api.OK
}

// and tells what ever was when a table was pushed as well.
func (p past) and(now int, table []int) past {
	l := slices.Clone(p)
	if len(l) > 0 {
		l[len(l)-1].Until = now
	}
	return append(l, Version{len(l) + 1, now, -1, slices.Clone(table)})
}

func sameVersion(a, b Version) bool {
	return a.Number == b.Number && a.From == b.From && a.Until == b.Until && slices.Equal(a.Table, b.Table)
}

func wantPush(t *testing.T, h *History, now int, table []int, want api.Errno) {
	t.Helper()
	if got := h.Push(now, table); got != want {
		t.Errorf("Push(%d, %d): %d, want %d", now, table, got, want)
	}
}

func wantFree(t *testing.T, h *History, now int, want bool) {
	t.Helper()
	if got := h.Free(now); got != want {
		t.Errorf("Free(%d): %t", now, got)
	}
}

func wantPairs(t *testing.T, h *History, hash uint64, want [][2]int) {
	t.Helper()
	if got := h.Pairs(hash); !slices.Equal(got, want) {
		t.Errorf("Pairs(%#x): %d, want %d", hash, got, want)
	}
}

// wantKept wants that just these versions are kept, in all that is told of them.
func wantKept(t *testing.T, h *History, want ...Version) {
	t.Helper()
	if got := h.All(); !slices.EqualFunc(got, want, sameVersion) {
		t.Errorf("All: %d, want %d", got, want)
	}
	newest, ok := h.Newest()
	if len(want) == 0 {
		if ok || newest.Number != 0 || newest.From != 0 || newest.Until != 0 || len(newest.Table) != 0 {
			t.Errorf("Newest: %d, %t, where there is none", newest, ok)
		}
	} else if !ok || !sameVersion(newest, want[len(want)-1]) {
		t.Errorf("Newest: %d, %t, want %d", newest, ok, want[len(want)-1])
	}
	for _, hash := range []uint64{0, 1, 1 << 32, ones} {
		var pairs [][2]int
		for _, v := range want {
			first, second := pick.Two(v.Table, hash)
			pairs = append(pairs, [2]int{first, second})
		}
		wantPairs(t, h, hash, pairs)
	}
}

// spoil writes over all that a version's table has room for.
func spoil(v Version) {
	whole := v.Table[:cap(v.Table)]
	for i := range whole {
		whole[i] = -99
	}
}

// pushed tells a history to which a table was pushed at each of the ticks, all OK.
func pushed(t *testing.T, ticks ...int) (*History, past) {
	t.Helper()
	h, p := New(), past(nil)
	for i, now := range ticks {
		table := []int{i + 1, i + 101, 9}
		wantPush(t, h, now, table, api.OK)
		p = p.and(now, table)
	}
	return h, p
}

// P20.1

func TestNew(t *testing.T) {
	h := New()
	if h == nil || h == New() {
		t.Fatal("New tells no history, or one that it told before")
	}
	wantKept(t, h)
	for _, now := range []int{0, 1, 15, 16, 1 << 40, math.MaxInt} {
		wantFree(t, h, now, true)
		wantPush(t, New(), now, []int{4, 5}, api.OK)
	}
	for _, now := range []int{-1, -2, -16, -1 << 40, math.MinInt} {
		wantFree(t, h, now, false)
		wantPush(t, h, now, []int{4, 5}, api.ErrArg)
	}
	wantKept(t, h)
	for _, hash := range hashes() {
		wantPairs(t, h, hash, nil)
	}
}

func TestExample(t *testing.T) {
	h := New()
	one, two, three, four, five := []int{1, 2}, []int{2, 3}, []int{3, 4}, []int{4, 5}, []int{17, 18}
	wantPush(t, h, 0, one, api.OK)
	wantKept(t, h, Version{1, 0, -1, one})
	wantPush(t, h, 1, two, api.OK)
	wantKept(t, h, Version{1, 0, 1, one}, Version{2, 1, -1, two})
	wantPush(t, h, 2, three, api.OK)
	wantKept(t, h, Version{1, 0, 1, one}, Version{2, 1, 2, two}, Version{3, 2, -1, three})
	wantPush(t, h, 3, four, api.OK)
	full := []Version{{1, 0, 1, one}, {2, 1, 2, two}, {3, 2, 3, three}, {4, 3, -1, four}}
	wantKept(t, h, full...)
	wantFree(t, h, 16, false)
	wantPush(t, h, 16, five, api.ErrBusy)
	wantKept(t, h, full...)
	wantFree(t, h, 17, true)
	wantPush(t, h, 17, five, api.OK)
	wantKept(t, h, Version{2, 1, 2, two}, Version{3, 2, 3, three}, Version{4, 3, 17, four}, Version{5, 17, -1, five})
	wantPush(t, h, 17, five, api.ErrBusy)
	wantPush(t, h, 16, five, api.ErrArg)
	wantPush(t, h, 18, one, api.OK)
	wantKept(t, h, Version{3, 2, 3, three}, Version{4, 3, 17, four}, Version{5, 17, 18, five}, Version{6, 18, -1, one})
	wantPush(t, h, 18, one, api.ErrBusy)
	wantPush(t, h, 19, two, api.OK)
	wantKept(t, h, Version{4, 3, 17, four}, Version{5, 17, 18, five}, Version{6, 18, 19, one}, Version{7, 19, -1, two})
	wantPush(t, h, 32, two, api.ErrBusy)
	wantPush(t, h, 33, two, api.OK)
	wantKept(t, h, Version{5, 17, 18, five}, Version{6, 18, 19, one}, Version{7, 19, 33, two}, Version{8, 33, -1, two})
}

// Numbers go on however many versions went; no more than four are kept, however long ago the others were the newest.
func TestNumbersGoOn(t *testing.T) {
	h, p := New(), past(nil)
	for i := range 300 {
		now := 100 * i
		wantPush(t, h, now, []int{i + 1}, api.OK)
		p = p.and(now, []int{i + 1})
		wantKept(t, h, p.kept()...)
		if v, ok := h.Newest(); !ok || v.Number != i+1 || v.From != now || v.Until != -1 {
			t.Fatalf("Newest of %d versions: %d, %t", i+1, v, ok)
		}
	}
	last := Version{300, 29900, -1, []int{300}}
	wantKept(t, h, Version{297, 29600, 29700, []int{297}}, Version{298, 29700, 29800, []int{298}}, Version{299, 29800, 29900, []int{299}}, last)
}

func TestManyPushes(t *testing.T) {
	h := New()
	for i := range 70000 {
		if e := h.Push(16*i, []int{i + 1}); e != api.OK {
			t.Fatalf("push %d: %d", i, e)
		}
	}
	wantKept(t, h,
		Version{69997, 1119936, 1119952, []int{69997}}, Version{69998, 1119952, 1119968, []int{69998}},
		Version{69999, 1119968, 1119984, []int{69999}}, Version{70000, 1119984, -1, []int{70000}})
}

// now may be the tick of the newest one, but no earlier one, and none below 0.
func TestEarly(t *testing.T) {
	for _, ticks := range [][]int{{5}, {0, 5}, {5, 5}, {0, 1, 5}, {0, 1, 2, 5}, {0, 10, 20, 30, 40}, {0, 0, 0, 0}, {math.MaxInt}, {0, math.MaxInt}, {0, 1, 2, math.MaxInt}} {
		h, p := pushed(t, ticks...)
		last := ticks[len(ticks)-1]
		for _, now := range []int{last - 1, last - 2, last - 16, 0, -1, -2, -last, -1 << 32, math.MinInt, math.MinInt + 1} {
			if now < last || now < 0 {
				wantFree(t, h, now, false)
				wantPush(t, h, now, []int{8}, api.ErrArg)
				wantKept(t, h, p.kept()...)
			}
		}
		if len(ticks) < 4 {
			wantFree(t, h, last, true)
			wantPush(t, h, last, []int{8}, api.OK)
			wantKept(t, h, p.and(last, []int{8}).kept()...)
		}
	}
}

// The end of one version is the beginning of the next, also where both are at one tick.
func TestAtOneTick(t *testing.T) {
	for _, now := range []int{0, 7, math.MaxInt} {
		h := New()
		for n := 1; n <= 4; n++ {
			wantPush(t, h, now, []int{n}, api.OK)
		}
		full := []Version{{1, now, now, []int{1}}, {2, now, now, []int{2}}, {3, now, now, []int{3}}, {4, now, -1, []int{4}}}
		wantKept(t, h, full...)
		wantPush(t, h, now, []int{5}, api.ErrBusy)
		wantKept(t, h, full...)
	}
	// Where the three that are the oldest ended at one tick, three may come at one tick.
	h := New()
	for n := 1; n <= 4; n++ {
		wantPush(t, h, 7, []int{n}, api.OK)
	}
	wantPush(t, h, 22, []int{5}, api.ErrBusy)
	for n := 5; n <= 7; n++ {
		wantPush(t, h, 23, []int{n}, api.OK)
	}
	wantKept(t, h, Version{4, 7, 23, []int{4}}, Version{5, 23, 23, []int{5}}, Version{6, 23, 23, []int{6}}, Version{7, 23, -1, []int{7}})
	wantPush(t, h, 23, []int{8}, api.ErrBusy)
	wantPush(t, h, 38, []int{8}, api.ErrBusy)
	wantPush(t, h, 39, []int{8}, api.OK)
	wantKept(t, h, Version{5, 23, 23, []int{5}}, Version{6, 23, 23, []int{6}}, Version{7, 23, 39, []int{7}}, Version{8, 39, -1, []int{8}})
}

// It is the oldest one's Until that counts: not its From, and not what there is of the others.
func TestBusy(t *testing.T) {
	for _, c := range []struct{ ticks, busy, free []int }{
		{[]int{0, 0, 0, 0}, []int{0, 1, 14, 15}, []int{16, 17, 100, math.MaxInt}},
		{[]int{0, 1, 2, 3}, []int{3, 15, 16}, []int{17, 18, math.MaxInt}},
		{[]int{0, 20, 20, 20}, []int{20, 21, 35}, []int{36, 37}},
		{[]int{0, 20, 40, 60}, nil, []int{60, 61, 1000}},
		{[]int{0, 0, 0, 100}, nil, []int{100, 101}},
		{[]int{0, 0, 0, 15}, []int{15}, []int{16}},
		{[]int{0, 0, 0, 16}, nil, []int{16}},
		{[]int{0, 90, 90, 100}, []int{100, 104, 105}, []int{106}},
		{[]int{0, 1, 50, 51}, nil, []int{51}},
		{[]int{7, 8, 9, 22}, []int{22, 23}, []int{24}},
		{[]int{0, 30, 45, 46}, nil, []int{46, 47}},
		{[]int{0, 31, 45, 46}, []int{46}, []int{47}},
		{[]int{0, 1 << 40, 1 << 40, 1<<40 + 3}, []int{1<<40 + 3, 1<<40 + 15}, []int{1<<40 + 16}},
		{[]int{0, 0, 0, math.MaxInt}, nil, []int{math.MaxInt}},
		{[]int{0, math.MaxInt, math.MaxInt, math.MaxInt}, []int{math.MaxInt}, nil},
		{[]int{0, math.MaxInt - 15, math.MaxInt, math.MaxInt}, []int{math.MaxInt}, nil},
		{[]int{0, math.MaxInt - 16, math.MaxInt - 1, math.MaxInt - 1}, []int{math.MaxInt - 1}, []int{math.MaxInt}},
		{[]int{0, 20, 40, 60, 70, 72}, nil, []int{86, 87}},
		{[]int{0, 20, 40, 60, 61, 62, 76}, []int{76}, []int{77}},
	} {
		for _, now := range c.busy {
			h, p := pushed(t, c.ticks...)
			wantFree(t, h, now, false)
			wantPush(t, h, now, []int{8}, api.ErrBusy)
			wantKept(t, h, p.kept()...)
		}
		for _, now := range c.free {
			h, p := pushed(t, c.ticks...)
			wantFree(t, h, now, true)
			wantPush(t, h, now, []int{8}, api.OK)
			wantKept(t, h, p.and(now, []int{8}).kept()...)
		}
	}
}

// Of fewer than four none goes, and none is too new.
func TestNeverBusyBelowFour(t *testing.T) {
	for _, gap := range []int{0, 1, 15, 16, 17, 1000, 1 << 40} {
		h, p := New(), past(nil)
		for i := range 4 {
			wantFree(t, h, i*gap, true)
			wantPush(t, h, i*gap, []int{i}, api.OK)
			p = p.and(i*gap, []int{i})
			wantKept(t, h, p...)
		}
	}
}

// Where both are wrong, ErrArg comes first.
func TestEarlyAheadOfBusy(t *testing.T) {
	h, p := pushed(t, 10, 11, 12, 13)
	for _, now := range []int{12, 11, 10, 0, -1, math.MinInt} {
		wantPush(t, h, now, []int{8}, api.ErrArg)
	}
	wantPush(t, h, 13, []int{8}, api.ErrBusy)
	wantPush(t, h, 26, []int{8}, api.ErrBusy)
	wantKept(t, h, p.kept()...)
}

// Errors leave no trace: what comes behind them is as if they had never been.
func TestErrorsChangeNothing(t *testing.T) {
	h, p := pushed(t, 4, 5, 6, 7)
	for range 3 {
		for _, now := range []int{-1, 3, 6, 7, 15, 20, math.MinInt} {
			if h.Push(now, []int{50, 51}) == api.OK {
				t.Fatalf("Push(%d) is OK", now)
			}
			wantKept(t, h, p.kept()...)
		}
	}
	wantFree(t, h, 21, true)
	wantPush(t, h, 21, []int{6, 7}, api.OK)
	wantKept(t, h, p.and(21, []int{6, 7}).kept()...)
	if v, _ := h.Newest(); v.Number != 5 {
		t.Errorf("the Number behind errors: %d, want 5", v.Number)
	}
}

// Free tells what Push would, and changes nothing.
func TestFree(t *testing.T) {
	for _, ticks := range [][]int{nil, {0}, {9}, {3, 9}, {3, 9, 11}, {0, 1, 2, 3}, {3, 9, 11, 13}, {0, 20, 40, 41}, {0, 20, 40, 60, 61}} {
		h, p := pushed(t, ticks...)
		for now := -3; now < 90; now++ {
			other, _ := pushed(t, ticks...)
			want := other.Push(now, []int{1}) == api.OK
			wantFree(t, h, now, want)
			if want != (p.errno(now) == api.OK) {
				t.Errorf("behind %d, Push at %d is OK: %t", ticks, now, want)
			}
		}
		wantKept(t, h, p.kept()...)
	}
}

// The same table again is a version as any other, and so is one of nobody, or of no slot.
func TestEachTableIsAVersion(t *testing.T) {
	h, p := New(), past(nil)
	for i, table := range tables() {
		for again := range 2 {
			now := 40*i + 17*again
			wantPush(t, h, now, table, api.OK)
			p = p.and(now, table)
			wantKept(t, h, p.kept()...)
		}
	}
}

// Each way to step on, up to seven times: also by steps that may not be.
func TestEachOfFew(t *testing.T) {
	steps := []int{-1, 0, 1, 8, 16}
	var try func(ticks []int)
	try = func(ticks []int) {
		h, p := New(), past(nil)
		for i, now := range ticks {
			want := p.errno(now)
			if h.Free(now) != (want == api.OK) || h.Push(now, []int{i + 1, 9}) != want {
				t.Fatalf("push %d of %d: not %d", i, ticks, want)
			}
			if want == api.OK {
				p = p.and(now, []int{i + 1, 9})
			}
		}
		if got := h.All(); !slices.EqualFunc(got, p.kept(), sameVersion) {
			t.Fatalf("All behind pushes at %d: %d, want %d", ticks, got, p.kept())
		}
		if len(ticks) == 7 {
			return
		}
		at := 0
		if len(p) > 0 {
			at = p[len(p)-1].From
		}
		for _, step := range steps {
			try(append(slices.Clone(ticks), at+step))
		}
	}
	try(nil)
}

func TestByAnotherWay(t *testing.T) {
	all := tables()
	for seed := range int64(60) {
		r := rand.New(rand.NewSource(seed))
		h, p, now := New(), past(nil), 0
		for range 120 {
			at := now + r.Intn(2+int(seed)%24) - r.Intn(3)
			table := all[r.Intn(len(all))]
			want := p.errno(at)
			wantFree(t, h, at, want == api.OK)
			wantPush(t, h, at, table, want)
			if want == api.OK {
				p = p.and(at, table)
			}
			wantKept(t, h, p.kept()...)
			now = max(now, at)
		}
	}
}

// P20.2

func TestKnownPairs(t *testing.T) {
	h := New()
	wantPush(t, h, 0, []int{3, 3, 5}, api.OK)
	wantPairs(t, h, 1, [][2]int{{3, 5}})
	wantPairs(t, h, 2, [][2]int{{5, 3}})
	wantPush(t, h, 0, []int{0, 7}, api.OK)
	wantPush(t, h, 0, []int{4, 2, 9, 9}, api.OK)
	wantPush(t, h, 0, nil, api.OK)
	wantPairs(t, h, 0, [][2]int{{3, 5}, {7, 0}, {4, 2}, {0, 0}})
	wantPairs(t, h, 1, [][2]int{{3, 5}, {7, 0}, {2, 4}, {0, 0}})
	wantPairs(t, h, 2, [][2]int{{5, 3}, {7, 0}, {9, 4}, {0, 0}})
	wantPairs(t, h, 2<<32, [][2]int{{5, 3}, {7, 0}, {4, 9}, {0, 0}})
	wantPairs(t, h, 2<<32+2, [][2]int{{3, 5}, {7, 0}, {9, 4}, {0, 0}})
	wantPairs(t, h, 1<<32+5, [][2]int{{3, 5}, {7, 0}, {2, 9}, {0, 0}})
	wantPairs(t, h, ones, [][2]int{{3, 5}, {7, 0}, {9, 4}, {0, 0}})
	wantPush(t, h, 16, []int{-1, 0, math.MinInt}, api.OK)
	wantPairs(t, h, 1, [][2]int{{7, 0}, {2, 4}, {0, 0}, {0, 0}})
	wantPush(t, h, 16, []int{math.MaxInt, 1}, api.OK)
	wantPairs(t, h, 1, [][2]int{{2, 4}, {0, 0}, {0, 0}, {1, math.MaxInt}})
}

func TestPairsOfEachTable(t *testing.T) {
	h, p := New(), past(nil)
	for i, table := range tables() {
		wantPush(t, h, 16*i, table, api.OK)
		p = p.and(16*i, table)
		for _, hash := range hashes() {
			var want [][2]int
			for _, v := range p.kept() {
				first, second := pick.Two(v.Table, hash)
				want = append(want, [2]int{first, second})
			}
			wantPairs(t, h, hash, want)
		}
	}
}

// All versions have a pair, also two that have the same one.
func TestPairsThatAreTheSame(t *testing.T) {
	h := New()
	for n := 1; n <= 4; n++ {
		wantPush(t, h, n, []int{6, 8}, api.OK)
		wantPairs(t, h, 0, slices.Repeat([][2]int{{6, 8}}, n))
		wantPairs(t, h, 1, slices.Repeat([][2]int{{8, 6}}, n))
	}
}

// The first version that ever was is told by Newest like any other, though its From is 0.
func TestNewestOfOne(t *testing.T) {
	h := New()
	wantPush(t, h, 0, nil, api.OK)
	v, ok := h.Newest()
	if !ok || v.Number != 1 || v.From != 0 || v.Until != -1 || len(v.Table) != 0 {
		t.Errorf("Newest: %d, %t", v, ok)
	}
	wantKept(t, h, Version{1, 0, -1, nil})
}

// P20.3

func TestUnmade(t *testing.T) {
	for _, h := range []*History{nil, {}, new(History)} {
		for range 2 {
			for _, now := range []int{0, 1, 16, -1, math.MinInt, math.MaxInt} {
				wantFree(t, h, now, false)
				for _, table := range [][]int{nil, {}, {1, 2}} {
					wantPush(t, h, now, table, api.ErrMade)
				}
			}
			wantKept(t, h)
			for _, hash := range hashes() {
				wantPairs(t, h, hash, nil)
			}
		}
	}
	var zero History
	wantPush(t, &zero, 0, []int{1}, api.ErrMade)
	if zero.kept != nil || zero.made {
		t.Errorf("a history that no call made changed to %v", zero)
	}
}

// P20.4

func TestWhatIsNeededIsKept(t *testing.T) {
	for seed := range int64(40) {
		r := rand.New(rand.NewSource(seed))
		h, now := New(), 0
		ever := map[int]Version{}
		for i := range 400 {
			now += r.Intn(2 + int(seed)%9)
			table := []int{i + 1, 2*i + 1}
			h.Push(now, table)
			kept := map[int]Version{}
			for _, v := range h.All() {
				kept[v.Number], ever[v.Number] = v, v
			}
			for number, v := range ever {
				is, ok := kept[number]
				if !ok && (v.Until == -1 || now-v.Until < 16) {
					t.Fatalf("at %d version %d is gone", now, v)
				}
				if ok && !sameVersion(is, v) {
					t.Fatalf("at %d version %d is %d", now, v, is)
				}
			}
		}
	}
}

// A version is kept through all the ticks at which it is needed, and goes with the first push behind them.
func TestKeptToTheLastTick(t *testing.T) {
	h, p := pushed(t, 0, 30, 31, 32)
	for now := 32; now < 46; now++ {
		wantPush(t, h, now, []int{now}, api.ErrBusy)
		wantKept(t, h, p.kept()...)
	}
	wantPush(t, h, 46, []int{46}, api.OK)
	wantKept(t, h, p.and(46, []int{46}).kept()...)
	if h.All()[0].Number != 2 {
		t.Errorf("the oldest one: %d", h.All()[0])
	}
}

// R3

// What is handed in stays as it was, with the room behind it, and that room is not in the table.
func TestTablesStay(t *testing.T) {
	behind := []int{8, 0, -1, 900, math.MaxInt}
	for _, table := range tables() {
		whole := slices.Concat(behind, table, behind)
		was := slices.Clone(whole)
		part := whole[len(behind) : len(behind)+len(table)]
		h, p := New(), past(nil)
		for _, now := range []int{0, 1, 2, 3, 4, 40, -1} {
			want := p.errno(now)
			wantPush(t, h, now, part, want)
			if want == api.OK {
				p = p.and(now, table)
			}
		}
		for _, v := range h.All() {
			spoil(v)
		}
		wantKept(t, h, p.kept()...)
		if !slices.Equal(whole, was) {
			t.Errorf("what was handed in, or what lies around it, changed to %d", whole)
		}
	}
}

// A table that changes behind the call is another one to the next call alone.
func TestTablesThatChange(t *testing.T) {
	h, table := New(), []int{1, 2, 3}
	wantPush(t, h, 0, table, api.OK)
	table[0] = 50
	wantPush(t, h, 1, table[:2], api.OK)
	table[1] = 60
	wantPush(t, h, 2, table[1:], api.OK)
	table[2], table[1] = 70, 80
	wantKept(t, h, Version{1, 0, 1, []int{1, 2, 3}}, Version{2, 1, 2, []int{50, 2}}, Version{3, 2, -1, []int{60, 3}})
	wantPairs(t, h, 0, [][2]int{{1, 2}, {50, 2}, {60, 3}})
}

// What is told is new memory: who writes there changes nothing else.
func TestAnswersAreNew(t *testing.T) {
	h, p := pushed(t, 0, 1, 2, 3)
	wantAgain := func() {
		t.Helper()
		wantKept(t, h, p.kept()...)
	}
	newest, _ := h.Newest()
	spoil(newest)
	wantAgain()
	all, again := h.All(), h.All()
	for i := range all {
		spoil(all[i])
		all[i].Number, all[i].From, all[i].Until = -5, -5, -5
		all[i].Table = nil
	}
	for i := range all[:cap(all)] {
		all[:cap(all)][i] = Version{-6, -6, -6, []int{6}}
	}
	wantAgain()
	if !slices.EqualFunc(again, p.kept(), sameVersion) {
		t.Errorf("what All told once changed with what it told at another time: %d", again)
	}
	pairs, more := h.Pairs(0), h.Pairs(0)
	for i := range pairs[:cap(pairs)] {
		pairs[:cap(pairs)][i] = [2]int{-7, -7}
	}
	if !slices.Equal(more, [][2]int{{1, 101}, {2, 102}, {3, 103}, {4, 104}}) {
		t.Errorf("what Pairs told once changed with what they told at another time: %d", more)
	}
	wantAgain()
	wantPush(t, h, 17, []int{5}, api.OK)
	p = p.and(17, []int{5})
	wantAgain()
}

// No two lists of one answer share memory, also where one table was pushed again and again.
func TestListsOfOneAnswer(t *testing.T) {
	h, table := New(), []int{1, 2, 3}
	for now := range 4 {
		wantPush(t, h, now, table, api.OK)
	}
	all := h.All()
	for i, v := range all {
		spoil(v)
		_ = append(v.Table, 5, 6, 7)
		for j, other := range all[i+1:] {
			if !slices.Equal(other.Table, table) {
				t.Errorf("the tables %d and %d share memory", i, i+1+j)
			}
		}
	}
	wantKept(t, h, Version{1, 0, 1, table}, Version{2, 1, 2, table}, Version{3, 2, 3, table}, Version{4, 3, -1, table})
}

// What Newest told is a table that can be pushed, and written over, as any other.
func TestPushWhatWasTold(t *testing.T) {
	h, p := pushed(t, 0)
	for now := 1; now < 4; now++ {
		v, _ := h.Newest()
		wantPush(t, h, now, v.Table, api.OK)
		p = p.and(now, []int{1, 101, 9})
		spoil(v)
		wantKept(t, h, p.kept()...)
	}
}

// What was told stays as it was, whatever is pushed then.
func TestAnswersStay(t *testing.T) {
	h, p := pushed(t, 0, 1, 2)
	all, pairs := h.All(), h.Pairs(1)
	newest, _ := h.Newest()
	was, wasPairs := p.kept(), slices.Clone(pairs)
	for now := 3; now < 60; now++ {
		h.Push(now, []int{now})
	}
	if !slices.EqualFunc(all, was, sameVersion) || !sameVersion(newest, was[2]) || !slices.Equal(pairs, wasPairs) {
		t.Errorf("what was told changed to %d, %d, %d", all, newest, pairs)
	}
}

// What an iterator tells may be left at any time, gone over again, and nested.
func TestEach(t *testing.T) {
	h, p := pushed(t, 0, 1, 2, 3)
	each := h.each()
	for stop := 1; stop <= 4; stop++ {
		n := 0
		for v := range each {
			if !sameVersion(v, p[n]) {
				t.Errorf("version %d: %d, want %d", n, v, p[n])
			}
			if n++; n == stop {
				break
			}
		}
		if n != stop {
			t.Errorf("left behind %d, not behind %d", n, stop)
		}
	}
	n := 0
	for a := range each {
		for b := range each {
			n += a.Number * b.Number
		}
	}
	if n != 100 {
		t.Errorf("nested: %d, want 100", n)
	}
	for _, none := range []*History{nil, {}, New()} {
		for v := range none.each() {
			t.Errorf("%d is told of none", v)
		}
	}
}

func TestNilAndEmptyAreTheSame(t *testing.T) {
	for _, table := range [][]int{nil, {}, make([]int, 0, 9), []int{1, 2}[2:]} {
		h := New()
		wantPush(t, h, 3, table, api.OK)
		wantKept(t, h, Version{1, 3, -1, nil})
		wantPush(t, h, 4, []int{1}, api.OK)
		wantKept(t, h, Version{1, 3, 4, nil}, Version{2, 4, -1, []int{1}})
		wantPush(t, h, 3, table, api.ErrArg)
	}
}

// Where a version goes, its table is held no more.
func TestWhatWentIsGone(t *testing.T) {
	h := New()
	var held []weak.Pointer[int]
	for now := range 12 {
		wantPush(t, h, 16*now, make([]int, 4096), api.OK)
		held = append(held, weak.Make(&h.kept[len(h.kept)-1].Table[0]))
		runtime.GC()
		for i, p := range held {
			if gone := i < len(held)-4; gone != (p.Value() == nil) {
				t.Fatalf("of %d versions the table of version %d is held: %t", now+1, i+1, gone)
			}
		}
	}
	runtime.KeepAlive(h)
}

// R4

// Two histories are two: what is done with one changes nothing of the other.
func TestTwoHistories(t *testing.T) {
	a, b := New(), New()
	var wasA, wasB past
	for i := range 40 {
		wantPush(t, a, 20*i, []int{i + 1}, api.OK)
		wasA = wasA.and(20*i, []int{i + 1})
		wantKept(t, b, wasB.kept()...)
		if i%3 == 0 {
			wantPush(t, b, 7*i, []int{100 + i, i}, wasB.errno(7*i))
			wasB = wasB.and(7*i, []int{100 + i, i})
		}
		wantKept(t, a, wasA.kept()...)
		wantKept(t, b, wasB.kept()...)
	}
	wantKept(t, New())
}

// Asked again, and in whatever order, each call tells what it told.
func TestAskedAgain(t *testing.T) {
	h, p := pushed(t, 0, 20, 40, 60, 61)
	for range 5 {
		for _, hash := range hashes() {
			wantPairs(t, h, hash, h.Pairs(hash))
			wantFree(t, h, 61, true)
			wantFree(t, h, 60, false)
		}
		wantKept(t, h, p.kept()...)
	}
	other, _ := pushed(t, 0, 20, 40, 60, 61)
	for _, hash := range hashes() {
		wantPairs(t, other, hash, h.Pairs(hash))
	}
}

// Long tables take no long time.
func TestLongTables(t *testing.T) {
	const many = 1000000
	table := make([]int, many)
	for i := range table {
		table[i] = i + 1
	}
	h := New()
	for now := range 6 {
		if e := h.Push(16*now, table); e != api.OK {
			t.Errorf("push %d: %d", now, e)
		}
	}
	// The hash modulo 1000000 is 771071, and its higher 32 bits are 7.
	wantPairs(t, h, 7<<32+999999, slices.Repeat([][2]int{{771072, 8}}, 4))
	for i, v := range h.All() {
		if v.Number != i+3 || !slices.Equal(v.Table, table) {
			t.Errorf("version %d of a long table is %d, or another table", i+3, v.Number)
		}
	}
}
