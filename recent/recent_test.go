package recent

import (
	"cmp"
	"math"
	"math/rand"
	"slices"
	"testing"
)

// outside tells numbers that a list of n can't have.
func outside(n int) []int {
	return []int{-1, -2, -n, -n - 1, n, n + 1, 2 * n, 255 + n, 256 + n, 1 << 32, 1<<32 + n - 1, -1 << 32, math.MaxInt, math.MaxInt - 1, math.MinInt, math.MinInt + 1, math.MinInt + n}
}

// wantIs wants that a list of n has just these numbers, the one touched last first, by each call that tells of it, and told again.
func wantIs(t *testing.T, l *List, n int, want ...int) {
	t.Helper()
	for range 2 {
		if got := l.All(); !slices.Equal(got, want) {
			t.Fatalf("All: %v, want %v", got, want)
		}
		if got := l.Len(); got != len(want) {
			t.Fatalf("Len: %d, want %d: %v", got, len(want), want)
		}
		wantOldest(t, l, want)
		for i := range n {
			if got := l.Has(i); got != slices.Contains(want, i) {
				t.Fatalf("Has(%d): %t, and the numbers are %v", i, got, want)
			}
		}
		for _, i := range outside(n) {
			if l.Has(i) {
				t.Fatalf("Has(%d) of a list of %d", i, n)
			}
		}
	}
}

// wantOldest wants that Oldest tells the last of some numbers, or none.
func wantOldest(t *testing.T, l *List, all []int) {
	t.Helper()
	want, there := 0, len(all) > 0
	if there {
		want = all[len(all)-1]
	}
	if got, ok := l.Oldest(); got != want || ok != there {
		t.Fatalf("Oldest: %d, %t, want %d, %t: %v", got, ok, want, there, all)
	}
}

func wantTouch(t *testing.T, l *List, i int, want bool) {
	t.Helper()
	if got := l.Touch(i); got != want {
		t.Fatalf("Touch(%d): %t", i, got)
	}
}

func wantDrop(t *testing.T, l *List, i int, want bool) {
	t.Helper()
	if got := l.Drop(i); got != want {
		t.Fatalf("Drop(%d): %t", i, got)
	}
}

// wantNothing wants that each call of a list that no call made tells nothing.
func wantNothing(t *testing.T, l *List) {
	t.Helper()
	for range 2 {
		for _, i := range append(outside(4), 0, 1, 2, 3, 255) {
			wantTouch(t, l, i, false)
			wantIs(t, l, 4)
			wantDrop(t, l, i, false)
			wantIs(t, l, 4)
		}
	}
}

// touched tells a list of n in which these numbers were touched, one by one.
func touched(t *testing.T, n int, numbers ...int) *List {
	t.Helper()
	l := New(n)
	if l == nil {
		t.Fatalf("New(%d): nil", n)
	}
	for _, i := range numbers {
		wantTouch(t, l, i, true)
	}
	return l
}

// upTo tells the numbers from 0 on, below n.
func upTo(n int) []int {
	var all []int
	for i := range n {
		all = append(all, i)
	}
	return all
}

// turned tells a list's numbers from its end on.
func turned(all []int) []int {
	all = slices.Clone(all)
	slices.Reverse(all)
	return all
}

// without tells the numbers but one.
func without(all []int, i int) []int {
	return slices.DeleteFunc(slices.Clone(all), func(j int) bool { return j == i })
}

// clock is a list's model: it has no order, but when each number was touched.
type clock struct {
	n, now int
	when   map[int]int
}

func newClock(n int) *clock { return &clock{n: n, when: map[int]int{}} }

func (c *clock) touch(i int) bool {
	if i < 0 || i >= c.n {
		return false
	}
	c.now++
	c.when[i] = c.now
	return true
}

func (c *clock) drop(i int) bool {
	_, there := c.when[i]
	delete(c.when, i)
	return there
}

func (c *clock) all() []int {
	var all []int
	for i := range c.when {
		all = append(all, i)
	}
	slices.SortFunc(all, func(i, j int) int { return cmp.Compare(c.when[j], c.when[i]) })
	return all
}

// states tells each order in which each choice of the numbers below n may stand.
func states(n int) [][]int {
	l := [][]int{nil}
	for from := 0; from < len(l); from++ {
		for i := range n {
			if !slices.Contains(l[from], i) {
				l = append(l, append(slices.Clone(l[from]), i))
			}
		}
	}
	return l
}

// P22.1
func TestNewTellsAnEmptyListOfOneTo256Numbers(t *testing.T) {
	for n := 1; n <= 256; n++ {
		wantIs(t, touched(t, n), n)
	}
}

// P22.1
func TestNewTellsNilOfAnotherNumber(t *testing.T) {
	for _, n := range []int{0, -1, -2, -255, -256, -257, 257, 258, 512, 1 << 16, 1 << 32, 1<<32 + 1, 1<<32 + 256, -1 << 32, math.MaxInt, math.MaxInt - 1, math.MinInt, math.MinInt + 1, math.MinInt + 256} {
		l := New(n)
		if l != nil {
			t.Errorf("New(%d) is a list", n)
		}
		wantNothing(t, l)
	}
}

// P22.1
func TestTheListOfTheChapter(t *testing.T) {
	l := touched(t, 3, 1, 2, 1)
	wantIs(t, l, 3, 1, 2)
	if i, ok := l.Oldest(); i != 2 || !ok {
		t.Errorf("Oldest: %d, %t", i, ok)
	}
}

// P22.1
func TestTouchMakesANumberTheOneThatWasTouchedLast(t *testing.T) {
	for _, c := range []struct {
		what    string
		numbers []int
		touch   int
		want    []int
	}{
		{"the first one", nil, 2, []int{2}},
		{"a number that is not there", []int{0, 3}, 2, []int{2, 3, 0}},
		{"the only one", []int{2}, 2, []int{2}},
		{"the newest one", []int{0, 1, 2}, 2, []int{2, 1, 0}},
		{"the oldest one", []int{2, 1, 0}, 2, []int{2, 0, 1}},
		{"the one in the middle", []int{0, 2, 1}, 2, []int{2, 1, 0}},
		{"the newer one of two", []int{4, 2}, 2, []int{2, 4}},
		{"the elder one of two", []int{2, 4}, 2, []int{2, 4}},
		{"the second one of a full list", []int{0, 1, 3, 2, 4}, 2, []int{2, 4, 3, 1, 0}},
		{"the one ahead of the oldest one", []int{0, 2, 1, 3, 4}, 2, []int{2, 4, 3, 1, 0}},
		{"number 0", []int{0, 1, 2}, 0, []int{0, 2, 1}},
		{"the greatest number", []int{4, 1, 2}, 4, []int{4, 2, 1}},
	} {
		l := touched(t, 5, c.numbers...)
		t.Log(c.what)
		for range 3 {
			wantTouch(t, l, c.touch, true)
			wantIs(t, l, 5, c.want...)
		}
	}
}

// P22.1
func TestTouchOfANumberThatMayNotBeIsFalse(t *testing.T) {
	for _, n := range []int{1, 2, 3, 64, 255, 256} {
		for _, numbers := range [][]int{nil, {0}, {n - 1}, upTo(n), turned(upTo(n))} {
			l := touched(t, n, numbers...)
			for _, i := range outside(n) {
				wantTouch(t, l, i, false)
				wantTouch(t, l, i, false)
				wantIs(t, l, n, turned(numbers)...)
			}
		}
	}
}

// P22.1
func TestEachListTakesTheNumbersBelowItsOwn(t *testing.T) {
	for n := 1; n <= 256; n++ {
		l := touched(t, n)
		for i := -2; i < 260; i++ {
			wantTouch(t, l, i, i >= 0 && i < n)
		}
		wantIs(t, l, n, turned(upTo(n))...)
	}
}

// P22.1
func TestDropTakesANumberOut(t *testing.T) {
	for _, c := range []struct {
		what    string
		numbers []int
		drop    int
		want    []int
	}{
		{"the only one", []int{2}, 2, nil},
		{"the newest one", []int{0, 1, 2}, 2, []int{1, 0}},
		{"the oldest one", []int{2, 1, 0}, 2, []int{0, 1}},
		{"the one in the middle", []int{0, 2, 1}, 2, []int{1, 0}},
		{"the newer one of two", []int{4, 2}, 2, []int{4}},
		{"the elder one of two", []int{2, 4}, 2, []int{4}},
		{"one of a full list", []int{0, 1, 3, 2, 4}, 2, []int{4, 3, 1, 0}},
		{"one that was touched twice", []int{2, 1, 2, 3}, 2, []int{3, 1}},
		{"number 0", []int{0, 1, 2}, 0, []int{2, 1}},
		{"the greatest number", []int{0, 4, 2}, 4, []int{2, 0}},
	} {
		l := touched(t, 5, c.numbers...)
		t.Log(c.what)
		wantDrop(t, l, c.drop, true)
		wantIs(t, l, 5, c.want...)
		for range 2 {
			wantDrop(t, l, c.drop, false)
			wantIs(t, l, 5, c.want...)
		}
		wantTouch(t, l, c.drop, true)
		wantIs(t, l, 5, append([]int{c.drop}, c.want...)...)
		wantDrop(t, l, c.drop, true)
		wantIs(t, l, 5, c.want...)
	}
}

// P22.1
func TestDropOfOneThatIsNotThereIsFalse(t *testing.T) {
	for _, n := range []int{1, 2, 3, 64, 255, 256} {
		for _, numbers := range [][]int{nil, {0}, {n - 1}, upTo(n), turned(upTo(n))} {
			l := touched(t, n, numbers...)
			for _, i := range append(outside(n), 0, n/2, n-1) {
				if slices.Contains(numbers, i) {
					continue
				}
				wantDrop(t, l, i, false)
				wantIs(t, l, n, turned(numbers)...)
			}
		}
	}
}

// P22.1
func TestHasTellsWhetherANumberIsThere(t *testing.T) {
	l := New(256)
	for i := range 256 {
		if l.Has(i) {
			t.Errorf("%d is there ahead of its Touch", i)
		}
		wantTouch(t, l, i, true)
		if !l.Has(i) {
			t.Errorf("%d is not there behind its Touch", i)
		}
	}
	for i := range 256 {
		if !l.Has(i) {
			t.Errorf("%d is not there ahead of its Drop", i)
		}
		wantDrop(t, l, i, true)
		if l.Has(i) {
			t.Errorf("%d is there behind its Drop", i)
		}
	}
}

// P22.1
func TestOldestTells0AndFalseWhereThereIsNone(t *testing.T) {
	for _, n := range []int{1, 2, 255, 256} {
		l := touched(t, n)
		wantOldest(t, l, nil)
		wantTouch(t, l, n-1, true)
		wantOldest(t, l, []int{n - 1})
		wantDrop(t, l, n-1, true)
		wantOldest(t, l, nil)
		// Number 0 is told apart from none.
		wantTouch(t, l, 0, true)
		wantOldest(t, l, []int{0})
	}
}

// P22.1
func TestAFullList(t *testing.T) {
	for _, n := range []int{1, 2, 3, 255, 256} {
		l := touched(t, n, upTo(n)...)
		all := turned(upTo(n))
		wantIs(t, l, n, all...)
		for i := range n {
			// Each time the oldest one is touched, and the next one is the oldest then.
			wantOldest(t, l, all)
			wantTouch(t, l, i, true)
			all = append([]int{i}, without(all, i)...)
			wantIs(t, l, n, all...)
		}
		for i := range n {
			wantTouch(t, l, n-1-i, true)
		}
		wantIs(t, l, n, upTo(n)...)
		for i := n; i > 0; i-- {
			wantOldest(t, l, upTo(i))
			wantDrop(t, l, i-1, true)
			wantIs(t, l, n, upTo(i-1)...)
		}
	}
}

// P22.1, R5
func TestAListThatNoCallMadeTellsNothing(t *testing.T) {
	var none *List
	wantNothing(t, none)
	wantNothing(t, New(0))
	wantNothing(t, new(List))
	wantNothing(t, &List{})
	var zero List
	wantNothing(t, &zero)
	if got := zero.All(); len(got) != 0 {
		t.Errorf("All: %v", got)
	}
}

// P22.1: each call, of each order in which up to four numbers may stand.
func TestEachCallOfEachOrder(t *testing.T) {
	for n, many := range map[int]int{1: 2, 2: 5, 3: 16, 4: 65} {
		all := states(n)
		if len(all) != many {
			t.Fatalf("%d orders of %d numbers, want %d", len(all), n, many)
		}
		for _, was := range all {
			for i := -1; i <= n; i++ {
				mayBe, there := i >= 0 && i < n, slices.Contains(was, i)
				want := was
				if mayBe {
					want = append([]int{i}, without(was, i)...)
				}
				l := touched(t, n, turned(was)...)
				wantIs(t, l, n, was...)
				wantTouch(t, l, i, mayBe)
				wantIs(t, l, n, want...)

				l = touched(t, n, turned(was)...)
				wantDrop(t, l, i, there)
				wantIs(t, l, n, without(was, i)...)
			}
		}
	}
}

// P22.1: each run of up to five calls.
func TestEachRunOfCalls(t *testing.T) {
	const n = 3
	calls := 2 * (n + 1)
	var run func(done []int)
	run = func(done []int) {
		l, c := New(n), newClock(n)
		for _, d := range done {
			wantSameCall(t, l, c, d%2 == 0, d/2)
		}
		wantIs(t, l, n, c.all()...)
		if len(done) == 5 {
			return
		}
		for d := range calls {
			run(append(slices.Clone(done), d))
		}
	}
	run(nil)
}

// wantSameCall wants that a list and its model tell the same of a Touch, or of a Drop.
func wantSameCall(t *testing.T, l *List, c *clock, touch bool, i int) {
	t.Helper()
	if touch {
		wantTouch(t, l, i, c.touch(i))
		return
	}
	wantDrop(t, l, i, c.drop(i))
}

// P22.1
func TestLongRunsTellWhatTheModelTells(t *testing.T) {
	r := rand.New(rand.NewSource(22))
	for _, n := range []int{1, 2, 3, 5, 16, 64, 255, 256} {
		// Where Touch is rare the list is nearly empty, where it is often, nearly full.
		for _, often := range []int{2, 5, 8} {
			l, c := New(n), newClock(n)
			for range 1500 {
				i := r.Intn(n+4) - 2
				if r.Intn(20) == 0 {
					i = outside(n)[r.Intn(len(outside(n)))]
				}
				wantSameCall(t, l, c, r.Intn(10) < often, i)
				all := c.all()
				wantOldest(t, l, all)
				if got := l.All(); !slices.Equal(got, all) || l.Len() != len(all) {
					t.Fatalf("All of %d: %v, Len %d, want %v", n, got, l.Len(), all)
				}
				if l.Has(i) != slices.Contains(all, i) {
					t.Fatalf("Has(%d): %t, and the numbers are %v", i, l.Has(i), all)
				}
			}
			wantIs(t, l, n, c.all()...)
		}
	}
}

// R3
func TestWhatACallerWritesIntoAllTurnsNothing(t *testing.T) {
	l := touched(t, 5, 4, 0, 3, 1)
	want := []int{1, 3, 0, 4}
	one, two := l.All(), l.All()
	for i := range one {
		one[i] = 2
	}
	for i, all := 0, one[:cap(one)]; i < len(all); i++ {
		all[i] = -7
	}
	_ = append(one[:1], 9, 9, 9, 9)
	if !slices.Equal(two, want) {
		t.Errorf("another answer: %v, want %v", two, want)
	}
	wantIs(t, l, 5, want...)

	three := l.All()
	wantTouch(t, l, 2, true)
	wantTouch(t, l, 4, true)
	wantDrop(t, l, 3, true)
	if !slices.Equal(two, want) || !slices.Equal(three, want) {
		t.Errorf("what was told is %v and %v behind other calls, want %v", two, three, want)
	}
	wantIs(t, l, 5, 4, 2, 1, 0)
	clear(three)
	wantIs(t, l, 5, 4, 2, 1, 0)
}

// R4
func TestTwoListsOfTheSameCallsTellTheSame(t *testing.T) {
	r := rand.New(rand.NewSource(2201))
	for _, n := range []int{1, 2, 7, 255, 256} {
		one, two := New(n), New(n)
		for range 500 {
			i := r.Intn(n+2) - 1
			var a, b bool
			if r.Intn(3) > 0 {
				a, b = one.Touch(i), two.Touch(i)
			} else {
				a, b = one.Drop(i), two.Drop(i)
			}
			if a != b || one.Has(i) != two.Has(i) || one.Len() != two.Len() || !slices.Equal(one.All(), two.All()) {
				t.Fatalf("%v and %v, behind the same calls", one.All(), two.All())
			}
			wantOldest(t, two, one.All())
		}
	}
}

// R4
func TestListsAreOnTheirOwn(t *testing.T) {
	one, two := New(4), New(4)
	wantTouch(t, one, 1, true)
	wantTouch(t, one, 2, true)
	wantIs(t, two, 4)
	wantTouch(t, two, 2, true)
	wantTouch(t, two, 3, true)
	wantTouch(t, two, 1, true)
	wantIs(t, one, 4, 2, 1)
	wantDrop(t, two, 2, true)
	wantIs(t, one, 4, 2, 1)
	wantDrop(t, one, 1, true)
	wantIs(t, one, 4, 2)
	wantIs(t, two, 4, 1, 3)
}

// R4: how a list came to its order is not to be seen.
func TestAnEmptiedListIsLikeANewOne(t *testing.T) {
	for _, n := range []int{1, 2, 4, 256} {
		l := touched(t, n, upTo(n)...)
		for i := range n {
			wantDrop(t, l, (i+n/2)%n, true)
		}
		wantIs(t, l, n)
		for i := range n {
			wantTouch(t, l, i, true)
		}
		wantIs(t, l, n, turned(upTo(n))...)
	}
}
