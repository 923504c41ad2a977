package due

import (
	"math"
	"math/rand"
	"slices"
	"testing"
)

// all is when each is due, and its id, in order.
type all = [][2]int

// edges are ticks and ids, rising.
var edges = []int{math.MinInt, math.MinInt + 1, -1 << 62, -1<<32 - 1, -1 << 32, -1 << 31, -256, -2, -1, 0, 1, 2, 3, 255, 256, 1<<31 - 1, 1 << 31, 1 << 32, 1<<32 + 1, 1 << 62, math.MaxInt - 1, math.MaxInt}

// wantIs wants that a queue has just these, by each call that tells of it, and told again.
func wantIs(t *testing.T, q *Queue, want all) {
	t.Helper()
	for range 2 {
		if got := q.Len(); got != len(want) {
			t.Fatalf("Len: %d, want %d: %v", got, len(want), want)
		}
		if got := q.All(); !slices.Equal(got, want) {
			t.Fatalf("All: %v, want %v", got, want)
		}
		if len(want) == 0 {
			wantPeek(t, q, 0, 0, false)
		} else {
			wantPeek(t, q, want[0][0], want[0][1], true)
		}
	}
}

func wantPeek(t *testing.T, q *Queue, at, id int, there bool) {
	t.Helper()
	if a, b, ok := q.Peek(); a != at || b != id || ok != there {
		t.Fatalf("Peek: %d, %d, %t, want %d, %d, %t", a, b, ok, at, id, there)
	}
}

func wantNext(t *testing.T, q *Queue, now, want int, there bool) {
	t.Helper()
	if got, ok := q.Next(now); got != want || ok != there {
		t.Fatalf("Next(%d): %d, %t, want %d, %t", now, got, ok, want, there)
	}
}

func wantRemove(t *testing.T, q *Queue, id, want int) {
	t.Helper()
	if got := q.Remove(id); got != want {
		t.Fatalf("Remove(%d): %d, want %d", id, got, want)
	}
}

// wantOut wants that just these are taken out, one behind the other, each at its own tick and not ahead of it.
func wantOut(t *testing.T, q *Queue, want all) {
	t.Helper()
	for i, one := range want {
		wantPeek(t, q, one[0], one[1], true)
		if one[0] > math.MinInt {
			wantNext(t, q, one[0]-1, 0, false)
			wantNext(t, q, math.MinInt, 0, false)
		}
		if q.Len() != len(want)-i {
			t.Fatalf("Len: %d, want %d", q.Len(), len(want)-i)
		}
		wantNext(t, q, one[0], one[1], true)
	}
	wantNext(t, q, math.MaxInt, 0, false)
	wantIs(t, q, nil)
}

// wantNothing wants that each call of a queue that no call made tells nothing, and does nothing.
func wantNothing(t *testing.T, q *Queue) {
	t.Helper()
	for range 2 {
		for _, at := range edges {
			for _, id := range edges {
				q.Add(at, id)
			}
			wantNext(t, q, at, 0, false)
			wantRemove(t, q, at, 0)
		}
		wantIs(t, q, nil)
	}
}

// of tells a queue to which these were added, from the first to the last.
func of(added all) *Queue {
	q := New()
	for _, one := range added {
		q.Add(one[0], one[1])
	}
	return q
}

// ordered tells the same ones by when they are due, and of several by their ids.
func ordered(added all) all {
	var m model
	for _, one := range added {
		m.add(one[0], one[1])
	}
	return m.line
}

// model is a queue's model: it has no heap, but puts each one behind all that come ahead of it.
type model struct {
	line all
}

func (m *model) add(at, id int) {
	i := 0
	for i < len(m.line) && (m.line[i][0] < at || m.line[i][0] == at && m.line[i][1] <= id) {
		i++
	}
	m.line = slices.Insert(m.line, i, [2]int{at, id})
}

func (m *model) next(now int) (int, bool) {
	if len(m.line) == 0 || m.line[0][0] > now {
		return 0, false
	}
	id := m.line[0][1]
	m.line = m.line[1:]
	return id, true
}

func (m *model) remove(id int) int {
	var left all
	for _, one := range m.line {
		if one[1] != id {
			left = append(left, one)
		}
	}
	gone := len(m.line) - len(left)
	m.line = left
	return gone
}

// P24.1
func TestNewTellsAnEmptyQueue(t *testing.T) {
	for range 3 {
		q := New()
		if q == nil {
			t.Fatal("nil")
		}
		wantIs(t, q, nil)
		for _, n := range edges {
			wantNext(t, q, n, 0, false)
			wantRemove(t, q, n, 0)
		}
		wantIs(t, q, nil)
	}
}

// P24.1
func TestTheQueueOfTheChapter(t *testing.T) {
	q := New()
	q.Add(5, 1)
	wantIs(t, q, all{{5, 1}})
	q.Add(3, 2)
	wantIs(t, q, all{{3, 2}, {5, 1}})
	wantNext(t, q, 4, 2, true)
	wantIs(t, q, all{{5, 1}})
	wantNext(t, q, 4, 0, false)
	wantIs(t, q, all{{5, 1}})
	wantNext(t, q, 5, 1, true)
	wantIs(t, q, nil)
}

// P24.1: each id at each tick, on its own.
func TestOneThatIsDue(t *testing.T) {
	for _, at := range edges {
		for _, id := range edges {
			q := of(all{{at, id}})
			wantIs(t, q, all{{at, id}})
			for _, other := range edges {
				if other < at {
					wantNext(t, q, other, 0, false)
				}
				if other != id {
					wantRemove(t, q, other, 0)
				}
			}
			wantIs(t, q, all{{at, id}})
			wantNext(t, q, at, id, true)
			wantIs(t, q, nil)

			q.Add(at, id)
			wantRemove(t, q, id, 1)
			wantRemove(t, q, id, 0)
			wantIs(t, q, nil)
		}
	}
}

// P24.1
func TestNextTakesOutWhatIsDueAtNowOrEarlier(t *testing.T) {
	for _, at := range edges {
		for _, now := range edges {
			q := of(all{{at, 7}})
			if at > now {
				wantNext(t, q, now, 0, false)
				wantIs(t, q, all{{at, 7}})
				continue
			}
			wantNext(t, q, now, 7, true)
			wantIs(t, q, nil)
			wantNext(t, q, now, 0, false)
		}
	}
	for at := -70; at <= 70; at++ {
		for now := -70; now <= 70; now++ {
			q := of(all{{at, -1}, {at, 0}})
			if at > now {
				wantNext(t, q, now, 0, false)
				wantIs(t, q, all{{at, -1}, {at, 0}})
				continue
			}
			wantNext(t, q, now, -1, true)
			wantIs(t, q, all{{at, 0}})
			wantNext(t, q, now, 0, true)
			wantIs(t, q, nil)
		}
	}
}

// P24.1: where the first one is not due, none is, and where it is, only those that are due go.
func TestNextTakesOutOneAtATime(t *testing.T) {
	q := of(all{{9, 4}, {2, 6}, {2, 5}, {7, 1}, {2, 6}})
	wantNext(t, q, 1, 0, false)
	wantNext(t, q, math.MinInt, 0, false)
	wantIs(t, q, all{{2, 5}, {2, 6}, {2, 6}, {7, 1}, {9, 4}})
	wantNext(t, q, 2, 5, true)
	wantIs(t, q, all{{2, 6}, {2, 6}, {7, 1}, {9, 4}})
	wantNext(t, q, 8, 6, true)
	wantNext(t, q, 3, 6, true)
	wantIs(t, q, all{{7, 1}, {9, 4}})
	wantNext(t, q, 6, 0, false)
	wantNext(t, q, 8, 1, true)
	wantNext(t, q, 8, 0, false)
	wantIs(t, q, all{{9, 4}})
	wantNext(t, q, math.MaxInt, 4, true)
	wantNext(t, q, math.MaxInt, 0, false)
	wantIs(t, q, nil)
}

// P24.1
func TestTheEarlierOneComesFirstWhateverTheirIds(t *testing.T) {
	for i, early := range edges {
		for _, late := range edges[i+1:] {
			for _, ids := range (all{{1, 2}, {2, 1}, {1, 1}, {math.MaxInt, math.MinInt}, {math.MinInt, math.MaxInt}, {0, -1}}) {
				want := all{{early, ids[0]}, {late, ids[1]}}
				for _, q := range []*Queue{of(want), of(all{want[1], want[0]})} {
					wantIs(t, q, want)
					wantOut(t, q, want)
				}
			}
		}
	}
}

// P24.1
func TestOfSeveralAtOneTickTheLesserIdComesFirst(t *testing.T) {
	for _, at := range edges {
		for i, less := range edges {
			for _, more := range edges[i+1:] {
				want := all{{at, less}, {at, more}}
				for _, q := range []*Queue{of(want), of(all{want[1], want[0]})} {
					wantIs(t, q, want)
					wantOut(t, q, want)
				}
			}
		}
	}
}

// orders tells each order of a list.
func orders[T any](list []T) [][]T {
	if len(list) == 0 {
		return [][]T{nil}
	}
	var told [][]T
	for i, one := range list {
		rest := slices.Delete(slices.Clone(list), i, i+1)
		for _, order := range orders(rest) {
			told = append(told, append([]T{one}, order...))
		}
	}
	return told
}

// P24.1, P24.3
func TestAllIsInOrderHoweverItWasAdded(t *testing.T) {
	for _, want := range []all{
		{{1, 1}, {1, 2}, {1, 3}, {1, 4}, {1, 5}, {1, 6}},
		{{1, 6}, {2, 5}, {3, 4}, {4, 3}, {5, 2}, {6, 1}},
		{{1, 1}, {2, 1}, {3, 1}, {4, 1}, {5, 1}, {6, 1}},
		{{-3, 8}, {-1, 8}, {0, -2}, {0, 0}, {0, 2}, {1, -9}},
		{{2, 4}, {2, 4}, {2, 4}, {2, 5}, {3, 4}, {3, 4}},
		{{0, 0}, {0, 0}, {0, 0}, {0, 0}, {0, 0}, {0, 0}},
		{{math.MinInt, math.MaxInt}, {-1, 0}, {0, math.MinInt}, {0, math.MaxInt}, {math.MaxInt, math.MinInt}, {math.MaxInt, 0}},
	} {
		for _, order := range orders(want) {
			q := of(order)
			wantIs(t, q, want)
			wantOut(t, q, want)
		}
	}
}

// P24.1
func TestOneIdManyTimes(t *testing.T) {
	for _, id := range edges {
		for _, want := range []all{
			{{4, id}, {4, id}},
			{{4, id}, {4, id}, {4, id}, {4, id}, {4, id}},
			{{1, id}, {2, id}, {3, id}},
			{{-2, id}, {-2, id}, {0, id}, {7, id}, {7, id}, {7, id}},
		} {
			for _, added := range []all{want, turned(want)} {
				wantIs(t, of(added), want)
				wantOut(t, of(added), want)

				q := of(added)
				wantRemove(t, q, id, len(want))
				wantIs(t, q, nil)
				wantRemove(t, q, id, 0)
			}
		}
	}
	for many := 1; many <= 200; many++ {
		want := slices.Repeat(all{{6, 3}}, many)
		q := of(want)
		wantIs(t, q, want)
		wantOut(t, q, want)
		q = of(want)
		q.Add(6, 4)
		wantRemove(t, q, 3, many)
		wantIs(t, q, all{{6, 4}})
	}
}

// turned tells a list from the last to the first.
func turned(list all) all {
	list = slices.Clone(list)
	slices.Reverse(list)
	return list
}

// P24.1
func TestPeekTakesNothingOut(t *testing.T) {
	want := all{{-4, 2}, {1, 9}, {1, 9}, {3, 0}}
	q := of(turned(want))
	for range 20 {
		wantPeek(t, q, -4, 2, true)
	}
	wantIs(t, q, want)
	wantOut(t, q, want)
}

// P24.1: Peek of one that is 0 at 0 tells that there is one.
func TestTheIdZeroAtTheTickZeroIsOne(t *testing.T) {
	q := of(all{{0, 0}})
	wantPeek(t, q, 0, 0, true)
	wantNext(t, q, -1, 0, false)
	wantIs(t, q, all{{0, 0}})
	wantNext(t, q, 0, 0, true)
	wantPeek(t, q, 0, 0, false)
	wantNext(t, q, 0, 0, false)
	q.Add(0, 0)
	wantRemove(t, q, 0, 1)
	wantIs(t, q, nil)
}

// P24.1
func TestRemoveTakesAllOfAnIdOut(t *testing.T) {
	added := all{{8, 1}, {3, 5}, {3, 2}, {3, 5}, {0, 7}, {9, 6}, {-1, 5}, {9, 5}, {4, 2}, {-7, 3}, {12, 4}, {8, 0}}
	for _, c := range []struct {
		what  string
		id, n int
		left  all
	}{
		{"one that is not there", 9, 0, ordered(added)},
		{"one that is not there, less than 0", -1, 0, ordered(added)},
		{"one that is a tick, but no id", 12, 0, ordered(added)},
		{"the greatest int", math.MaxInt, 0, ordered(added)},
		{"the least int", math.MinInt, 0, ordered(added)},
		{"the first one", 3, 1, all{{-1, 5}, {0, 7}, {3, 2}, {3, 5}, {3, 5}, {4, 2}, {8, 0}, {8, 1}, {9, 5}, {9, 6}, {12, 4}}},
		{"the last one", 4, 1, all{{-7, 3}, {-1, 5}, {0, 7}, {3, 2}, {3, 5}, {3, 5}, {4, 2}, {8, 0}, {8, 1}, {9, 5}, {9, 6}}},
		{"one in between", 7, 1, all{{-7, 3}, {-1, 5}, {3, 2}, {3, 5}, {3, 5}, {4, 2}, {8, 0}, {8, 1}, {9, 5}, {9, 6}, {12, 4}}},
		{"0", 0, 1, all{{-7, 3}, {-1, 5}, {0, 7}, {3, 2}, {3, 5}, {3, 5}, {4, 2}, {8, 1}, {9, 5}, {9, 6}, {12, 4}}},
		{"one that is there twice", 2, 2, all{{-7, 3}, {-1, 5}, {0, 7}, {3, 5}, {3, 5}, {8, 0}, {8, 1}, {9, 5}, {9, 6}, {12, 4}}},
		{"one that is there four times", 5, 4, all{{-7, 3}, {0, 7}, {3, 2}, {4, 2}, {8, 0}, {8, 1}, {9, 6}, {12, 4}}},
	} {
		t.Log(c.what)
		for _, order := range []all{added, turned(added), ordered(added), turned(ordered(added))} {
			q := of(order)
			wantRemove(t, q, c.id, c.n)
			wantIs(t, q, c.left)
			wantRemove(t, q, c.id, 0)
			wantIs(t, q, c.left)
			wantOut(t, q, c.left)
		}
	}
}

// P24.1: whichever ids stay, and wherever what goes lay, what stays is a queue as any other.
func TestWhatStaysBehindRemoveIsInOrder(t *testing.T) {
	r := rand.New(rand.NewSource(24))
	for many := 1; many <= 60; many++ {
		for range 30 {
			var added all
			for range many {
				added = append(added, [2]int{r.Intn(20), r.Intn(6)})
			}
			for id := range 6 {
				m := &model{ordered(added)}
				q := of(added)
				wantRemove(t, q, id, m.remove(id))
				wantIs(t, q, m.line)
				q.Add(7, id)
				m.add(7, id)
				wantIs(t, q, m.line)
				wantOut(t, q, m.line)
			}
		}
	}
}

// P24.1
func TestOneIdBehindTheOther(t *testing.T) {
	added := all{{5, 1}, {3, 9}, {3, 2}, {7, 1}, {3, 9}, {-1, 4}, {6, 2}}
	for _, ids := range orders([]int{1, 2, 4, 9, 8}) {
		m := &model{ordered(added)}
		q := of(added)
		for _, id := range ids {
			wantRemove(t, q, id, m.remove(id))
			wantIs(t, q, m.line)
		}
		wantIs(t, q, nil)
	}
}

// P24.1
func TestAQueueThatHasBecomeEmptyAgain(t *testing.T) {
	empty := []func(q *Queue){
		func(q *Queue) {
			for q.Len() > 0 {
				q.Next(math.MaxInt)
			}
		},
		func(q *Queue) {
			for _, id := range []int{1, 2, 3} {
				q.Remove(id)
			}
		},
		func(q *Queue) {
			q.Next(4)
			q.Remove(3)
			q.Next(9)
			q.Remove(1)
		},
	}
	q := New()
	for round := range 30 {
		for _, one := range []all{{{4, 2}}, {{4, 3}, {9, 1}}, {{9, 1}, {4, 3}, {4, 3}, {4, 2}}} {
			for _, x := range one {
				q.Add(x[0], x[1])
			}
			wantIs(t, q, ordered(one))
			empty[round%3](q)
			wantIs(t, q, nil)
			for _, n := range edges {
				wantNext(t, q, n, 0, false)
				wantRemove(t, q, n, 0)
			}
			wantIs(t, q, nil)
		}
	}
}

// P24.1: what is added behind others were taken out stands in order with those that stayed, and may come ahead of them.
func TestWhatIsAddedBehindOthersWereTakenOut(t *testing.T) {
	q := of(all{{5, 1}, {6, 2}, {9, 3}})
	wantNext(t, q, 5, 1, true)
	q.Add(2, 8)
	wantIs(t, q, all{{2, 8}, {6, 2}, {9, 3}})
	q.Add(6, 1)
	q.Add(7, 0)
	wantIs(t, q, all{{2, 8}, {6, 1}, {6, 2}, {7, 0}, {9, 3}})
	wantNext(t, q, 2, 8, true)
	q.Add(5, 1)
	wantIs(t, q, all{{5, 1}, {6, 1}, {6, 2}, {7, 0}, {9, 3}})
	wantRemove(t, q, 1, 2)
	q.Add(math.MinInt, 1)
	q.Add(math.MaxInt, 1)
	wantOut(t, q, all{{math.MinInt, 1}, {6, 2}, {7, 0}, {9, 3}, {math.MaxInt, 1}})
}

// P24.1, P24.3
func TestManyAtOnce(t *testing.T) {
	const many = 100000
	var want all
	for i := range many {
		want = append(want, [2]int{i / 7, i % 7})
	}
	mixed := slices.Clone(want)
	rand.New(rand.NewSource(2401)).Shuffle(many, func(i, j int) { mixed[i], mixed[j] = mixed[j], mixed[i] })
	for _, added := range []all{mixed, want, turned(want)} {
		q := of(added)
		wantIs(t, q, want)
		wantOut(t, q, want)
	}
	q := of(mixed)
	for id := range 6 {
		had := q.Len()
		gone := q.Remove(id)
		if gone < many/7 || gone > many/7+1 || q.Len() != had-gone {
			t.Fatalf("Remove(%d): %d, and %d of %d stay", id, gone, q.Len(), had)
		}
	}
	var left all
	for i := range many / 7 {
		left = append(left, [2]int{i, 6})
	}
	wantIs(t, q, left)
	wantOut(t, q, left)
}

// P24.3
func TestWhatIsTakenOutRises(t *testing.T) {
	r := rand.New(rand.NewSource(2402))
	for range 200 {
		q, n := New(), 1+r.Intn(300)
		for range n {
			q.Add(r.Intn(40)-20, r.Intn(10)-5)
		}
		last, out := [2]int{math.MinInt, math.MinInt}, 0
		for now := -21; now <= 20; now++ {
			for {
				at, _, _ := q.Peek()
				id, ok := q.Next(now)
				if !ok {
					break
				}
				one := [2]int{at, id}
				if at != now || slices.Compare(one[:], last[:]) < 0 {
					t.Fatalf("at %d: %v behind %v", now, one, last)
				}
				last = one
				out++
			}
		}
		if out != n || q.Len() != 0 {
			t.Fatalf("%d of %d were taken out, %d stayed", out, n, q.Len())
		}
	}
}

// P24.2, R5
func TestAQueueThatNoCallMadeTellsNothing(t *testing.T) {
	var none *Queue
	wantNothing(t, none)
	wantNothing(t, new(Queue))
	var zero Queue
	wantNothing(t, &zero)
	if zero != (Queue{}) {
		t.Errorf("a zero queue is %v behind its calls", zero)
	}
}

// wantSameCall wants that a queue and its model tell the same of an Add, a Next, or a Remove.
func wantSameCall(t *testing.T, q *Queue, m *model, call, at, id int) {
	t.Helper()
	switch call {
	case 0:
		want, there := m.next(at)
		wantNext(t, q, at, want, there)
	case 1:
		wantRemove(t, q, id, m.remove(id))
	default:
		q.Add(at, id)
		m.add(at, id)
	}
}

// P24.1: each run of five calls, of three ids and three ticks.
func TestEachRunOfCalls(t *testing.T) {
	type call struct{ call, at, id int }
	calls := []call{{0, 0, 0}, {0, 1, 0}, {0, 2, 0}, {1, 0, 0}, {1, 0, 1}, {2, 0, 1}, {2, 1, 0}, {2, 1, 1}, {2, 1, 2}, {2, 2, 0}}
	var run func(done []call)
	run = func(done []call) {
		q, m := New(), &model{}
		for _, d := range done {
			wantSameCall(t, q, m, d.call, d.at, d.id)
		}
		wantIs(t, q, m.line)
		if len(done) == 5 {
			return
		}
		for _, d := range calls {
			run(append(slices.Clone(done), d))
		}
	}
	run(nil)
}

// P24.1 to P24.3
func TestLongRunsTellWhatTheModelTells(t *testing.T) {
	r := rand.New(rand.NewSource(2403))
	for _, ids := range []int{1, 2, 16, 1000} {
		for _, far := range []int{1, 3, 40, 1000} {
			q, m := New(), &model{}
			for i := range 3000 {
				// Of ten calls five are an Add, four a Next, and one a Remove.
				call := max(0, r.Intn(10)-3)
				at, id := i/10+r.Intn(far), r.Intn(ids)-ids/2
				switch r.Intn(40) {
				case 0:
					id = edges[r.Intn(len(edges))]
				case 1:
					at = edges[r.Intn(len(edges))]
				}
				wantSameCall(t, q, m, call, at, id)
				if q.Len() != len(m.line) {
					t.Fatalf("Len: %d, want %d", q.Len(), len(m.line))
				}
				if i%20 == 0 {
					wantIs(t, q, m.line)
				}
			}
			wantOut(t, q, m.line)
		}
	}
}

// R3
func TestWhatACallerWritesIntoAllTurnsNothing(t *testing.T) {
	want := all{{1, 4}, {2, 3}, {2, 3}, {3, 2}, {4, 1}}
	q := of(turned(want))
	told := q.All()
	for i := range told[:cap(told)] {
		told[:cap(told)][i] = [2]int{-9, 7}
	}
	_ = append(told[:1], [2]int{-8, 1}, [2]int{-8, 2})
	wantIs(t, q, want)
	wantRemove(t, q, 7, 0)
	wantNext(t, q, 0, 0, false)

	told = q.All()
	q.Add(0, 9)
	q.Add(2, 0)
	q.Next(1)
	q.Remove(3)
	if !slices.Equal(told, want) {
		t.Errorf("what was told is %v behind other calls, want %v", told, want)
	}
	one, two := q.All(), q.All()
	for i := range one[:cap(one)] {
		one[:cap(one)][i] = [2]int{-9, 7}
	}
	if left := (all{{1, 4}, {2, 0}, {3, 2}, {4, 1}}); !slices.Equal(two, left) {
		t.Errorf("what was told is %v, want %v", two, left)
	}
	wantOut(t, q, two)
}

// R4
func TestTwoQueuesOfTheSameCallsTellTheSame(t *testing.T) {
	r := rand.New(rand.NewSource(2404))
	for range 5 {
		one, two := New(), New()
		for i := range 2000 {
			at, id := i/10+r.Intn(15), r.Intn(20)
			switch r.Intn(6) {
			case 0, 1:
				want, there := one.Next(at)
				wantNext(t, two, at, want, there)
			case 2:
				wantRemove(t, two, id, one.Remove(id))
			default:
				one.Add(at, id)
				two.Add(at, id)
			}
			at, id, there := one.Peek()
			wantPeek(t, two, at, id, there)
			if one.Len() != two.Len() || !slices.Equal(one.All(), two.All()) {
				t.Fatalf("%d, %v and %d, %v, behind the same calls", one.Len(), one.All(), two.Len(), two.All())
			}
		}
	}
}

// R4
func TestQueuesAreOnTheirOwn(t *testing.T) {
	one, two := New(), New()
	one.Add(1, 2)
	wantIs(t, two, nil)
	two.Add(1, 3)
	two.Add(0, 2)
	wantIs(t, one, all{{1, 2}})
	wantNext(t, one, 1, 2, true)
	wantIs(t, one, nil)
	wantIs(t, two, all{{0, 2}, {1, 3}})
	wantRemove(t, one, 3, 0)
	wantRemove(t, two, 2, 1)
	wantIs(t, two, all{{1, 3}})
	one.Add(7, 7)
	wantIs(t, two, all{{1, 3}})
	wantIs(t, one, all{{7, 7}})
}
