package wheel

import (
	"maps"
	"math"
	"math/rand"
	"slices"
	"testing"
)

// timers is at which tick each id that has a timer is due.
type timers = map[int]int

// outside are ids that can have no timer.
var outside = []int{-1, -2, -255, -256, -257, 256, 257, 511, 512, 1 << 16, 1 << 32, 1<<32 + 255, -1 << 32, math.MaxInt, math.MaxInt - 1, math.MinInt, math.MinInt + 1, math.MinInt + 255}

// wantIs wants that a wheel is at a tick, and has just these timers, by each call that tells of it, and told again.
func wantIs(t *testing.T, w *Wheel, now int, want timers) {
	t.Helper()
	for range 2 {
		if got := w.Now(); got != now {
			t.Fatalf("Now: %d, want %d", got, now)
		}
		if got := w.Len(); got != len(want) {
			t.Fatalf("Len: %d, want %d: %v", got, len(want), want)
		}
		for id := range 256 {
			at, there := want[id]
			wantWhen(t, w, id, at, there)
		}
		for _, id := range outside {
			wantWhen(t, w, id, 0, false)
		}
	}
}

func wantWhen(t *testing.T, w *Wheel, id, want int, there bool) {
	t.Helper()
	if got, ok := w.When(id); got != want || ok != there {
		t.Fatalf("When(%d): %d, %t, want %d, %t", id, got, ok, want, there)
	}
}

func wantSet(t *testing.T, w *Wheel, id, at int, want bool) {
	t.Helper()
	if got := w.Set(id, at); got != want {
		t.Fatalf("Set(%d, %d): %t", id, at, got)
	}
}

func wantUnset(t *testing.T, w *Wheel, id int, want bool) {
	t.Helper()
	if got := w.Unset(id); got != want {
		t.Fatalf("Unset(%d): %t", id, got)
	}
}

func wantAdvance(t *testing.T, w *Wheel, want ...int) {
	t.Helper()
	if got := w.Advance(); !slices.Equal(got, want) {
		t.Fatalf("Advance to %d: %v, want %v", w.Now(), got, want)
	}
}

// wantQuiet wants that for so many ticks nothing is due.
func wantQuiet(t *testing.T, w *Wheel, ticks int) {
	t.Helper()
	for range ticks {
		wantAdvance(t, w)
	}
}

// wantNothing wants that each call of a wheel that no call made tells nothing, and does nothing.
func wantNothing(t *testing.T, w *Wheel) {
	t.Helper()
	for range 2 {
		for _, id := range append([]int{0, 1, 2, 127, 254, 255}, outside...) {
			for _, at := range []int{0, 1, 2, 64, -1, math.MaxInt, math.MinInt} {
				wantSet(t, w, id, at, false)
			}
			wantUnset(t, w, id, false)
		}
		wantIs(t, w, 0, nil)
		wantAdvance(t, w)
		wantIs(t, w, 0, nil)
	}
}

// at tells a wheel that was advanced to a tick, without timers.
func at(t *testing.T, now int) *Wheel {
	t.Helper()
	w := New()
	wantQuiet(t, w, now)
	return w
}

// model is a wheel's model: it has no lists, but goes over all ids.
type model struct {
	now int
	due timers
}

func (m *model) set(id, at int) bool {
	if id < 0 || id > 255 {
		return false
	}
	if at <= m.now {
		at = m.now + 1
	}
	m.due[id] = at
	return true
}

func (m *model) unset(id int) bool {
	_, there := m.due[id]
	delete(m.due, id)
	return there
}

func (m *model) advance() []int {
	m.now++
	var told []int
	for id := range 256 {
		if at, there := m.due[id]; there && at <= m.now {
			told = append(told, id)
			delete(m.due, id)
		}
	}
	return told
}

// P23.1
func TestNewTellsAWheelAtTick0WithoutTimers(t *testing.T) {
	for range 3 {
		w := New()
		if w == nil {
			t.Fatal("nil")
		}
		wantIs(t, w, 0, nil)
		for _, id := range append([]int{0, 1, 255}, outside...) {
			wantUnset(t, w, id, false)
		}
		wantIs(t, w, 0, nil)
	}
}

// P23.1, P23.2
func TestTheWheelOfTheChapter(t *testing.T) {
	w := New()
	wantSet(t, w, 3, 2, true)
	wantSet(t, w, 1, 2, true)
	wantIs(t, w, 0, timers{1: 2, 3: 2})
	wantAdvance(t, w)
	wantIs(t, w, 1, timers{1: 2, 3: 2})
	wantAdvance(t, w, 1, 3)
	wantIs(t, w, 2, nil)
	wantAdvance(t, w)
	wantIs(t, w, 3, nil)
}

// P23.1
func TestSetTakesTheIdsFrom0To255(t *testing.T) {
	for id := range 256 {
		w := New()
		wantSet(t, w, id, 3, true)
		wantIs(t, w, 0, timers{id: 3})
		wantQuiet(t, w, 2)
		wantAdvance(t, w, id)
		wantIs(t, w, 3, nil)
	}
}

// P23.1
func TestSetOfAnotherIdIsFalseAndNothing(t *testing.T) {
	for _, was := range []timers{{}, {0: 1}, {255: 2}, {0: 70, 1: 70, 128: 5, 255: 134}} {
		w := New()
		for id, at := range was {
			wantSet(t, w, id, at, true)
		}
		for _, id := range outside {
			for _, at := range []int{0, 1, 2, 3, 70, -1, math.MaxInt, math.MinInt} {
				wantSet(t, w, id, at, false)
			}
			wantUnset(t, w, id, false)
		}
		wantIs(t, w, 0, was)
		m := &model{due: maps.Clone(was)}
		for range 140 {
			wantAdvance(t, w, m.advance()...)
		}
		wantIs(t, w, 140, nil)
	}
}

// P23.1
func TestSetIsNotAheadOfTheNextTick(t *testing.T) {
	for _, c := range []struct {
		what         string
		now, at, due int
	}{
		{"the next tick, of a new wheel", 0, 1, 1},
		{"the tick that is, of a new wheel", 0, 0, 1},
		{"less than 0, of a new wheel", 0, -1, 1},
		{"far less than 0, of a new wheel", 0, -64, 1},
		{"the least int, of a new wheel", 0, math.MinInt, 1},
		{"the one behind the next, of a new wheel", 0, 2, 2},
		{"the next tick", 9, 10, 10},
		{"the tick that is", 9, 9, 10},
		{"the tick that has just gone", 9, 8, 10},
		{"a tick that has gone", 9, 3, 10},
		{"tick 0", 9, 0, 10},
		{"less than 0", 9, -1, 10},
		{"as far behind 0 as now is ahead of it", 9, -9, 10},
		{"the least int", 9, math.MinInt, 10},
		{"the least int but one", 9, math.MinInt + 1, 10},
		{"the one behind the next", 9, 11, 11},
		{"one that is further on", 9, 15, 15},
		{"the tick that is, a turn on", 63, 63, 64},
		{"a tick that has gone, a turn on", 64, 1, 65},
		{"one that has gone at the place of the next", 64, 0, 65},
		{"a tick of the turn ahead", 128, 65, 129},
		{"tick 0, some turns on", 300, 0, 301},
		{"the next tick, some turns on", 300, 301, 301},
		{"the one behind the next, some turns on", 300, 302, 302},
	} {
		w := at(t, c.now)
		t.Log(c.what)
		wantSet(t, w, 7, c.at, true)
		wantIs(t, w, c.now, timers{7: c.due})
		wantQuiet(t, w, c.due-c.now-1)
		wantIs(t, w, c.due-1, timers{7: c.due})
		wantAdvance(t, w, 7)
		wantIs(t, w, c.due, nil)
		wantQuiet(t, w, 200)
	}
}

// P23.1, P23.3: a timer is told at its tick, however many turns of the wheel that is.
func TestATimerIsToldJustOnceAtItsTick(t *testing.T) {
	for now := range 70 {
		for _, on := range []int{1, 2, 3, 31, 32, 33, 40, 63, 64, 65, 66, 127, 128, 129, 192, 255, 256, 257, 320, 640, 1024} {
			w := at(t, now)
			wantSet(t, w, 200, now+on, true)
			wantQuiet(t, w, on-1)
			wantWhen(t, w, 200, now+on, true)
			wantAdvance(t, w, 200)
			wantIs(t, w, now+on, nil)
			wantQuiet(t, w, 2*on+130)
		}
	}
}

// P23.1, P23.3
func TestATimerThatIsFarOn(t *testing.T) {
	for _, far := range []int{math.MaxInt, math.MaxInt - 1, math.MaxInt - 63, math.MaxInt - 64, 1 << 62, 1 << 40, 1 << 32, 1<<32 + 1, 1<<32 + 5, 1 << 31, 1<<31 - 1} {
		w := at(t, 3)
		wantSet(t, w, 0, far, true)
		wantSet(t, w, 255, far, true)
		wantIs(t, w, 3, timers{0: far, 255: far})
		wantQuiet(t, w, 1000)
		wantIs(t, w, 1003, timers{0: far, 255: far})
		wantUnset(t, w, 255, true)
		wantSet(t, w, 0, 1005, true)
		wantIs(t, w, 1003, timers{0: 1005})
		wantAdvance(t, w)
		wantAdvance(t, w, 0)
		wantIs(t, w, 1005, nil)
	}
}

// P23.1: the timer that it had is no more.
func TestAnIdThatIsSetTwice(t *testing.T) {
	for _, c := range []struct {
		what          string
		one, two, due int
	}{
		{"to an earlier tick", 9, 4, 4},
		{"to a later tick", 4, 9, 9},
		{"to the same tick", 4, 4, 4},
		{"to the next tick", 9, 1, 1},
		{"from the next tick to a later one", 1, 9, 9},
		{"to the next tick, twice", 1, 1, 1},
		{"to a tick that is not, from the next one", 1, -3, 1},
		{"to a tick that is not, from a later one", 9, -3, 1},
		{"to a tick a turn later", 5, 69, 69},
		{"to a tick a turn earlier", 69, 5, 5},
		{"to a tick many turns later", 5, 645, 645},
		{"to a tick many turns earlier", 645, 5, 5},
		{"to a far tick and back", math.MaxInt, 7, 7},
	} {
		w := New()
		t.Log(c.what)
		wantSet(t, w, 20, c.one, true)
		wantSet(t, w, 20, c.two, true)
		wantIs(t, w, 0, timers{20: c.due})
		wantQuiet(t, w, c.due-1)
		wantAdvance(t, w, 20)
		wantIs(t, w, c.due, nil)
		wantQuiet(t, w, 800)
		wantIs(t, w, c.due+800, nil)
	}
}

// P23.1
func TestSetOfOneIdLeavesTheOthers(t *testing.T) {
	w := New()
	for id := range 5 {
		wantSet(t, w, id, 4, true)
	}
	wantSet(t, w, 2, 6, true)
	wantIs(t, w, 0, timers{0: 4, 1: 4, 2: 6, 3: 4, 4: 4})
	wantSet(t, w, 0, 6, true)
	wantSet(t, w, 4, 70, true)
	wantIs(t, w, 0, timers{0: 6, 1: 4, 2: 6, 3: 4, 4: 70})
	wantQuiet(t, w, 3)
	wantAdvance(t, w, 1, 3)
	wantAdvance(t, w)
	wantAdvance(t, w, 0, 2)
	wantIs(t, w, 6, timers{4: 70})
	wantQuiet(t, w, 63)
	wantAdvance(t, w, 4)
}

// P23.1
func TestUnsetTakesATimerAway(t *testing.T) {
	for _, id := range []int{0, 1, 127, 128, 254, 255} {
		for _, due := range []int{1, 2, 63, 64, 65, 640, math.MaxInt} {
			w := New()
			wantUnset(t, w, id, false)
			wantSet(t, w, id, due, true)
			wantUnset(t, w, id, true)
			wantIs(t, w, 0, nil)
			wantUnset(t, w, id, false)
			wantIs(t, w, 0, nil)
			wantQuiet(t, w, 700)
			wantUnset(t, w, id, false)
			wantIs(t, w, 700, nil)
		}
	}
}

// P23.1
func TestUnsetOfOneIdLeavesTheOthers(t *testing.T) {
	all := timers{10: 3, 11: 3, 12: 67, 13: 3, 14: 131, 15: 4}
	for id := range all {
		w := New()
		for other, at := range all {
			wantSet(t, w, other, at, true)
		}
		left := maps.Clone(all)
		delete(left, id)
		wantUnset(t, w, id, true)
		wantIs(t, w, 0, left)
		for _, other := range append([]int{0, 9, 16, 255}, outside...) {
			wantUnset(t, w, other, false)
		}
		wantUnset(t, w, id, false)
		wantIs(t, w, 0, left)
		m := &model{due: left}
		for range 140 {
			wantAdvance(t, w, m.advance()...)
		}
		wantIs(t, w, 140, nil)
	}
}

// P23.1, P23.3
func TestAnIdThatWasUnsetIsSetAgain(t *testing.T) {
	for _, again := range []int{3, 6, 9, 70, 134} {
		w := New()
		wantSet(t, w, 5, 6, true)
		wantSet(t, w, 4, 6, true)
		wantUnset(t, w, 5, true)
		wantUnset(t, w, 5, false)
		wantSet(t, w, 5, again, true)
		wantIs(t, w, 0, timers{4: 6, 5: again})
		m := &model{due: timers{4: 6, 5: again}}
		for range 300 {
			wantAdvance(t, w, m.advance()...)
		}
		wantIs(t, w, 300, nil)
	}
}

// P23.2, P23.3
func TestAnIdThatWasToldIsSetAgain(t *testing.T) {
	w, now := New(), 0
	for _, on := range []int{1, 1, 2, 5, 63, 64, 65, 1, 128, 64, 3, 200} {
		wantUnset(t, w, 8, false)
		wantSet(t, w, 8, now+on, true)
		wantIs(t, w, now, timers{8: now + on})
		wantQuiet(t, w, on-1)
		wantAdvance(t, w, 8)
		now += on
		wantIs(t, w, now, nil)
	}
	// One whose tick has gone since is due at the next one.
	wantSet(t, w, 8, 5, true)
	wantIs(t, w, now, timers{8: now + 1})
	wantAdvance(t, w, 8)
	wantQuiet(t, w, 300)
}

// P23.2
func TestAdvanceIsOneTickMore(t *testing.T) {
	w := New()
	for now := range 5000 {
		if w.Now() != now || w.Len() != 0 {
			t.Fatalf("Now: %d, Len: %d, want %d, 0", w.Now(), w.Len(), now)
		}
		wantAdvance(t, w)
	}
	wantIs(t, w, 5000, nil)
	wantSet(t, w, 1, 5002, true)
	wantAdvance(t, w)
	wantIs(t, w, 5001, timers{1: 5002})
	wantAdvance(t, w, 1)
	wantIs(t, w, 5002, nil)
}

// P23.2
func TestThoseThatAreDueAtOneTickRise(t *testing.T) {
	r := rand.New(rand.NewSource(23))
	for _, many := range []int{1, 2, 3, 7, 13, 100, 255, 256} {
		for range 10 {
			all := r.Perm(256)[:many]
			for _, order := range [][]int{all, rising(all), turned(rising(all))} {
				for _, due := range []int{1, 5, 64, 65, 129} {
					w, want := New(), timers{}
					for _, id := range order {
						wantSet(t, w, id, due, true)
						want[id] = due
					}
					wantIs(t, w, 0, want)
					wantQuiet(t, w, due-1)
					wantAdvance(t, w, rising(all)...)
					wantIs(t, w, due, nil)
					wantQuiet(t, w, 70)
				}
			}
		}
	}
}

// rising tells numbers in order.
func rising(all []int) []int {
	return slices.Sorted(slices.Values(all))
}

// turned tells numbers from the last to the first.
func turned(all []int) []int {
	all = slices.Clone(all)
	slices.Reverse(all)
	return all
}

// P23.2, P23.3: ticks of the same list, a turn or more apart.
func TestTimersOfTheSameListATurnLater(t *testing.T) {
	for on := range 64 {
		w := New()
		want := timers{}
		for id, turns := range []int{2, 0, 1, 0, 3, 1, 10, 0} {
			due := 1 + on + 64*turns
			wantSet(t, w, id, due, true)
			want[id] = due
		}
		wantIs(t, w, 0, want)
		wantQuiet(t, w, on)
		wantAdvance(t, w, 1, 3, 7)
		wantIs(t, w, on+1, timers{0: want[0], 2: want[2], 4: want[4], 5: want[5], 6: want[6]})
		wantQuiet(t, w, 63)
		wantAdvance(t, w, 2, 5)
		wantIs(t, w, on+65, timers{0: want[0], 4: want[4], 6: want[6]})
		wantQuiet(t, w, 63)
		wantAdvance(t, w, 0)
		wantQuiet(t, w, 63)
		wantAdvance(t, w, 4)
		wantIs(t, w, on+193, timers{6: want[6]})
		wantQuiet(t, w, 447)
		wantAdvance(t, w, 6)
		wantIs(t, w, on+641, nil)
	}
}

// P23.1 to P23.3
func TestAll256IdsAtOnce(t *testing.T) {
	for _, apart := range []int{0, 1, 2, 63, 64, 65, 7} {
		w, m := New(), &model{due: timers{}}
		for id := range 256 {
			due := 3 + (255-id)*apart
			wantSet(t, w, id, due, true)
			m.set(id, due)
		}
		wantIs(t, w, 0, m.due)
		if w.Len() != 256 {
			t.Fatalf("Len: %d", w.Len())
		}
		told := 0
		for range 3 + 255*apart {
			want := m.advance()
			told += len(want)
			wantAdvance(t, w, want...)
			if w.Len() != 256-told {
				t.Fatalf("Len: %d, want %d", w.Len(), 256-told)
			}
		}
		if told != 256 {
			t.Fatalf("told: %d", told)
		}
		wantIs(t, w, 3+255*apart, nil)
	}
}

// P23.2, R5
func TestAWheelThatNoCallMadeTellsNothing(t *testing.T) {
	var none *Wheel
	wantNothing(t, none)
	wantNothing(t, new(Wheel))
	var zero Wheel
	wantNothing(t, &zero)
	if zero.now != 0 || zero.due != nil {
		t.Errorf("a zero wheel is %d, %v behind its calls", zero.now, zero.due)
	}
}

// wantSameCall wants that a wheel and its model tell the same of an Advance, an Unset, or a Set.
func wantSameCall(t *testing.T, w *Wheel, m *model, call, id, at int) {
	t.Helper()
	switch call {
	case 0:
		wantAdvance(t, w, m.advance()...)
	case 1:
		wantUnset(t, w, id, m.unset(id))
	default:
		wantSet(t, w, id, at, m.set(id, at))
	}
}

// P23.1, P23.2: each run of four calls, of two ids and of one that may not be.
func TestEachRunOfCalls(t *testing.T) {
	type call struct{ call, id, on int }
	calls := []call{{}, {1, 0, 0}, {1, 1, 0}, {2, 256, 1}, {2, 0, 0}, {2, 0, 1}, {2, 0, 2}, {2, 1, 2}, {2, 1, 65}}
	var run func(done []call)
	run = func(done []call) {
		w, m := New(), &model{due: timers{}}
		for _, d := range done {
			wantSameCall(t, w, m, d.call, d.id, m.now+d.on)
		}
		if w.Now() != m.now || w.Len() != len(m.due) {
			t.Fatalf("Now: %d, Len: %d, want %d, %v", w.Now(), w.Len(), m.now, m.due)
		}
		for id := range 2 {
			at, there := m.due[id]
			wantWhen(t, w, id, at, there)
		}
		if len(done) == 4 {
			for range 68 {
				wantAdvance(t, w, m.advance()...)
			}
			return
		}
		for _, d := range calls {
			run(append(slices.Clone(done), d))
		}
	}
	run(nil)
}

// P23.1 to P23.3
func TestLongRunsTellWhatTheModelTells(t *testing.T) {
	r := rand.New(rand.NewSource(2301))
	for _, many := range []int{1, 2, 16, 256} {
		for _, far := range []int{2, 40, 64, 200, 1000} {
			w, m := New(), &model{due: timers{}}
			for i := range 3000 {
				// Of ten calls one is an Unset, and where there are few ids most go on.
				call := r.Intn(10)
				if many < 16 && call > 3 {
					call = 0
				}
				id, at := r.Intn(many), m.now+r.Intn(far+2)-2
				switch r.Intn(40) {
				case 0:
					id = outside[r.Intn(len(outside))]
				case 1:
					at = []int{math.MinInt, -1, 0, m.now - 64, m.now - 1}[r.Intn(5)]
				}
				wantSameCall(t, w, m, call, id, at)
				due, there := m.due[id]
				wantWhen(t, w, id, due, there)
				if i%50 == 0 {
					wantIs(t, w, m.now, m.due)
				}
			}
			for range far + 2 {
				wantAdvance(t, w, m.advance()...)
			}
			wantIs(t, w, m.now, nil)
		}
	}
}

// P23.3: of timers that are set once, and of which some are taken away again.
func TestWhatStaysIsToldJustOnce(t *testing.T) {
	r := rand.New(rand.NewSource(2302))
	for range 20 {
		w := New()
		want, told := timers{}, timers{}
		for _, id := range r.Perm(256)[:200] {
			want[id] = 1 + r.Intn(500)
			wantSet(t, w, id, want[id], true)
		}
		for id := range 100 {
			if _, there := want[id]; there {
				wantUnset(t, w, id, true)
				delete(want, id)
			}
		}
		for tick := 1; tick <= 700; tick++ {
			for _, id := range w.Advance() {
				if _, there := told[id]; there {
					t.Fatalf("%d is told twice", id)
				}
				told[id] = tick
			}
		}
		if !maps.Equal(told, want) {
			t.Fatalf("told: %v, want %v", told, want)
		}
	}
}

// R3
func TestWhatACallerWritesIntoAnAnswerTurnsNothing(t *testing.T) {
	w := New()
	for _, id := range []int{9, 2, 5, 7} {
		wantSet(t, w, id, 2, true)
	}
	wantSet(t, w, 3, 66, true)
	wantSet(t, w, 4, 66, true)
	wantAdvance(t, w)
	told := w.Advance()
	if !slices.Equal(told, []int{2, 5, 7, 9}) {
		t.Fatalf("Advance: %v", told)
	}
	for i := range told[:cap(told)] {
		told[:cap(told)][i] = 3
	}
	_ = append(told[:1], 11, 12, 13, 14, 15, 16)
	wantIs(t, w, 2, timers{3: 66, 4: 66})

	for _, id := range []int{2, 5, 7, 9} {
		wantSet(t, w, id, 66, true)
	}
	for i := range told[:cap(told)] {
		told[:cap(told)][i] = 250
	}
	wantIs(t, w, 2, timers{2: 66, 3: 66, 4: 66, 5: 66, 7: 66, 9: 66})
	wantQuiet(t, w, 63)
	one := w.Advance()
	want := []int{2, 3, 4, 5, 7, 9}
	for id := range 256 {
		wantSet(t, w, id, 67+id%128, true)
	}
	for range 64 {
		w.Advance()
	}
	if !slices.Equal(one, want) {
		t.Errorf("what was told is %v behind other calls, want %v", one, want)
	}
}

// R4
func TestTwoWheelsOfTheSameCallsTellTheSame(t *testing.T) {
	r := rand.New(rand.NewSource(2303))
	for range 5 {
		one, two := New(), New()
		for range 2000 {
			id, at := r.Intn(258)-1, one.Now()+r.Intn(150)-3
			switch r.Intn(4) {
			case 0:
				wantAdvance(t, two, one.Advance()...)
			case 1:
				wantUnset(t, two, id, one.Unset(id))
			default:
				wantSet(t, two, id, at, one.Set(id, at))
			}
			due, there := one.When(id)
			wantWhen(t, two, id, due, there)
			if one.Now() != two.Now() || one.Len() != two.Len() {
				t.Fatalf("%d, %d and %d, %d, behind the same calls", one.Now(), one.Len(), two.Now(), two.Len())
			}
		}
	}
}

// R4
func TestWheelsAreOnTheirOwn(t *testing.T) {
	one, two := New(), New()
	wantSet(t, one, 1, 2, true)
	wantIs(t, two, 0, nil)
	wantSet(t, two, 1, 3, true)
	wantSet(t, two, 2, 2, true)
	wantIs(t, one, 0, timers{1: 2})
	wantAdvance(t, one)
	wantAdvance(t, one, 1)
	wantIs(t, one, 2, nil)
	wantIs(t, two, 0, timers{1: 3, 2: 2})
	wantUnset(t, one, 2, false)
	wantAdvance(t, two)
	wantAdvance(t, two, 2)
	wantAdvance(t, two, 1)
	wantIs(t, two, 3, nil)
	wantIs(t, one, 2, nil)
}
