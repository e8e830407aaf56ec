package wait_test

import (
	"fmt"
	"math"
	"slices"
	"testing"

	"septum/api"
	"septum/frame"
	"septum/plan"
	"septum/thread"
	"septum/wait"
)

// due answers whom Expire answers, one after the other, till nobody is due.
func due(t *testing.T, s *system) []int {
	t.Helper()
	var l []int
	for i := s.Expire(t); i != none; i = s.Expire(t) {
		l = append(l, i)
	}
	return l
}

// P16.2: timers spelled out in whole: of each thread for how many ticks it waits, and who is due with the
// first tick, with the second one, and so on.
func TestTimesInWhole(t *testing.T) {
	for _, c := range []struct {
		ticks []int
		due   [][]int
	}{
		{nil, [][]int{nil, nil}},
		{[]int{0, -1}, [][]int{nil, nil, nil}},
		{[]int{1}, [][]int{{0}, nil}},
		{[]int{2}, [][]int{nil, {0}, nil}},
		{[]int{5, 3, 5}, [][]int{nil, nil, {1}, nil, {0, 2}, nil}},
		{[]int{1, 1, 1, 1, 1, 1}, [][]int{{0, 1, 2, 3, 4, 5}, nil}},
		{[]int{6, 5, 4, 3, 2, 1}, [][]int{{5}, {4}, {3}, {2}, {1}, {0}, nil}},
		{[]int{1, 2, 3, 4, 5, 6}, [][]int{{0}, {1}, {2}, {3}, {4}, {5}, nil}},
		{[]int{2, 0, 1, 2, -7, 1}, [][]int{{2, 5}, {0, 3}, nil}},
		{[]int{3, 1, 3, 1, 3, 1}, [][]int{{1, 3, 5}, nil, {0, 2, 4}, nil}},
	} {
		p := of(t, api.Part{Threads: threads(5, 1, 9, 5, 5, 0), Objects: both()})
		for sleepers := range 3 {
			s := begin(fmt.Sprint(c.ticks, ", ", sleepers), p)
			for i, ticks := range c.ticks {
				if i%3 == sleepers {
					s.Sleep(t, i, ticks)
				} else {
					s.Wait(t, i, i%2, i/2%2, ticks)
				}
			}
			for k, want := range c.due {
				s.Tick(t)
				if got := due(t, s); !slices.Equal(got, want) {
					t.Errorf("%s: with the tick %d are due %v, want %v", s.name, k+1, got, want)
				}
			}
		}
	}
}

// P16.2: what one is answered that was due: OK, if it slept, else ErrTime; the count 0, and no data: DATA
// stays.
func TestAnswersOfThoseThatAreDue(t *testing.T) {
	for name, p := range plans(t) {
		for i := range p.Threads {
			for o := none; o < len(p.Objects); o++ {
				s := begin(name, p)
				for d := range api.MaxChunk {
					s.Data(t, i, d, int64(d-9))
				}
				s.Sleep(t, i, 9)
				s.Wake(t, i, api.ErrGone, 3, nil)
				want := api.OK
				if o == none {
					s.Sleep(t, i, 1)
				} else {
					want = api.ErrTime
					s.Wait(t, i, o, i%2, 1)
				}
				s.Tick(t)
				if got := s.Expire(t); got != i {
					t.Errorf("%s: %d is due, want %d", name, got, i)
				}
				code, count := get(t, s.m, p, i, thread.Code), get(t, s.m, p, i, thread.Count)
				if code != int64(want) || count != 0 || get(t, s.m, p, i, thread.State) != thread.Ready {
					t.Errorf("%s: %d was answered %d and %d", name, i, code, count)
				}
				for d := range api.MaxChunk {
					if v := get(t, s.m, p, i, thread.Data+d); v != int64(d-9) {
						t.Errorf("%s: the word %d of DATA is %d", name, d, v)
					}
				}
			}
		}
	}
}

// P16.1, P16.2: a timer of t ticks is due with the t-th tick, and not ahead.
func TestNotAhead(t *testing.T) {
	p := of(t, api.Part{Threads: threads(1, 5), Objects: both()})
	for _, ticks := range []int{1, 2, 3, 17, 100, api.MaxTime} {
		m := plan.Boot(p)
		play(t, m, func(f *frame.Frame) {
			wait.Wait(f, p, 0, 0, 1, ticks)
			wait.Sleep(f, p, 1, ticks)
		})
		for tick := 1; tick <= ticks; tick++ {
			var i, j int
			var one, two bool
			play(t, m, func(f *frame.Frame) {
				wait.Tick(f, p)
				i, one = wait.Expire(f, p)
				j, two = wait.Expire(f, p)
			})
			if last := tick == ticks; one != last || two != last || i != 0 || last != (j == 1) {
				t.Errorf("%d ticks: with the tick %d: %d, %t and %d, %t", ticks, tick, i, one, j, two)
			}
		}
	}
}

// P16.1: ticks of 0 and below: no timer; the greatest int is one.
func TestTicksOfAllKinds(t *testing.T) {
	p := of(t, api.Part{Threads: threads(1, 5, 5, 7, 9, 9), Objects: both()})
	for _, ticks := range []int{0, -1, -2, -1000, math.MinInt, math.MinInt + 1, -1 << 32, 1, math.MaxInt, math.MaxInt - 1, 1 << 32, 1 << 62} {
		for _, others := range []int{0, 1, math.MaxInt} {
			s := begin(fmt.Sprint(ticks, " beside ", others), p)
			s.Sleep(t, 0, others)
			s.Wait(t, 1, 0, 0, ticks)
			s.Wait(t, 2, 1, 1, others)
			s.Sleep(t, 3, ticks)
			s.Wait(t, 4, 1, 1, ticks)
			s.Sleep(t, 5, others)
			for i, want := range []bool{others > 0, ticks > 0, others > 0, ticks > 0, ticks > 0, others > 0} {
				if got := get(t, s.m, p, i, thread.Timed) == 1; got != want {
					t.Errorf("%s: TIMED of %d: %t", s.name, i, got)
				}
			}
			for range 3 {
				s.Tick(t)
				due(t, s)
			}
			s.look(t)
			for i := range 6 {
				s.Wake(t, i, api.OK, 0, nil)
			}
		}
	}
}

// P16.1: one that is woken while its timer runs isn't due any more; all others are, as they were.
func TestWokenAheadOfItsTime(t *testing.T) {
	p := of(t, api.Part{Threads: threads(5, 1, 9, 5), Objects: both()})
	for _, ticks := range [][]int{{1, 2, 3, 4}, {2, 2, 2, 2}, {4, 3, 2, 1}, {3, 1, 3, 1}} {
		for woken := range 4 {
			for passed := range 4 {
				s := begin(fmt.Sprint(ticks, ", ", woken, " woken behind ", passed), p)
				for i, k := range ticks {
					s.Wait(t, i, i%2, 0, k)
				}
				for range passed {
					s.Tick(t)
					due(t, s)
				}
				s.Wake(t, woken, api.ErrGone, 0, nil)
				for range 5 {
					s.Tick(t)
					if l := due(t, s); slices.Contains(l, woken) {
						t.Errorf("%s: %v are due", s.name, l)
					}
				}
				if s.answers[woken].code == api.ErrTime && passed < ticks[woken] {
					t.Errorf("%s: its time was over", s.name)
				}
			}
		}
	}
}

// P16.2: a Tick, and an Expire, with no timers: nothing is changed.
func TestWithoutTimers(t *testing.T) {
	for name, p := range plans(t) {
		s := begin(name, p)
		for i := range p.Threads {
			words := s.m.Words()
			for range 3 {
				s.Tick(t)
				if l := due(t, s); len(l) > 0 {
					t.Errorf("%s: %v are due", name, l)
				}
			}
			if changed := changes(words, s.m.Words()); len(changed) > 0 {
				t.Errorf("%s: the words %v are changed", name, changed)
			}
			s.Sleep(t, i, 0)
		}
	}
}

// P16.2: one that isn't asked for with Expire stays due; other timers go on behind it.
func TestStaysDue(t *testing.T) {
	p := of(t, api.Part{Threads: threads(5, 1, 9, 5), Objects: both()})
	s := begin("not asked for", p)
	s.Wait(t, 0, 0, 0, 1)
	s.Sleep(t, 1, 1)
	s.Wait(t, 2, 0, 0, 2)
	s.Tick(t)
	s.Tick(t)
	s.Sleep(t, 3, 1)
	if i := s.Expire(t); i != 0 {
		t.Errorf("%d is due", i)
	}
	s.Tick(t)
	s.Wake(t, 1, api.ErrGone, 0, nil)
	s.Tick(t)
	if l := due(t, s); !slices.Equal(l, []int{2, 3}) {
		t.Errorf("%v are due", l)
	}
}

// P16.2: those that are due are woken in the order in which they are, and are ready behind the others of
// their priority.
func TestWokenByTheirTimersInOrder(t *testing.T) {
	p := of(t, api.Part{Threads: threads(5, 5, 5, 5, 5, 5), Objects: both()})
	for _, order := range orders(5) {
		s := begin(fmt.Sprint("they wait in the order ", order), p)
		for k, i := range order {
			s.Wait(t, i, k%2, 0, 1+k/3)
		}
		s.Tick(t)
		due(t, s)
		s.Tick(t)
		due(t, s)
		if got, want := best(t, s.m, p), append([]int{5}, order...); !slices.Equal(got, want) {
			t.Errorf("%s: %v are ready, want %v", s.name, got, want)
		}
	}
}
