package ready_test

import (
	"fmt"
	"slices"
	"testing"

	"septum/api"
	"septum/frame"
	"septum/plan"
	"septum/ready"
	"septum/thread"
)

// P14.1: Change of each thread that is ready, to each priority: it is the first one of that, or the
// last one.
func TestChangeOfReady(t *testing.T) {
	for name, p := range plans(t) {
		for i := range p.Threads {
			for prio := range api.Levels {
				for _, first := range []bool{true, false} {
					s := begin(name, p)
					s.Change(t, i, prio, first)
					if v := get(t, s.m, p, i, thread.Prio); v != int64(prio) {
						t.Errorf("%s: PRIO of %d is %d, want %d", name, i, v, prio)
					}
					alike := s.lists[prio]
					if first && alike[0] != i || !first && alike[len(alike)-1] != i {
						t.Errorf("%s: %d to %d, %t: %v", name, i, prio, first, alike)
					}
				}
			}
		}
	}
}

// P14.1: Changes one behind the other, so that a thread comes to stand amid others and leaves them.
func TestChangeThereAndBack(t *testing.T) {
	for name, p := range plans(t) {
		s := begin(name, p)
		for prio := range api.Levels {
			for i := range p.Threads {
				s.Change(t, i, prio, i%2 == 0)
			}
		}
		for i := range p.Threads {
			s.Change(t, i, 7*i%16, false)
			s.Change(t, i, p.Part.Threads[i].Priority, true)
		}
	}
}

// P14.1: spelled out in whole: to a priority of one's own, to that of others, and to one of nobody.
func TestChangeInWhole(t *testing.T) {
	p := of(t, api.Part{Threads: threads(5, 5, 5, 9, 1)})
	for _, c := range []struct {
		i, prio     int
		first, last []int
	}{
		{0, 5, []int{3, 0, 1, 2, 4}, []int{3, 1, 2, 0, 4}},
		{1, 5, []int{3, 1, 0, 2, 4}, []int{3, 0, 2, 1, 4}},
		{2, 5, []int{3, 2, 0, 1, 4}, []int{3, 0, 1, 2, 4}},
		{4, 5, []int{3, 4, 0, 1, 2}, []int{3, 0, 1, 2, 4}},
		{3, 5, []int{3, 0, 1, 2, 4}, []int{0, 1, 2, 3, 4}},
		{1, 9, []int{1, 3, 0, 2, 4}, []int{3, 1, 0, 2, 4}},
		{1, 15, []int{1, 3, 0, 2, 4}, []int{1, 3, 0, 2, 4}},
		{1, 0, []int{3, 0, 2, 4, 1}, []int{3, 0, 2, 4, 1}},
		{3, 1, []int{0, 1, 2, 3, 4}, []int{0, 1, 2, 4, 3}},
	} {
		for _, first := range []bool{true, false} {
			m := plan.Boot(p)
			want := c.last
			if first {
				want = c.first
			}
			play(t, m, func(f *frame.Frame) { ready.Change(f, p, c.i, c.prio, first) })
			if l := best(t, m, p, 5); !slices.Equal(l, want) {
				t.Errorf("Change(%d, %d, %t): %v, want %v", c.i, c.prio, first, l, want)
			}
		}
	}
}

// P14.1: Change of one that isn't ready: its PRIO turns, and nothing else; once it is ready, it is the
// last one of its new PRIO, whatever first was.
func TestChangeOfUnready(t *testing.T) {
	for name, p := range plans(t) {
		for i := range p.Threads {
			for n := range 3 * api.Levels * 2 {
				state, prio, first := 1+n%3, n/3%api.Levels, n%2 == 0
				s := begin(name, p)
				s.Unready(t, i, state)
				before := s.m.Words()
				was := get(t, s.m, p, i, thread.Prio)
				s.Change(t, i, prio, first)
				changed := changes(before, s.m.Words())
				if get(t, s.m, p, i, thread.Prio) != int64(prio) || was != int64(prio) && len(changed) != 1 || was == int64(prio) && len(changed) != 0 {
					t.Errorf("%s: %d of the state %d to %d: the words %v are changed", name, i, state, prio, changed)
				}
				s.Ready(t, i)
			}
		}
	}
}

// P14.1: Change leaves BASE as it is, and so does every other call.
func TestBaseIsLeft(t *testing.T) {
	p := of(t, api.Part{Threads: threads(1, 5, 5, 15), Objects: objects()})
	m := plan.Boot(p)
	for prio := range api.Levels {
		for i := range p.Threads {
			play(t, m, func(f *frame.Frame) { ready.Change(f, p, i, prio, prio%2 == 0) })
			play(t, m, func(f *frame.Frame) { ready.Unready(f, p, i, thread.Suspended) })
			play(t, m, func(f *frame.Frame) { ready.Change(f, p, i, 15-prio, false) })
			play(t, m, func(f *frame.Frame) { ready.Ready(f, p, i) })
			play(t, m, func(f *frame.Frame) { ready.Yield(f, p, i) })
			if v := get(t, m, p, i, thread.Base); v != int64(p.Part.Threads[i].Priority) {
				t.Errorf("BASE of %d is %d", i, v)
			}
			if v := get(t, m, p, i, thread.Prio); v != int64(15-prio) {
				t.Errorf("PRIO of %d is %d, want %d", i, v, 15-prio)
			}
		}
	}
}

// P14.1: PRIO counts, not BASE: where both differ, Ready and Yield go by PRIO.
func TestPrioCounts(t *testing.T) {
	p := of(t, api.Part{Threads: threads(3, 8, 8)})
	s := begin("BASE 3, PRIO 8", p)
	s.Change(t, 0, 8, true)
	for _, want := range [][]int{{1, 2, 0}, {2, 0, 1}, {0, 1, 2}} {
		s.Yield(t, s.order()[0])
		if l := best(t, s.m, p, 3); !slices.Equal(l, want) {
			t.Errorf("%v, want %v", l, want)
		}
	}
	s.Unready(t, 0, thread.Waiting)
	s.Ready(t, 0)
	if l := best(t, s.m, p, 3); !slices.Equal(l, []int{1, 2, 0}) {
		t.Errorf("ready again: %v", l)
	}
	s.Change(t, 0, 3, false)
	play(t, s.m, func(f *frame.Frame) { thread.Set(f, p, 0, thread.Base, 15) })
	play(t, s.m, func(f *frame.Frame) { ready.Yield(f, p, 0) })
	play(t, s.m, func(f *frame.Frame) { ready.Unready(f, p, 0, thread.Waiting) })
	play(t, s.m, func(f *frame.Frame) { ready.Ready(f, p, 0) })
	if l := best(t, s.m, p, 3); !slices.Equal(l, []int{1, 2, 0}) {
		t.Errorf("BASE 15, PRIO 3: %v", l)
	}
}

// P14.1: what stands in a thread's other fields doesn't count, and is left as it is.
func TestOtherFieldsAreLeft(t *testing.T) {
	p := of(t, api.Part{Threads: threads(4, 4, 4), Objects: objects()})
	s := begin("full fields", p)
	for i := range p.Threads {
		for field := range thread.Fields {
			if field != thread.State && field != thread.Prio {
				play(t, s.m, func(f *frame.Frame) { thread.Set(f, p, i, field, int64(100*i+field+1)) })
			}
		}
	}
	for _, a := range []int{p.Lock, p.IPI[0], p.IPI[1], p.Current[0], p.Current[1], p.Clock, p.Clock + 1, p.Table} {
		s.m.Store(a, int64(2000+a))
	}
	s.boot = s.m.Words()
	for i := range p.Threads {
		s.Yield(t, i)
		s.Change(t, i, 4, true)
		s.Change(t, i, 11, false)
		s.Unready(t, i, thread.Gone)
		s.Change(t, i, 4, true)
		s.Ready(t, i)
	}
}

// P12.2, P14.1: plans apart: each memory has a queue of its own.
func TestMemoriesApart(t *testing.T) {
	p := of(t, api.Part{Threads: threads(2, 2)})
	q := of(t, api.Part{Threads: threads(1, 5, 5), Objects: objects()})
	all := []*system{begin("the first one", p), begin("the second one", p), begin("another plan", q)}
	for k := range 60 {
		s := all[k%3]
		i := k / 3 % len(s.p.Threads)
		s.Change(t, i, k%16, k%2 == 0)
		s.Unready(t, (i+1)%len(s.p.Threads), 1+k%3)
		for _, other := range all {
			other.check(t, fmt.Sprint("step ", k))
		}
		s.Ready(t, (i+1)%len(s.p.Threads))
	}
}
