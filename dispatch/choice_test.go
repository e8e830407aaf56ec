package dispatch_test

import (
	"fmt"
	"math"
	"slices"
	"testing"

	"septum/api"
	"septum/frame"
	"septum/plan"
	"septum/thread"
)

// state is who is ready, in the queue's order, who runs, who holds, and who is called.
type state struct {
	order  []int
	runs   [2]int
	holds  []int
	called [2]bool
}

// made answers a system of the plan, in that state: the threads that are ready stand in one list, or,
// if apart, each in one of its own.
func made(t *testing.T, p plan.Plan, st state, apart bool) *system {
	t.Helper()
	s := begin(fmt.Sprintf("%+v", st), p)
	for i := range p.Threads {
		s.Unready(t, i, thread.Waiting+i%3)
		s.Change(t, i, 5, false)
	}
	for k, i := range st.order {
		if apart {
			s.Change(t, i, 15-2*k, false)
		}
		s.Ready(t, i)
	}
	for _, i := range st.holds {
		s.Hold(t, i, int64(1+i))
	}
	s.runs, s.called = st.runs, st.called
	for core := range 2 {
		s.m.Store(p.Current[core], int64(st.runs[core]+1))
		if st.called[core] {
			s.m.Store(p.IPI[core], 1)
		}
	}
	s.check(t, "made")
	return s
}

// P15.1: spelled out in whole: who runs on a core behind its Dispatch, and whether the other one is
// called.
func TestDispatchInWhole(t *testing.T) {
	p := of(t, api.Part{Threads: threads(5, 5, 5, 5)})
	for _, c := range []struct {
		order, runs, holds []int
		core, want         int
		calls              bool
	}{
		// Nobody is ready: none; the other core is called, if it has one.
		{nil, []int{none, none}, nil, 0, none, false},
		{nil, []int{0, none}, nil, 0, none, false},
		{nil, []int{0, 1}, nil, 0, none, true},
		{nil, []int{none, 1}, nil, 0, none, true},
		{nil, []int{none, 1}, nil, 1, none, false},
		{nil, []int{3, 1}, []int{0, 1, 2, 3}, 1, none, true},
		// One is ready.
		{[]int{2}, []int{none, none}, nil, 0, 2, false},
		{[]int{2}, []int{none, none}, nil, 1, 2, false},
		{[]int{2}, []int{2, none}, nil, 0, 2, false},
		{[]int{2}, []int{none, 2}, nil, 0, none, false},
		{[]int{2}, []int{1, 2}, nil, 0, none, false},
		{[]int{2}, []int{1, 2}, nil, 1, 2, true},
		{[]int{2}, []int{none, 2}, nil, 1, 2, false},
		{[]int{2}, []int{0, 1}, nil, 0, 2, true},
		{[]int{2}, []int{0, 1}, nil, 1, 2, true},
		// Two are ready.
		{[]int{2, 1}, []int{none, none}, nil, 0, 2, true},
		{[]int{2, 1}, []int{none, none}, nil, 1, 2, true},
		{[]int{2, 1}, []int{none, 2}, nil, 0, 1, false},
		{[]int{2, 1}, []int{none, 1}, nil, 0, 2, false},
		{[]int{2, 1}, []int{1, none}, nil, 0, 1, true},
		{[]int{2, 1}, []int{1, none}, nil, 1, 2, false},
		{[]int{2, 1}, []int{1, 2}, nil, 0, 1, false},
		{[]int{2, 1}, []int{1, 2}, nil, 1, 2, false},
		{[]int{2, 1}, []int{0, 2}, nil, 0, 1, false},
		{[]int{2, 1}, []int{0, 2}, nil, 1, 2, true},
		{[]int{2, 1}, []int{0, 3}, nil, 0, 2, true},
		{[]int{2, 1}, []int{0, 3}, nil, 1, 2, true},
		// Three are ready: the last one of them isn't one of the best.
		{[]int{2, 1, 0}, []int{0, 3}, nil, 0, 2, true},
		{[]int{2, 1, 0}, []int{0, 1}, nil, 0, 2, false},
		{[]int{2, 1, 0}, []int{0, 1}, nil, 1, 1, true},
		{[]int{2, 1, 0}, []int{0, 2}, nil, 0, 1, false},
		{[]int{2, 1, 0}, []int{1, 0}, nil, 0, 1, true},
		{[]int{2, 1, 0}, []int{1, 0}, nil, 1, 2, false},
		{[]int{2, 1, 0}, []int{1, none}, nil, 1, 2, false},
		{[]int{2, 1, 0}, []int{0, none}, nil, 1, 2, true},
		// One that is fixed here stays, and of the others the first one alone is one of the best.
		{[]int{2, 1, 0}, []int{0, 1}, []int{0}, 0, 0, true},
		{[]int{2, 1, 0}, []int{0, 2}, []int{0}, 0, 0, false},
		{[]int{2, 1, 0}, []int{0, none}, []int{0}, 0, 0, true},
		{[]int{2, 1, 0}, []int{0, none}, []int{0}, 1, 2, false},
		{[]int{2, 1, 0}, []int{0, 1}, []int{0}, 1, 2, false},
		{[]int{2, 1, 0}, []int{2, 1}, []int{2}, 0, 2, false},
		{[]int{2, 1, 0}, []int{2, 0}, []int{2}, 1, 1, false},
		{[]int{0}, []int{0, none}, []int{0}, 0, 0, false},
		{[]int{0}, []int{0, none}, []int{0}, 1, none, false},
		{[]int{0}, []int{0, 1}, []int{0}, 0, 0, true},
		{[]int{0}, []int{0, 1}, []int{0}, 1, none, false},
		// One that is fixed there isn't called, and isn't one of the best.
		{[]int{2, 1, 0}, []int{1, 0}, []int{0}, 0, 2, false},
		{[]int{2, 1, 0}, []int{2, 0}, []int{0}, 0, 2, false},
		{[]int{2, 1, 0}, []int{none, 0}, []int{0}, 0, 2, false},
		{[]int{2}, []int{none, 2}, []int{2}, 0, none, false},
		{[]int{2}, []int{1, 2}, []int{2}, 0, none, false},
		// Both are fixed: the best are none.
		{[]int{3, 2, 1, 0}, []int{0, 1}, []int{0, 1}, 0, 0, false},
		{[]int{3, 2, 1, 0}, []int{0, 1}, []int{0, 1}, 1, 1, false},
		{[]int{3, 2, 1, 0}, []int{2, 3}, []int{2, 3}, 0, 2, false},
		// HELD of one that isn't ready, and of one that doesn't run, counts for nothing.
		{[]int{2, 1}, []int{0, 3}, []int{0, 3}, 0, 2, true},
		{[]int{2, 1}, []int{0, 1}, []int{0}, 0, 2, false},
		{[]int{2, 1}, []int{0, 1}, []int{0}, 1, 1, true},
		{[]int{2, 1, 0}, []int{2, 1}, []int{0}, 0, 2, false},
		{[]int{2, 1, 0}, []int{0, 1}, []int{2}, 0, 2, false},
		{[]int{2, 1, 0}, []int{none, none}, []int{2, 1, 0}, 0, 2, true},
		{[]int{2, 1, 0}, []int{none, none}, []int{0}, 1, 2, true},
	} {
		for _, apart := range []bool{true, false} {
			s := made(t, p, state{c.order, [2]int(c.runs), c.holds, [2]bool{}}, apart)
			other := s.runs[1-c.core]
			if i := turn(t, s.m, p, c.core); i != c.want || current(t, s.m, p, c.core) != c.want {
				t.Errorf("%s: Dispatch(%d): %d, want %d", s.name, c.core, i, c.want)
			}
			if current(t, s.m, p, 1-c.core) != other || called(t, s.m, p, 1-c.core) != c.calls || called(t, s.m, p, c.core) {
				t.Errorf("%s: Dispatch(%d): the other core is called: %t, want %t", s.name, c.core, !c.calls, c.calls)
			}
		}
	}
}

// P15.1: a thread that is fixed stays, however urgent others become, till its HELD is 0 or it is ready
// no more.
func TestFixedStays(t *testing.T) {
	p := of(t, api.Part{Threads: threads(1, 1, 0, 0)})
	for core := range 2 {
		for _, end := range []string{"HELD", "Unready"} {
			s := begin(fmt.Sprint("fixed on ", core, ", till ", end), p)
			i := s.runs[core]
			s.Hold(t, i, 1)
			for prio := 2; prio < api.Levels; prio++ {
				for _, j := range []int{3, 2, 1 - i} {
					s.Change(t, j, prio, true)
					s.Dispatch(t, prio%2)
					s.Dispatch(t, 1-prio%2)
				}
				if s.runs[core] != i || s.runs[1-core] != 1-i {
					t.Errorf("%s: %v run", s.name, s.runs)
				}
			}
			s.Change(t, i, 0, false)
			s.Dispatch(t, core)
			if s.runs[core] != i || s.called[core] {
				t.Errorf("%s: %v run, and %v are called", s.name, s.runs, s.called)
			}
			if end == "HELD" {
				s.Hold(t, i, 0)
			} else {
				s.Unready(t, i, thread.Suspended)
			}
			s.Dispatch(t, 1-core)
			if !s.called[core] {
				t.Errorf("%s: core %d isn't called", s.name, core)
			}
			s.Dispatch(t, core)
			if s.runs[core] != 2 {
				t.Errorf("%s: %v run", s.name, s.runs)
			}
		}
	}
}

// P15.1: both are fixed: nobody else is one of the best, whoever becomes ready, and nobody is called.
func TestBothAreFixed(t *testing.T) {
	p := of(t, api.Part{Threads: threads(1, 1, 0, 0)})
	s := begin("both are fixed", p)
	s.Hold(t, 0, 1)
	s.Hold(t, 1, 3)
	for _, i := range []int{2, 3} {
		s.Change(t, i, 15, true)
		for _, core := range []int{0, 1, 1, 0} {
			s.Dispatch(t, core)
		}
	}
	s.Change(t, 0, 0, false)
	s.Change(t, 1, 0, false)
	for _, core := range []int{1, 0} {
		s.Dispatch(t, core)
	}
	if s.runs != [2]int{0, 1} || s.called != [2]bool{} {
		t.Errorf("%v run, and %v are called", s.runs, s.called)
	}
}

// Words of the chapter: HELD above 0 alone makes one that is ready and runs fixed: it stays, and isn't
// called.
func TestHeld(t *testing.T) {
	p := of(t, api.Part{Threads: threads(1, 1, 9)})
	for v, fixed := range map[int64]bool{0: false, 1: true, 2: true, 3: true, 256: true, 1 << 32: true, math.MaxInt64: true,
		-1: false, -1 << 32: false, -1<<32 + 1: false, math.MinInt64: false} {
		for core := range 2 {
			st := state{order: []int{2, 1, 0}}
			st.runs[core], st.runs[1-core] = 0, 2
			s := made(t, p, st, true)
			s.name = fmt.Sprint("HELD of ", v, ", core ", core)
			s.Hold(t, 0, v)
			s.Dispatch(t, 1-core)
			if s.called[core] == fixed {
				t.Errorf("%s: called is %t", s.name, s.called[core])
			}
			s.Dispatch(t, core)
			if stays := s.runs[core] == 0; stays != fixed {
				t.Errorf("%s: %d runs", s.name, s.runs[core])
			}
		}
	}
}

// Words of the chapter: a thread of each other STATE isn't ready, whatever HELD is; so none that the
// states list has.
func TestStates(t *testing.T) {
	p := of(t, api.Part{Threads: threads(1, 1, 9)})
	for _, v := range []int64{thread.Waiting, thread.Suspended, thread.Gone, 4, -1, 1 << 8, 1 << 32, math.MaxInt64, math.MinInt64} {
		s := made(t, p, state{[]int{2, 1}, [2]int{0, 1}, []int{0}, [2]bool{}}, true)
		play(t, s.m, func(f *frame.Frame) { thread.Set(f, p, 0, thread.State, v) })
		s.name = fmt.Sprint("STATE ", v)
		s.Dispatch(t, 1)
		if !s.called[0] || s.runs != [2]int{0, 1} {
			t.Errorf("%s: %v run, and %v are called", s.name, s.runs, s.called)
		}
		s.Dispatch(t, 0)
		if s.runs != [2]int{2, 1} {
			t.Errorf("%s: %v run", s.name, s.runs)
		}
	}
}

// P15.1: a call that is there already stays, whether there is a need for it or not, on either core;
// Clear takes it away, and a Dispatch of the core that is called doesn't.
func TestCallsStay(t *testing.T) {
	p := of(t, api.Part{Threads: threads(5, 5, 5, 5)})
	for _, needed := range []bool{true, false} {
		for core := range 2 {
			for k := range 4 {
				before := [2]bool{k&1 == 1, k&2 == 2}
				st := state{[]int{2, 1, 0}, [2]int{2, 1}, nil, before}
				if needed {
					st.runs[1-core] = 3
				}
				s := made(t, p, st, false)
				s.Dispatch(t, core)
				want := before
				want[1-core] = before[1-core] || needed
				if s.called != want {
					t.Errorf("%s: Dispatch(%d): %v are called, want %v", s.name, core, s.called, want)
				}
				s.Dispatch(t, 1-core)
				s.Dispatch(t, core)
				if s.called != want {
					t.Errorf("%s: Dispatches of both: %v are called, want %v", s.name, s.called, want)
				}
				s.Clear(t, core)
				s.Clear(t, 1-core)
				if s.called != [2]bool{} {
					t.Errorf("%s: behind Clear %v are called", s.name, s.called)
				}
			}
		}
	}
}

// P15.1: an IPI that is neither 0 nor 1 is no call; it is left as it is, till there is need for one.
func TestIPIsThatAreNone(t *testing.T) {
	p := of(t, api.Part{Threads: threads(5, 5, 5)})
	for _, v := range []int64{2, 3, -1, 1 << 8, 1<<8 + 1, 1<<32 + 1, math.MaxInt64, math.MinInt64, math.MinInt64 + 1} {
		for core := range 2 {
			s := begin(fmt.Sprint("an IPI of ", v), p)
			s.m.Store(p.IPI[1-core], v)
			words := s.m.Words()
			turn(t, s.m, p, core)
			turn(t, s.m, p, 1-core)
			if called(t, s.m, p, 1-core) || !slices.Equal(s.m.Words(), words) {
				t.Errorf("%s: core %d is called, or words are changed", s.name, 1-core)
			}
			s.Unready(t, s.runs[1-core], thread.Waiting)
			s.Dispatch(t, core)
		}
	}
}

// P15.1: a thread doesn't change its core, while it is one of the best: not by Yield, nor by priorities
// that turn.
func TestNobodyChangesCores(t *testing.T) {
	p := of(t, api.Part{Threads: threads(5, 5)})
	s := begin("two threads", p)
	for prio := range api.Levels {
		for i := range 2 {
			s.Yield(t, i)
			s.Dispatch(t, i)
			s.Change(t, i, prio, i == 0)
			s.Dispatch(t, 1-i)
			s.Dispatch(t, i)
			if s.runs != [2]int{0, 1} || s.called != [2]bool{} {
				t.Errorf("%v run, and %v are called", s.runs, s.called)
			}
		}
	}
}
