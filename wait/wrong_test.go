package wait_test

import (
	"fmt"
	"math"
	"slices"
	"testing"
	"time"

	"septum/api"
	"septum/delta"
	"septum/frame"
	"septum/list"
	"septum/plan"
	"septum/thread"
	"septum/wait"
	"septum/word"
)

// far are numbers that are far from all limits; some are within them in their lowest 8, 16 or 32 bits.
var far = []int{math.MaxInt, math.MaxInt - 1, math.MinInt, math.MinInt + 1, 1 << 8, 1<<8 + 1, 1 << 16, 1<<16 + 1,
	1 << 32, 1<<32 + 1, 1 << 62, -1 << 8, -1 << 16, -1 << 32, -1<<32 + 1, -2, -100}

// unchanged fails the test, unless the body leaves all words of the memory as they are.
func unchanged(t *testing.T, m *word.Mem, body frame.Body, what ...any) {
	t.Helper()
	words := m.Words()
	play(t, m, body)
	if changed := changes(words, m.Words()); len(changed) > 0 {
		t.Errorf("%v: the words %v are changed", what, changed)
	}
}

// noThread fails the test, unless the calls do nothing of the thread i, and answer 0, false.
func noThread(t *testing.T, m *word.Mem, p plan.Plan, i int, what ...any) {
	t.Helper()
	for _, ticks := range []int{-1, 0, 1, math.MaxInt} {
		for o := range len(p.Objects) + 1 {
			for side := range 2 {
				unchanged(t, m, func(f *frame.Frame) { wait.Wait(f, p, i, o, side, ticks) }, "Wait", i, o, side, ticks, what)
			}
		}
		unchanged(t, m, func(f *frame.Frame) { wait.Sleep(f, p, i, ticks) }, "Sleep", i, ticks, what)
	}
	for _, data := range datas() {
		unchanged(t, m, func(f *frame.Frame) { wait.Wake(f, p, i, api.ErrGone, 7, data) }, "Wake", i, what)
	}
	unchanged(t, m, func(f *frame.Frame) { wait.Order(f, p, i) }, "Order", i, what)
	for o := -1; o <= len(p.Objects); o++ {
		for side := -1; side <= 2; side++ {
			unchanged(t, m, func(f *frame.Frame) {
				if j, ok := wait.Next(f, p, o, side, i); j != 0 || ok {
					t.Errorf("%v: Next(%d, %d, %d): %d, %t", what, o, side, i, j, ok)
				}
			}, "Next", o, side, i, what)
		}
	}
	unchanged(t, m, func(f *frame.Frame) {
		if wait.May(f, p, i) {
			t.Errorf("%v: May(%d)", what, i)
		}
	}, "May", i, what)
}

// mixed answers a system of a plan in which threads wait in lists, sleep, and are ready.
func mixed(t *testing.T, name string, p plan.Plan) *system {
	t.Helper()
	s := begin(name, p)
	for i := range p.Threads {
		switch {
		case i%3 == 2:
			s.Sleep(t, i, i)
		case i != 1 && len(p.Objects) > 0:
			s.Wait(t, i, len(p.Objects)-1, i%2, 4-i)
		}
	}
	return s
}

// P16.1, P16.2: of threads below 0, as many as there are, and beyond, nothing is done.
func TestNoSuchThread(t *testing.T) {
	for name, p := range plans(t) {
		s := mixed(t, name, p)
		n := len(p.Threads)
		for _, i := range append([]int{-1, -n, n, n + 1, 2 * n, api.MaxThreads, api.MaxThreads + 1, p.Threads[0], p.Words}, far...) {
			if !s.has(i) {
				noThread(t, s.m, p, i, name)
			}
		}
	}
}

// noList fails the test, unless the calls do nothing of that side of the object, and answer 0, false.
func noList(t *testing.T, m *word.Mem, p plan.Plan, o, side int, what ...any) {
	t.Helper()
	if at := wait.Side(p, o, side); at != -1 {
		t.Errorf("%v: Side(%d, %d): %d", what, o, side, at)
	}
	for i := range p.Threads {
		for _, ticks := range []int{-1, 0, 1, math.MaxInt} {
			unchanged(t, m, func(f *frame.Frame) { wait.Wait(f, p, i, o, side, ticks) }, "Wait", i, o, side, ticks, what)
		}
		unchanged(t, m, func(f *frame.Frame) {
			if j, ok := wait.Next(f, p, o, side, i); j != 0 || ok {
				t.Errorf("%v: Next(%d, %d, %d): %d, %t", what, o, side, i, j, ok)
			}
		}, "Next", o, side, i, what)
	}
	unchanged(t, m, func(f *frame.Frame) {
		if j, ok := wait.First(f, p, o, side); j != 0 || ok {
			t.Errorf("%v: First(%d, %d): %d, %t", what, o, side, j, ok)
		}
	}, "First", o, side, what)
}

// P16.1: of objects below 0, as many as there are, and beyond, and of sides below 0, of 2, and beyond,
// nothing is done.
func TestNoSuchObjectOrSide(t *testing.T) {
	for name, p := range plans(t) {
		s := mixed(t, name, p)
		n := len(p.Objects)
		for _, o := range append([]int{-1, -n - 1, n, n + 1, 2*n + 1, api.MaxObjects, api.MaxObjects + 1}, far...) {
			for side := range 2 {
				noList(t, s.m, p, o, side, name)
			}
		}
		for _, side := range append([]int{-1, 2, 3, 4, 20}, far...) {
			for o := -1; o <= n; o++ {
				noList(t, s.m, p, o, side, name)
			}
		}
	}
}

// P16.1: a Wait and a Sleep of one that waits, sleeps, is suspended or gone, and a Wake of one that is
// ready, suspended or gone, change nothing; nor do they of one whose STATE is no state.
func TestThoseThatDoNotFit(t *testing.T) {
	p := of(t, api.Part{Threads: threads(5, 5, 5, 5, 5, 5), Objects: both()})
	s := begin("those that don't fit", p)
	s.Wait(t, 0, 0, 0, 3)
	s.Wait(t, 1, 1, 1, 0)
	s.Sleep(t, 2, 5)
	s.Unready(t, 3, thread.Suspended)
	s.Unready(t, 4, thread.Gone)
	for range 2 {
		for i := range 5 {
			for o := range 2 {
				for side := range 2 {
					unchanged(t, s.m, func(f *frame.Frame) { wait.Wait(f, p, i, o, side, 2) }, "Wait", i, o, side)
				}
			}
			unchanged(t, s.m, func(f *frame.Frame) { wait.Sleep(f, p, i, 2) }, "Sleep", i)
		}
		for i := 3; i < 6; i++ {
			unchanged(t, s.m, func(f *frame.Frame) { wait.Wake(f, p, i, api.ErrGone, 2, []int64{1}) }, "Wake", i)
		}
		for k, state := range []int64{-1, 4, 1 << 32, 1<<32 + 1, math.MaxInt64} {
			set(t, s.m, p, 3, thread.State, state)
			unchanged(t, s.m, func(f *frame.Frame) { wait.Wait(f, p, 3, 0, 0, 1) }, "Wait", k)
			unchanged(t, s.m, func(f *frame.Frame) { wait.Sleep(f, p, 3, 1) }, "Sleep", k)
			unchanged(t, s.m, func(f *frame.Frame) { wait.Wake(f, p, 3, 0, 0, nil) }, "Wake", k)
		}
		set(t, s.m, p, 3, thread.State, thread.Suspended)
	}
	s.look(t)
}

// R1: of one whose PRIO is no priority, which layer 14 leaves in its queue, a Wait and a Sleep do nothing.
func TestWaitWithoutAPriority(t *testing.T) {
	p := of(t, api.Part{Threads: threads(5, 5), Objects: both()})
	for _, prio := range []int64{-1, 16, 1 << 32, math.MinInt64} {
		m := plan.Boot(p)
		set(t, m, p, 1, thread.Prio, prio)
		for _, ticks := range []int{0, 4} {
			unchanged(t, m, func(f *frame.Frame) { wait.Wait(f, p, 1, 1, 0, ticks) }, "Wait, PRIO", prio)
			unchanged(t, m, func(f *frame.Frame) { wait.Sleep(f, p, 1, ticks) }, "Sleep, PRIO", prio)
		}
	}
}

// R1: OBJECT and SIDE that tell of no list: Next answers 0, false, and Order does nothing.
func TestSpotsThatAreNone(t *testing.T) {
	p := of(t, api.Part{Threads: threads(5, 5), Objects: both()})
	for _, v := range []int64{-1, 3, 4, 9, 1<<32 + 1, math.MaxInt64, math.MinInt64} {
		for _, field := range []int{thread.Object, thread.Side} {
			s := begin("a spot that is none", p)
			s.Wait(t, 0, 1, 1, 0)
			s.Wait(t, 1, 1, 1, 0)
			set(t, s.m, p, 0, field, v)
			set(t, s.m, p, 0, thread.Prio, 1)
			unchanged(t, s.m, func(f *frame.Frame) { wait.Order(f, p, 0) }, "Order, field", field, v)
			for o := -2; o <= 4; o++ {
				for side := -1; side <= 4; side++ {
					if i := next(t, s.m, p, o, side, 0); i != none {
						t.Errorf("the field %d is %d: Next(%d, %d, 0): %d", field, v, o, side, i)
					}
				}
			}
		}
	}
}

// outside answers addresses with which a thing of so many words doesn't lie within the plan's words.
func outside(p plan.Plan, words int) []int {
	l := append([]int{-1, -words, -words - 1, p.Words - words + 1, p.Words - 1, p.Words, p.Words + 1, 3999, 4000, math.MaxInt - words, math.MaxInt - words + 1}, far...)
	return slices.DeleteFunc(l, func(a int) bool { return a >= 0 && a <= p.Words-words })
}

// R1: a plan in which a thread stands below 0, or beyond the plan's words: it is none.
func TestThreadsWithoutWords(t *testing.T) {
	full := of(t, api.Part{Threads: threads(1, 5, 5), Objects: both()})
	for _, at := range outside(full, plan.ThreadWords) {
		for i := range full.Threads {
			p := full
			p.Threads = slices.Clone(full.Threads)
			p.Threads[i] = at
			noThread(t, mixed(t, "", full).m, p, i, "a thread at", at)
			noThread(t, plan.Boot(full), p, i, "a thread at", at)
		}
	}
}

// R1: a plan in which an object stands below 0, or beyond the plan's words: it is none, and has no lists.
func TestObjectsWithoutWords(t *testing.T) {
	full := of(t, api.Part{Threads: threads(1, 5, 5), Objects: both()})
	for _, at := range outside(full, plan.ObjectWords) {
		for o := range full.Objects {
			p := full
			p.Objects = slices.Clone(full.Objects)
			p.Objects[o] = at
			for side := range 2 {
				noList(t, plan.Boot(full), p, o, side, "an object at", at)
			}
			unchanged(t, mixed(t, "", full).m, func(f *frame.Frame) { wait.Order(f, p, 2*o) }, "Order, an object at", at)
		}
	}
}

// R1: a plan with fewer words: what doesn't lie within them in whole is none; what does is there.
func TestThingsAtTheEnd(t *testing.T) {
	for _, full := range []plan.Plan{of(t, api.Part{Threads: threads(5, 5, 5), Objects: both()}), turned(t)} {
		m := mixed(t, "", full).m
		for words := range full.Words + 1 {
			p := full
			p.Words = words
			for i, at := range p.Threads {
				if got, want := may(t, m, p, i), at+plan.ThreadWords <= words; got != want {
					t.Errorf("%d words: May(%d): %t", words, i, got)
				}
				if at+plan.ThreadWords > words {
					noThread(t, m, p, i, words, "words")
				}
			}
			for o, at := range p.Objects {
				if got, want := wait.Side(p, o, 0) == at, at+plan.ObjectWords <= words; got != want {
					t.Errorf("%d words: Side(%d, 0): %d", words, o, wait.Side(p, o, 0))
				}
			}
		}
	}
}

// R1: a plan of no words, and of fewer than none: nothing is there.
func TestFewerWordsThanNone(t *testing.T) {
	full := of(t, api.Part{Threads: threads(5, 5, 5), Objects: both()})
	m := mixed(t, "", full).m
	for _, words := range []int{0, -1, -24, -100, math.MinInt, math.MinInt + 1, math.MinInt + 23, math.MinInt + 24, math.MinInt + 100} {
		p := full
		p.Words = words
		for i := range p.Threads {
			noThread(t, m, p, i, words, "words")
		}
		for o := range p.Objects {
			noList(t, m, p, o, 1, words, "words")
		}
		unchanged(t, m, func(f *frame.Frame) { wait.Tick(f, p) }, "Tick", words, "words")
	}
}

// R1: OBJECT and SIDE of one that doesn't wait tell nothing: Next answers 0, false, and Order does nothing.
func TestSpotsOfThoseThatDoNotWait(t *testing.T) {
	p := of(t, api.Part{Threads: threads(5, 5, 5), Objects: both()})
	for _, state := range []int{thread.Ready, thread.Suspended, thread.Gone} {
		s := begin("one that doesn't wait", p)
		if state != thread.Ready {
			s.Unready(t, 0, state)
		}
		set(t, s.m, p, 0, thread.Object, 2)
		set(t, s.m, p, 0, thread.Side, 1)
		unchanged(t, s.m, func(f *frame.Frame) { wait.Order(f, p, 0) }, "Order, state", state)
		if i := next(t, s.m, p, 1, 1, 0); i != none {
			t.Errorf("the state is %d: Next: %d", state, i)
		}
	}
}

// low answers a system whose lowest words hold what they never do: what is loaded where there are no words
// is 0, which leads there, to a timer's node that is due, or not.
func low(name string, p plan.Plan, delta int64) *system {
	s := begin(name, p)
	for a, v := range []int64{5, 6, delta} {
		s.boot[a] = v
		s.m.Store(a, v)
	}
	return s
}

// R1: a plan whose timers stand below 0, or beyond its words: a Tick and an Expire do nothing, and so do a
// Wait and a Sleep that ask for a timer; those that don't go on.
func TestTimersWithoutWords(t *testing.T) {
	full := of(t, api.Part{Threads: threads(1, 5, 5), Objects: both()})
	for _, at := range outside(full, list.Words) {
		for _, delta := range []int64{0, 9} {
			s := low(fmt.Sprint("timers at ", at), full, delta)
			s.Sleep(t, 2, 1)
			p := full
			p.Timers = at
			unchanged(t, s.m, func(f *frame.Frame) { wait.Wait(f, p, 1, 0, 0, 1) }, "Wait", s.name)
			unchanged(t, s.m, func(f *frame.Frame) { wait.Sleep(f, p, 1, 3) }, "Sleep", s.name)
			unchanged(t, s.m, func(f *frame.Frame) { wait.Tick(f, p) }, "Tick", s.name)
			s.Tick(t)
			unchanged(t, s.m, func(f *frame.Frame) {
				if i, ok := wait.Expire(f, p); i != 0 || ok {
					t.Errorf("%s: Expire: %d, %t", s.name, i, ok)
				}
			}, "Expire", s.name)
			withoutTicks(t, s, p)
		}
	}
}

// withoutTicks fails the test, unless a Wait and a Sleep without ticks do by the plan p what they do by the
// system's own.
func withoutTicks(t *testing.T, s *system, p plan.Plan) {
	t.Helper()
	c := copyOf(s)
	s.Wait(t, 1, 0, 0, 0)
	s.Sleep(t, 0, -1)
	play(t, c.m, func(f *frame.Frame) { wait.Wait(f, p, 1, 0, 0, 0) })
	play(t, c.m, func(f *frame.Frame) { wait.Sleep(f, p, 0, -1) })
	if changed := changes(s.m.Words(), c.m.Words()); len(changed) > 0 {
		t.Errorf("%s: without ticks: the words %v are not as they should be", s.name, changed)
	}
}

// R1: a timer that is due, and is no thread's: Expire answers 0, false, and wakes nobody.
func TestTimersOfNobody(t *testing.T) {
	full := of(t, api.Part{Threads: threads(1, 5, 5), Objects: both()})
	nobody, cut := full, full
	nobody.Threads = full.Threads[:2]
	cut.Words = full.Threads[2] + plan.ThreadWords - 1
	for name, p := range map[string]plan.Plan{"cut off": nobody, "beyond the words": cut} {
		s := begin(name, full)
		s.Sleep(t, 2, 1)
		s.Tick(t)
		fields := s.m.Words()[full.Threads[2]+list.Words+delta.Words:]
		play(t, s.m, func(f *frame.Frame) {
			if i, ok := wait.Expire(f, p); i != 0 || ok {
				t.Errorf("%s: Expire: %d, %t", name, i, ok)
			}
		})
		if !slices.Equal(fields, s.m.Words()[full.Threads[2]+list.Words+delta.Words:]) {
			t.Errorf("%s: the thread's fields are changed", name)
		}
	}
}

// R1: plans whose Part tells of fewer objects, or of more, than there are addresses: a list of one that it
// doesn't tell of isn't ordered.
func TestPartsOfOtherLengths(t *testing.T) {
	full := of(t, api.Part{Threads: threads(1, 5, 9), Objects: both()})
	for n := range 4 {
		p := full
		p.Part.Objects = append(slices.Clone(full.Part.Objects), api.Object{Kind: 2, Priority: true})[:n]
		for _, part := range []api.Part{{}, {Objects: p.Part.Objects}} {
			p.Part = part
			m := plan.Boot(full)
			play(t, m, func(f *frame.Frame) {
				for i := range 3 {
					wait.Wait(f, p, i, 1, 0, 0)
				}
				wait.Order(f, p, 0)
			})
			want := []int{0, 1, 2}
			if len(part.Objects) > 1 {
				want = []int{2, 1, 0}
			}
			if got := waiting(t, m, p, 1, 0); !slices.Equal(got, want) {
				t.Errorf("%d objects: %v wait, want %v", len(part.Objects), got, want)
			}
		}
	}
}

// R1: plans without threads, and without objects: nothing is done.
func TestPlansWithoutLists(t *testing.T) {
	full := of(t, api.Part{Threads: threads(1, 5, 5), Objects: both()})
	for _, l := range [][]int{nil, {}} {
		p := full
		p.Threads = l
		for i := -1; i < 4; i++ {
			noThread(t, mixed(t, "", full).m, p, i, "no threads")
		}
		p = full
		p.Objects = l
		for o := -1; o < 3; o++ {
			noList(t, mixed(t, "", full).m, p, o, 0, "no objects")
		}
	}
	for _, m := range []*word.Mem{nil, word.New(0), word.New(1), plan.Boot(full), mixed(t, "", full).m} {
		for n := -1; n < 4; n++ {
			noThread(t, m, plan.Plan{}, n, "the zero plan")
			noList(t, m, plan.Plan{}, n, n, "the zero plan")
		}
		unchanged(t, m, func(f *frame.Frame) { wait.Tick(f, plan.Plan{}) }, "Tick, the zero plan")
		unchanged(t, m, func(f *frame.Frame) {
			if i, ok := wait.Expire(f, plan.Plan{}); i != 0 || ok {
				t.Errorf("the zero plan: Expire: %d, %t", i, ok)
			}
		}, "Expire, the zero plan")
	}
}

// R1: a list whose nodes are no thread's: First and Next answer 0, false, and a Wait passes over them.
func TestNodesOfNobody(t *testing.T) {
	full := of(t, api.Part{Threads: threads(9, 1, 5), Objects: both()})
	s := begin("nodes of nobody", full)
	s.Wait(t, 0, 1, 0, 0)
	s.Wait(t, 1, 1, 0, 0)
	p := full
	p.Threads = slices.Clone(full.Threads)
	p.Threads[0] = -1
	if i := first(t, s.m, p, 1, 0); i != none {
		t.Errorf("the first one is %d", i)
	}
	play(t, s.m, func(f *frame.Frame) { wait.Wait(f, p, 2, 1, 0, 0) })
	if got := waiting(t, s.m, full, 1, 0); !slices.Equal(got, []int{0, 2, 1}) {
		t.Errorf("%v wait", got)
	}
	p.Threads[0], p.Threads[1] = full.Threads[0], -1
	if i := next(t, s.m, p, 1, 0, 2); i != none {
		t.Errorf("the one behind 2 is %d", i)
	}
}

// R1: memories in which lists lead nowhere, or without end: each call ends within the accesses that it may
// do.
func TestListsThatCallsDoNotLeave(t *testing.T) {
	p := of(t, api.Part{Threads: threads(1, 5, 5), Objects: both()})
	values := []int64{-1, 0, 1, int64(p.Timers), int64(p.Objects[1]), int64(p.Threads[0]), int64(p.Threads[1]), int64(thread.Timer(p, 1)), int64(p.Words), math.MaxInt64, math.MinInt64}
	at := []int{p.Timers, p.Timers + 1, p.Objects[1], p.Objects[1] + 1, p.Threads[0], p.Threads[1], p.Threads[1] + 1, thread.Timer(p, 1), thread.Timer(p, 1) + 2, thread.Timer(p, 0)}
	for _, a := range at {
		for _, v := range values {
			for _, b := range at {
				for k := range 2 {
					s := begin("", p)
					if k == 1 {
						s.Wait(t, 0, 1, 0, 2)
						s.Wait(t, 1, 1, 0, 1)
					}
					s.m.Store(a, v)
					s.m.Store(b, int64(p.Threads[2]))
					callAll(s.m, p, 1, 1, 0, 3)
				}
			}
		}
	}
}

// callAll makes each of the layer's calls of the thread and the list, with frames of the memory and with
// none.
func callAll(m *word.Mem, p plan.Plan, i, o, side, ticks int) {
	for _, body := range []frame.Body{
		func(f *frame.Frame) { wait.Side(p, o, side) },
		func(f *frame.Frame) { wait.May(f, p, i) },
		func(f *frame.Frame) { wait.Wait(f, p, i, o, side, ticks) },
		func(f *frame.Frame) { wait.First(f, p, o, side) },
		func(f *frame.Frame) { wait.Next(f, p, o, side, i) },
		func(f *frame.Frame) { wait.Order(f, p, i) },
		func(f *frame.Frame) { wait.Tick(f, p) },
		func(f *frame.Frame) { wait.Expire(f, p) },
		func(f *frame.Frame) { wait.Wake(f, p, i, api.Errno(o), ticks, []int64{int64(i), 2, 3, 4, 5}) },
		func(f *frame.Frame) { wait.Sleep(f, p, i, ticks) },
		func(f *frame.Frame) { wait.Wake(f, p, i, api.Errno(ticks), i, nil) },
		func(f *frame.Frame) { wait.Expire(f, p) },
	} {
		if !frame.Run(m, body, most) {
			panic("a call does more accesses than it may")
		}
		body(nil)
	}
}

// shuffled answers a memory in which each word tells the place of another one.
func shuffled(p plan.Plan) *word.Mem {
	m := word.New(p.Words)
	for a := range p.Words {
		m.Store(a, int64(a*37%p.Words))
	}
	return m
}

// R1: each call ends within the accesses that it may do, and none panics, whatever the plan is, and
// whatever the memory holds.
func TestCallsEnd(t *testing.T) {
	numbers := append([]int{-1, 0, 1, 2, 5, 6, 15, 16, 17, 3999, 4000}, far...)
	full := of(t, api.Part{Threads: threads(1, 5, 5), Objects: both()})
	strange := map[string]plan.Plan{"the zero plan": {},
		"many of all": {Threads: make([]int, 1<<12), Objects: make([]int, 1<<12), Words: 4000, Part: api.Part{Objects: make([]api.Object, 1<<12)}}}
	for _, n := range numbers {
		strange[fmt.Sprint("all at ", n)] = plan.Plan{Ready: n, Timers: n, Threads: []int{n, 5, n}, Objects: []int{n, 7, n}, Words: n, Part: full.Part}
		strange[fmt.Sprint("things at ", n)] = plan.Plan{Threads: []int{n, 5, n}, Objects: []int{n, 7, n}, Words: 100, Part: full.Part}
		p := full
		p.Ready = n
		strange[fmt.Sprint("the queue at ", n)] = p
		p = full
		p.Timers = n
		strange[fmt.Sprint("the timers at ", n)] = p
		p = full
		p.Words = n
		strange[fmt.Sprint(n, " words")] = p
		p = full
		p.Objects = []int{full.Threads[1], n}
		strange[fmt.Sprint("objects at ", n)] = p
	}
	for name, p := range strange {
		ends(t, name, func() {
			for k, n := range numbers {
				for _, m := range []*word.Mem{nil, word.New(100), plan.Boot(full), shuffled(full)} {
					callAll(m, p, n, numbers[(k+1)%len(numbers)], k%3, n)
					callAll(m, p, k%3, k%2, n, numbers[(k+3)%len(numbers)])
					callAll(m, p, k%3, n, k%2, k)
					callAll(m, p, k%3, k%2, k%2, n)
				}
			}
		})
	}
}

// ends fails the test, unless the calls end, and none of them panics.
func ends(t *testing.T, name string, calls func()) {
	t.Helper()
	done := make(chan any, 1)
	go func() {
		defer func() { done <- recover() }()
		calls()
	}()
	select {
	case what := <-done:
		if what != nil {
			t.Errorf("%s: a panic: %v", name, what)
		}
	case <-time.After(time.Minute):
		t.Fatalf("%s: it doesn't end", name)
	}
}
