package dispatch_test

import (
	"fmt"
	"slices"
	"testing"

	"septum/api"
	"septum/dispatch"
	"septum/frame"
	"septum/plan"
	"septum/ready"
	"septum/thread"
	"septum/word"
)

// most is how many accesses a call of this layer may do.
const most = 300

// threads makes threads of the given priorities.
func threads(priorities ...int) []api.Thread {
	var l []api.Thread
	for _, p := range priorities {
		l = append(l, api.Thread{Priority: p})
	}
	return l
}

// objects makes an object of each kind.
func objects() []api.Object {
	l := make([]api.Object, 8)
	for kind, size := range []int{9, 0, 3, 0, 16, 2, 4, 5} {
		l[kind] = api.Object{Kind: kind, Size: size}
	}
	return l
}

// of answers the plan of a partition with which nothing is wrong.
func of(t *testing.T, part api.Part) plan.Plan {
	t.Helper()
	p, e := plan.Of(part)
	if e != api.OK {
		t.Fatalf("%+v: error %d, want none", part, int(e))
	}
	return p
}

// plans answers plans of one thread and of more, with priorities that are alike and that are not.
func plans(t *testing.T) map[string]plan.Plan {
	t.Helper()
	return map[string]plan.Plan{
		"one thread of 0":       of(t, api.Part{Threads: threads(0)}),
		"one thread of 15":      of(t, api.Part{Threads: threads(15), Objects: objects()}),
		"two threads":           of(t, api.Part{Threads: threads(0, 15)}),
		"two threads alike":     of(t, api.Part{Threads: threads(4, 4)}),
		"the example's":         of(t, api.Part{Threads: threads(1, 5, 5)}),
		"three, and no two":     of(t, api.Part{Threads: threads(1, 5, 7)}),
		"three alike, and one":  of(t, api.Part{Threads: threads(7, 7, 3, 7), Objects: objects()[3:6]}),
		"six threads":           of(t, api.Part{Threads: threads(9, 2, 15, 2, 0, 7)}),
		"six threads alike":     of(t, api.Part{Threads: threads(8, 8, 8, 8, 8, 8), Objects: objects()}),
		"six threads at 0":      of(t, api.Part{Threads: threads(0, 0, 0, 0, 0, 0)}),
		"six threads at 15":     of(t, api.Part{Threads: threads(15, 15, 15, 15, 15, 15)}),
		"three and three alike": of(t, api.Part{Threads: threads(0, 15, 0, 15, 0, 15)}),
	}
}

// play plays a body till it is done, which is to be within the accesses of one call, and answers how
// many it did.
func play(t *testing.T, m *word.Mem, body frame.Body) int {
	t.Helper()
	f := frame.New(m)
	for now := range most {
		if f.Step(now, body) {
			return f.Steps()
		}
	}
	t.Fatalf("a call isn't done with %d accesses", most)
	return 0
}

// none stands for the thread of a core that runs none.
const none = -1

// told answers the thread of an answer, or none; beside false it is to be 0.
func told(t *testing.T, i int, ok bool) int {
	t.Helper()
	if ok {
		return i
	}
	if i != 0 {
		t.Errorf("%d, false; want 0, false", i)
	}
	return none
}

// current answers what Current says of the core.
func current(t *testing.T, m *word.Mem, p plan.Plan, core int) int {
	t.Helper()
	var i int
	var ok bool
	play(t, m, func(f *frame.Frame) { i, ok = dispatch.Current(f, p, core) })
	return told(t, i, ok)
}

// turn dispatches on the core, and answers what Dispatch says.
func turn(t *testing.T, m *word.Mem, p plan.Plan, core int) int {
	t.Helper()
	var i int
	var ok bool
	play(t, m, func(f *frame.Frame) { i, ok = dispatch.Dispatch(f, p, core) })
	return told(t, i, ok)
}

// called answers what Called says of the core.
func called(t *testing.T, m *word.Mem, p plan.Plan, core int) bool {
	t.Helper()
	var ok bool
	play(t, m, func(f *frame.Frame) { ok = dispatch.Called(f, p, core) })
	return ok
}

// hold makes v the thread's HELD.
func hold(t *testing.T, m *word.Mem, p plan.Plan, i int, v int64) {
	t.Helper()
	play(t, m, func(f *frame.Frame) { thread.Set(f, p, i, thread.Held, v) })
}

// changes answers the addresses of the words in which two memories differ.
func changes(before, after []int64) []int {
	var l []int
	for a := range before {
		if before[a] != after[a] {
			l = append(l, a)
		}
	}
	return l
}

// system is a partition's memory, and beside it, as plain lists, who is ready, who holds, who runs, and
// who is called.
type system struct {
	name   string
	p      plan.Plan
	m      *word.Mem
	prio   []int
	ready  []bool
	held   []int64
	lists  [api.Levels][]int // the threads that are ready, of each priority
	runs   [2]int
	called [2]bool
}

// begin answers a system as Boot leaves it.
func begin(name string, p plan.Plan) *system {
	s := &system{name: name, p: p, m: plan.Boot(p), runs: [2]int{none, none}}
	for i, th := range p.Part.Threads {
		s.prio, s.ready, s.held = append(s.prio, th.Priority), append(s.ready, true), append(s.held, 0)
		s.add(i, false)
	}
	copy(s.runs[:], s.order())
	return s
}

// drop takes the thread out of the list of its priority.
func (s *system) drop(i int) {
	l := s.lists[s.prio[i]]
	at := slices.Index(l, i)
	s.lists[s.prio[i]] = slices.Concat(l[:at], l[at+1:])
}

// add puts the thread into the list of its priority.
func (s *system) add(i int, first bool) {
	l := slices.Clone(s.lists[s.prio[i]])
	if first {
		l = slices.Insert(l, 0, i)
	} else {
		l = append(l, i)
	}
	s.lists[s.prio[i]] = l
}

// order answers the threads of the plain lists, in the queue's order.
func (s *system) order() []int {
	var l []int
	for priority := range s.lists {
		l = slices.Concat(s.lists[priority], l)
	}
	return l
}

// Ready calls Ready of layer 14, and does on the plain lists what it does.
func (s *system) Ready(t *testing.T, i int) {
	t.Helper()
	play(t, s.m, func(f *frame.Frame) { ready.Ready(f, s.p, i) })
	if !s.ready[i] {
		s.ready[i] = true
		s.add(i, false)
	}
	s.check(t, "Ready", i)
}

// Unready calls Unready of layer 14, and does on the plain lists what it does.
func (s *system) Unready(t *testing.T, i, state int) {
	t.Helper()
	play(t, s.m, func(f *frame.Frame) { ready.Unready(f, s.p, i, state) })
	if s.ready[i] {
		s.drop(i)
		s.ready[i] = false
	}
	s.check(t, "Unready", i, state)
}

// Change calls Change of layer 14, and does on the plain lists what it does.
func (s *system) Change(t *testing.T, i, prio int, first bool) {
	t.Helper()
	play(t, s.m, func(f *frame.Frame) { ready.Change(f, s.p, i, prio, first) })
	if s.ready[i] {
		s.drop(i)
	}
	s.prio[i] = prio
	if s.ready[i] {
		s.add(i, first)
	}
	s.check(t, "Change", i, prio, first)
}

// Yield calls Yield of layer 14, and does on the plain lists what it does.
func (s *system) Yield(t *testing.T, i int) {
	t.Helper()
	play(t, s.m, func(f *frame.Frame) { ready.Yield(f, s.p, i) })
	if s.ready[i] {
		s.drop(i)
		s.add(i, false)
	}
	s.check(t, "Yield", i)
}

// Hold makes v the thread's HELD.
func (s *system) Hold(t *testing.T, i int, v int64) {
	t.Helper()
	hold(t, s.m, s.p, i, v)
	s.held[i] = v
	s.check(t, "HELD of", i, v)
}

// Clear calls Clear, and does on the plain lists what it should do.
func (s *system) Clear(t *testing.T, core int) {
	t.Helper()
	words := s.m.Words()
	play(t, s.m, func(f *frame.Frame) { dispatch.Clear(f, s.p, core) })
	s.called[core] = false
	s.same(t, words, "Clear", core)
}

// fixed tells whether who runs on the core is fixed there.
func (s *system) fixed(core int) bool {
	i := s.runs[core]
	return i != none && s.ready[i] && s.held[i] > 0
}

// best answers who should run beside those that are fixed.
func (s *system) best() []int {
	l := s.order()
	n := 2
	for core, i := range s.runs {
		if s.fixed(core) {
			l = slices.DeleteFunc(l, func(j int) bool { return j == i })
			n--
		}
	}
	return l[:min(n, len(l))]
}

// next answers who is to run on the core.
func (s *system) next(core int) int {
	if s.fixed(core) {
		return s.runs[core]
	}
	l := s.best()
	if slices.Contains(l, s.runs[core]) {
		return s.runs[core]
	}
	l = slices.DeleteFunc(l, func(i int) bool { return i == s.runs[1-core] })
	if len(l) == 0 {
		return none
	}
	return l[0]
}

// wants tells whether the core should run somebody else, as things stand.
func (s *system) wants(core int) bool {
	if s.fixed(core) {
		return false
	}
	l := s.best()
	if s.runs[core] != none && !slices.Contains(l, s.runs[core]) {
		return true
	}
	for _, i := range l {
		if !slices.Contains(s.runs[:], i) {
			return true
		}
	}
	return false
}

// Dispatch calls Dispatch, and does on the plain lists what it should do.
func (s *system) Dispatch(t *testing.T, core int) {
	t.Helper()
	words := s.m.Words()
	got := turn(t, s.m, s.p, core)
	s.runs[core] = s.next(core)
	s.called[1-core] = s.called[1-core] || s.wants(1-core)
	if got != s.runs[core] {
		t.Fatalf("%s: Dispatch(%d) answers %d, want %d", s.name, core, got, s.runs[core])
	}
	s.same(t, words, "Dispatch", core)
}

// same fails the test, unless all words are what they were, but CURRENT and IPI of both cores, and
// these are as the plain lists tell.
func (s *system) same(t *testing.T, words []int64, what ...any) {
	t.Helper()
	for core := range 2 {
		words[s.p.Current[core]] = int64(s.runs[core] + 1)
		words[s.p.IPI[core]] = 0
		if s.called[core] {
			words[s.p.IPI[core]] = 1
		}
	}
	if changed := changes(words, s.m.Words()); len(changed) > 0 {
		t.Fatalf("%s: %v: the words %v are not as they should be", s.name, what, changed)
	}
	s.check(t, what...)
}

// check fails the test, unless Current and Called answer of both cores what the plain lists tell, and
// change nothing.
func (s *system) check(t *testing.T, what ...any) {
	t.Helper()
	words := s.m.Words()
	for core := range 2 {
		if got := current(t, s.m, s.p, core); got != s.runs[core] {
			t.Fatalf("%s: %v: %d runs on core %d, want %d", s.name, what, got, core, s.runs[core])
		}
		if got := called(t, s.m, s.p, core); got != s.called[core] {
			t.Fatalf("%s: %v: core %d: called is %t, want %t", s.name, what, core, got, s.called[core])
		}
	}
	if changed := changes(words, s.m.Words()); len(changed) > 0 {
		t.Fatalf("%s: %v: Current and Called changed the words %v", s.name, what, changed)
	}
}

// copyOf answers a system that goes on by itself.
func copyOf(s *system) *system {
	c := *s
	c.m = word.New(s.p.Words)
	for a, v := range s.m.Words() {
		c.m.Store(a, v)
	}
	c.prio, c.ready, c.held = slices.Clone(s.prio), slices.Clone(s.ready), slices.Clone(s.held)
	return &c
}

// The chapter's example, of each plan: of Boot's memory Dispatch of either core changes nothing.
func TestBoot(t *testing.T) {
	for name, p := range plans(t) {
		m := plan.Boot(p)
		words := m.Words()
		runs := append(begin(name, p).order(), none)[:2]
		for range 2 {
			for core := range 2 {
				if i := current(t, m, p, core); i != runs[core] {
					t.Errorf("%s: %d runs on core %d, want %d", name, i, core, runs[core])
				}
				if called(t, m, p, core) {
					t.Errorf("%s: core %d is called", name, core)
				}
			}
			for _, core := range []int{0, 1, 1, 0, 0} {
				if i := turn(t, m, p, core); i != runs[core] {
					t.Errorf("%s: Dispatch(%d): %d, want %d", name, core, i, runs[core])
				}
			}
		}
		if changed := changes(words, m.Words()); len(changed) > 0 {
			t.Errorf("%s: the words %v are changed", name, changed)
		}
	}
}

// P15.1: Current and Called spelled out in whole: by the words of CURRENT and IPI.
func TestCurrentAndCalledInWhole(t *testing.T) {
	p := of(t, api.Part{Threads: threads(1, 5, 5)})
	for _, c := range []struct {
		current, ipi [2]int64
		runs         [2]int
		called       [2]bool
	}{
		{[2]int64{0, 0}, [2]int64{0, 0}, [2]int{none, none}, [2]bool{}},
		{[2]int64{1, 0}, [2]int64{1, 0}, [2]int{0, none}, [2]bool{true, false}},
		{[2]int64{0, 1}, [2]int64{0, 1}, [2]int{none, 0}, [2]bool{false, true}},
		{[2]int64{3, 1}, [2]int64{1, 1}, [2]int{2, 0}, [2]bool{true, true}},
		{[2]int64{2, 3}, [2]int64{0, 1}, [2]int{1, 2}, [2]bool{false, true}},
		{[2]int64{2, 2}, [2]int64{1, 0}, [2]int{1, 1}, [2]bool{true, false}},
		{[2]int64{4, 5}, [2]int64{2, 3}, [2]int{none, none}, [2]bool{}},
	} {
		m := plan.Boot(p)
		for core := range 2 {
			m.Store(p.Current[core], c.current[core])
			m.Store(p.IPI[core], c.ipi[core])
		}
		for core := range 2 {
			if i := current(t, m, p, core); i != c.runs[core] {
				t.Errorf("CURRENT %v: %d runs on core %d, want %d", c.current, i, core, c.runs[core])
			}
			if ok := called(t, m, p, core); ok != c.called[core] {
				t.Errorf("IPI %v: core %d: called is %t, want %t", c.ipi, core, ok, c.called[core])
			}
		}
	}
}

// P15.1: Clear of a core makes its IPI 0, whatever it was, and changes no other word.
func TestClear(t *testing.T) {
	for name, p := range plans(t) {
		for core := range 2 {
			for _, v := range []int64{0, 1, 2, -1, 1 << 40} {
				m := plan.Boot(p)
				m.Store(p.IPI[1-core], 1)
				m.Store(p.IPI[core], v)
				want := m.Words()
				want[p.IPI[core]] = 0
				play(t, m, func(f *frame.Frame) { dispatch.Clear(f, p, core) })
				if changed := changes(want, m.Words()); len(changed) > 0 || called(t, m, p, core) || !called(t, m, p, 1-core) {
					t.Errorf("%s: Clear(%d) of %d: the words %v are not as they should be", name, core, v, changed)
				}
			}
		}
	}
}

// moves answers what layer 14 can do of the thread i, that is ready at first.
func moves(i, prio int) map[string]func(t *testing.T, s *system) {
	l := map[string]func(t *testing.T, s *system){
		"Yield": func(t *testing.T, s *system) { s.Yield(t, i) },
		"Ready": func(t *testing.T, s *system) {
			s.Unready(t, i, thread.Waiting)
			s.Ready(t, i)
		},
	}
	for state := thread.Waiting; state <= thread.Gone; state++ {
		l[fmt.Sprint("Unready to ", state)] = func(t *testing.T, s *system) { s.Unready(t, i, state) }
	}
	for _, to := range []int{0, prio - 1, prio, prio + 1, 15} {
		if to < 0 || to > 15 {
			continue
		}
		l[fmt.Sprint("Change to ", to, ", as the first one")] = func(t *testing.T, s *system) { s.Change(t, i, to, true) }
		l[fmt.Sprint("Change to ", to)] = func(t *testing.T, s *system) { s.Change(t, i, to, false) }
	}
	return l
}

// P15.1: behind each call of layer 14, of each thread, a Dispatch of either core, and then of the other
// one; and the same once more, while nobody is ready but one, and with each thread that holds.
func TestDispatchBehindEachCall(t *testing.T) {
	for name, p := range plans(t) {
		for i := range p.Threads {
			for what, move := range moves(i, p.Part.Threads[i].Priority) {
				for core := range 2 {
					for holds := none; holds < len(p.Threads); holds++ {
						s := begin(fmt.Sprint(name, ": ", what, " of ", i, ", ", holds, " holds"), p)
						if holds != none {
							s.Hold(t, holds, 1)
						}
						move(t, s)
						s.Dispatch(t, core)
						s.Dispatch(t, 1-core)
						s.Clear(t, 1-core)
						s.Dispatch(t, core)
					}
				}
			}
		}
	}
}

// P15.1: one thread after the other isn't ready any more, till nobody is, and is again, with Dispatches
// of either core, of both, or of none between.
func TestNobodyIsReady(t *testing.T) {
	for name, p := range plans(t) {
		for _, turns := range [][]int{{0}, {1}, {0, 1}, {1, 0}, {}} {
			s := begin(fmt.Sprint(name, ", ", turns), p)
			for _, i := range s.order() {
				s.Unready(t, i, 1+i%3)
				for _, core := range turns {
					s.Dispatch(t, core)
				}
			}
			s.Dispatch(t, 0)
			s.Dispatch(t, 1)
			if s.runs != [2]int{none, none} {
				t.Errorf("%s: nobody is ready, and %v run", s.name, s.runs)
			}
			for i := range p.Threads {
				s.Ready(t, i)
				for _, core := range turns {
					s.Dispatch(t, core)
				}
			}
			s.Dispatch(t, 1)
			s.Dispatch(t, 0)
		}
	}
}
