package ready_test

import (
	"fmt"
	"slices"
	"testing"

	"septum/api"
	"septum/frame"
	"septum/list"
	"septum/plan"
	"septum/ready"
	"septum/thread"
	"septum/word"
)

// most is how many accesses a call of this layer may do.
const most = 300

// threads makes threads of the given priorities.
func threads(priorities ...int) []api.Thread {
	var l []api.Thread
	for _, p := range priorities {
		l = append(l, api.Thread{Priority: p})
	}
	return l
}

// objects makes an object of each kind.
func objects() []api.Object {
	l := make([]api.Object, 8)
	for kind, size := range []int{9, 0, 3, 0, 16, 2, 4, 5} {
		l[kind] = api.Object{Kind: kind, Size: size}
	}
	return l
}

// of answers the plan of a partition with which nothing is wrong.
func of(t *testing.T, part api.Part) plan.Plan {
	t.Helper()
	p, e := plan.Of(part)
	if e != api.OK {
		t.Fatalf("%+v: error %d, want none", part, int(e))
	}
	return p
}

// plans answers plans of one thread and of more, with priorities that are alike and that are not.
func plans(t *testing.T) map[string]plan.Plan {
	t.Helper()
	return map[string]plan.Plan{
		"one thread of 0":       of(t, api.Part{Threads: threads(0)}),
		"one thread of 15":      of(t, api.Part{Threads: threads(15), Objects: objects()}),
		"two threads":           of(t, api.Part{Threads: threads(0, 15)}),
		"two threads alike":     of(t, api.Part{Threads: threads(4, 4)}),
		"the example's":         of(t, api.Part{Threads: threads(1, 5, 5)}),
		"three alike, and one":  of(t, api.Part{Threads: threads(7, 7, 3, 7), Objects: objects()[3:6]}),
		"six threads":           of(t, api.Part{Threads: threads(9, 2, 15, 2, 0, 7)}),
		"six threads alike":     of(t, api.Part{Threads: threads(8, 8, 8, 8, 8, 8), Objects: objects()}),
		"six threads at 0":      of(t, api.Part{Threads: threads(0, 0, 0, 0, 0, 0)}),
		"six threads at 15":     of(t, api.Part{Threads: threads(15, 15, 15, 15, 15, 15)}),
		"three and three alike": of(t, api.Part{Threads: threads(0, 15, 0, 15, 0, 15)}),
	}
}

// play plays a body till it is done, which is to be within the accesses of one call, and answers how
// many it did.
func play(t *testing.T, m *word.Mem, body frame.Body) int {
	t.Helper()
	f := frame.New(m)
	for now := range most {
		if f.Step(now, body) {
			return f.Steps()
		}
	}
	t.Fatalf("a call isn't done with %d accesses", most)
	return 0
}

// best answers the first n threads that are ready, but those that but has.
func best(t *testing.T, m *word.Mem, p plan.Plan, n int, but ...int) []int {
	t.Helper()
	var l []int
	play(t, m, func(f *frame.Frame) { l = ready.Best(f, p, n, but) })
	return l
}

// get answers a field of a thread.
func get(t *testing.T, m *word.Mem, p plan.Plan, i, field int) int64 {
	t.Helper()
	var v int64
	play(t, m, func(f *frame.Frame) { v = thread.Get(f, p, i, field) })
	return v
}

// system is a partition's memory, and beside it, as plain lists, what its threads should be.
type system struct {
	name  string
	p     plan.Plan
	m     *word.Mem
	boot  []int64
	state []int
	prio  []int
	lists [16][]int // the threads that are ready, of each priority
}

// begin answers a system as Boot leaves it.
func begin(name string, p plan.Plan) *system {
	s := &system{name: name, p: p, m: plan.Boot(p)}
	s.boot = s.m.Words()
	for i, th := range p.Part.Threads {
		s.state = append(s.state, thread.Ready)
		s.prio = append(s.prio, th.Priority)
		s.lists[th.Priority] = append(s.lists[th.Priority], i)
	}
	return s
}

// has tells whether there is such a thread.
func (s *system) has(i int) bool { return i >= 0 && i < len(s.prio) }

// drop takes the thread out of the list of its priority.
func (s *system) drop(i int) {
	l := s.lists[s.prio[i]]
	at := slices.Index(l, i)
	s.lists[s.prio[i]] = slices.Concat(l[:at], l[at+1:])
}

// add puts the thread into the list of its priority.
func (s *system) add(i int, first bool) {
	if first {
		s.lists[s.prio[i]] = slices.Insert(s.lists[s.prio[i]], 0, i)
		return
	}
	s.lists[s.prio[i]] = append(s.lists[s.prio[i]], i)
}

// Ready calls Ready, and does on the plain lists what it should do.
func (s *system) Ready(t *testing.T, i int) {
	t.Helper()
	play(t, s.m, func(f *frame.Frame) { ready.Ready(f, s.p, i) })
	if s.has(i) && s.state[i] != thread.Ready {
		s.state[i] = thread.Ready
		s.add(i, false)
	}
	s.check(t, "Ready", i)
}

// Unready calls Unready, and does on the plain lists what it should do.
func (s *system) Unready(t *testing.T, i, state int) {
	t.Helper()
	play(t, s.m, func(f *frame.Frame) { ready.Unready(f, s.p, i, state) })
	if s.has(i) && s.state[i] == thread.Ready && state >= 1 && state <= 3 {
		s.drop(i)
		s.state[i] = state
	}
	s.check(t, "Unready", i, state)
}

// Change calls Change, and does on the plain lists what it should do.
func (s *system) Change(t *testing.T, i, prio int, first bool) {
	t.Helper()
	play(t, s.m, func(f *frame.Frame) { ready.Change(f, s.p, i, prio, first) })
	if s.has(i) && prio >= 0 && prio <= 15 {
		if s.state[i] == thread.Ready {
			s.drop(i)
		}
		s.prio[i] = prio
		if s.state[i] == thread.Ready {
			s.add(i, first)
		}
	}
	s.check(t, "Change", i, prio, first)
}

// Yield calls Yield, and does on the plain lists what it should do.
func (s *system) Yield(t *testing.T, i int) {
	t.Helper()
	play(t, s.m, func(f *frame.Frame) { ready.Yield(f, s.p, i) })
	if s.has(i) && s.state[i] == thread.Ready {
		s.drop(i)
		s.add(i, false)
	}
	s.check(t, "Yield", i)
}

// order answers the threads of the plain lists, in the queue's order.
func (s *system) order() []int {
	var l []int
	for priority := range 16 {
		l = slices.Concat(s.lists[priority], l)
	}
	return l
}

// words answers what the memory should hold, word by word: as Boot left it, but for the queue, the
// threads' nodes, their STATE and their PRIO.
func (s *system) words(t *testing.T) []int64 {
	t.Helper()
	m := word.New(s.p.Words)
	for a, v := range s.boot {
		m.Store(a, v)
	}
	m.Store(s.p.Ready, 0)
	for i, at := range s.p.Threads {
		ring(m, at)
		play(t, m, func(f *frame.Frame) {
			thread.Set(f, s.p, i, thread.State, int64(s.state[i]))
			thread.Set(f, s.p, i, thread.Prio, int64(s.prio[i]))
		})
	}
	for priority, l := range s.lists {
		nodes := []int{s.p.Ready + 1 + priority*list.Words}
		for _, i := range l {
			nodes = append(nodes, s.p.Threads[i])
		}
		ring(m, nodes...)
		if len(l) > 0 {
			m.Add(s.p.Ready, 1<<priority)
		}
	}
	return m.Words()
}

// ring stores nodes that stand in a ring, each one ahead of the next.
func ring(m *word.Mem, nodes ...int) {
	for k, n := range nodes {
		next := nodes[(k+1)%len(nodes)]
		m.Store(n, int64(next))
		m.Store(next+1, int64(n))
	}
}

// check fails the test, unless the memory is what it should be, word by word, and Best answers all
// that are ready, in their order.
func (s *system) check(t *testing.T, what ...any) {
	t.Helper()
	if got, want := s.m.Words(), s.words(t); !slices.Equal(got, want) {
		t.Fatalf("%s: %v: the words %v are not as they should be", s.name, what, changes(want, got))
	}
	if got, want := best(t, s.m, s.p, api.MaxThreads), s.order(); !slices.Equal(got, want) {
		t.Fatalf("%s: %v: %v are ready, want %v", s.name, what, got, want)
	}
}

// changes answers the addresses of the words in which two memories differ.
func changes(before, after []int64) []int {
	var l []int
	for a := range before {
		if before[a] != after[a] {
			l = append(l, a)
		}
	}
	return l
}

// P14.1: the chapter's example.
func TestExample(t *testing.T) {
	p := of(t, api.Part{Threads: threads(1, 5, 5)})
	m := plan.Boot(p)
	if l := best(t, m, p, 2); !slices.Equal(l, []int{1, 2}) {
		t.Errorf("Boot's best are %v", l)
	}
	play(t, m, func(f *frame.Frame) { ready.Yield(f, p, 1) })
	if l := best(t, m, p, 2); !slices.Equal(l, []int{2, 1}) {
		t.Errorf("behind Yield(1) the best are %v", l)
	}
}

// P14.1: Unready of each thread, to each state, and Ready again: it is the last one of its PRIO.
func TestUnreadyAndReady(t *testing.T) {
	for name, p := range plans(t) {
		for i := range p.Threads {
			for _, state := range []int{thread.Waiting, thread.Suspended, thread.Gone} {
				s := begin(name, p)
				s.Unready(t, i, state)
				if v := get(t, s.m, p, i, thread.State); v != int64(state) {
					t.Errorf("%s: STATE of %d is %d, want %d", name, i, v, state)
				}
				if slices.Contains(best(t, s.m, p, 9), i) {
					t.Errorf("%s: %d is ready still", name, i)
				}
				s.Ready(t, i)
				if v := get(t, s.m, p, i, thread.State); v != thread.Ready {
					t.Errorf("%s: STATE of %d is %d, want Ready", name, i, v)
				}
				if alike := s.lists[s.prio[i]]; alike[len(alike)-1] != i {
					t.Errorf("%s: %d isn't the last one of %v", name, i, alike)
				}
			}
		}
	}
}

// P14.1: a thread that is made ready is the last one of its priority, spelled out in whole.
func TestReadyIsTheLastOne(t *testing.T) {
	p := of(t, api.Part{Threads: threads(5, 5, 5, 9, 1)})
	m := plan.Boot(p)
	for _, c := range []struct {
		i    int
		want []int
	}{{0, []int{3, 1, 2, 0, 4}}, {2, []int{3, 1, 0, 2, 4}}, {2, []int{3, 1, 0, 2, 4}}, {3, []int{3, 1, 0, 2, 4}}, {4, []int{3, 1, 0, 2, 4}}, {1, []int{3, 0, 2, 1, 4}}} {
		play(t, m, func(f *frame.Frame) {
			ready.Unready(f, p, c.i, thread.Waiting)
			ready.Ready(f, p, c.i)
		})
		if l := best(t, m, p, 5); !slices.Equal(l, c.want) {
			t.Errorf("%d is ready again: %v, want %v", c.i, l, c.want)
		}
	}
}

// permutations answers all orders of the numbers 0 to n - 1.
func permutations(n int) [][]int {
	if n == 0 {
		return [][]int{nil}
	}
	var all [][]int
	for _, l := range permutations(n - 1) {
		for at := range n {
			all = append(all, slices.Insert(slices.Clone(l), at, n-1))
		}
	}
	return all
}

// P14.1: nobody is ready any more, in each order of who isn't first, and all are again, in each order.
func TestNobodyIsReady(t *testing.T) {
	for _, priorities := range [][]int{{3}, {0, 15}, {6, 6}, {1, 5, 5}, {5, 5, 5}, {2, 1, 0}, {4, 4, 9, 4}} {
		p := of(t, api.Part{Threads: threads(priorities...)})
		for _, down := range permutations(len(priorities)) {
			for _, up := range permutations(len(priorities)) {
				s := begin(fmt.Sprint(priorities, down, up), p)
				for k, i := range down {
					s.Unready(t, i, 1+k%3)
				}
				if l := best(t, s.m, p, 6); len(l) > 0 {
					t.Errorf("%s: %v are ready", s.name, l)
				}
				for _, i := range up {
					s.Ready(t, i)
				}
			}
		}
	}
}

// P14.1: what is ready already isn't made ready once more, nor moved; what isn't keeps its state.
func TestReadyAndUnreadyTwice(t *testing.T) {
	for name, p := range plans(t) {
		s := begin(name, p)
		for i := range p.Threads {
			s.Ready(t, i)
		}
		for _, state := range []int{thread.Waiting, thread.Suspended, thread.Gone} {
			for i := range p.Threads {
				s.Unready(t, i, state)
				for _, other := range []int{thread.Waiting, thread.Suspended, thread.Gone} {
					s.Unready(t, i, other)
				}
				s.Ready(t, i)
				s.Ready(t, i)
			}
		}
	}
}

// P14.1: Yield of each thread: it is the last one of its priority; of one that isn't ready nothing.
func TestYield(t *testing.T) {
	for name, p := range plans(t) {
		for i := range p.Threads {
			s := begin(name, p)
			s.Yield(t, i)
			if alike := s.lists[s.prio[i]]; alike[len(alike)-1] != i {
				t.Errorf("%s: %d isn't the last one of %v", name, i, alike)
			}
			s.Yield(t, i)
			for j := range p.Threads {
				s.Yield(t, j)
			}
			for _, state := range []int{thread.Waiting, thread.Suspended, thread.Gone} {
				s.Unready(t, i, state)
				words := s.m.Words()
				s.Yield(t, i)
				if !slices.Equal(s.m.Words(), words) {
					t.Errorf("%s: Yield of %d, of the state %d, changed the words", name, i, state)
				}
				s.Ready(t, i)
			}
		}
	}
}

// P14.1: Yield of the first, a middle and the last one of a priority, and of one that is alone.
func TestYieldInWhole(t *testing.T) {
	p := of(t, api.Part{Threads: threads(5, 5, 5, 9, 1)})
	for i, want := range [][]int{{3, 1, 2, 0, 4}, {3, 0, 2, 1, 4}, {3, 0, 1, 2, 4}, {3, 0, 1, 2, 4}, {3, 0, 1, 2, 4}} {
		m := plan.Boot(p)
		words := m.Words()
		play(t, m, func(f *frame.Frame) { ready.Yield(f, p, i) })
		if l := best(t, m, p, 5); !slices.Equal(l, want) {
			t.Errorf("Yield(%d): %v, want %v", i, l, want)
		}
		if i >= 2 && !slices.Equal(m.Words(), words) {
			t.Errorf("Yield(%d) changed the words", i)
		}
	}
}
