package wait_test

import (
	"slices"
	"testing"

	"septum/api"
	"septum/delta"
	"septum/frame"
	"septum/list"
	"septum/plan"
	"septum/ready"
	"septum/thread"
	"septum/wait"
	"septum/word"
)

// timer is one that runs: whose it is, and in how many ticks it is due.
type timer struct {
	thread, left int
}

// spot is where a thread waits: with a side of 0 for the object none, if it waits in no list.
type spot struct {
	o, side int
}

// nowhere is the spot of one that waits in no list.
var nowhere = spot{o: none}

// answer is what a thread's wait was answered.
type answer struct {
	code  api.Errno
	count int
	data  [api.MaxChunk]int64
}

// system is a partition's memory, and beside it, as plain lists, who is ready, who waits where, whose
// timers run, and what each one was answered.
type system struct {
	name    string
	p       plan.Plan
	m       *word.Mem
	boot    []int64
	state   []int
	prio    []int
	at      []spot
	answers []answer
	lists   [api.Levels][]int // the threads that are ready, of each priority
	queues  [api.MaxObjects][2][]int
	timers  []timer // the next one that is due first
}

// begin answers a system as Boot leaves it.
func begin(name string, p plan.Plan) *system {
	s := &system{name: name, p: p, m: plan.Boot(p)}
	s.boot = s.m.Words()
	for i, th := range p.Part.Threads {
		s.state, s.prio = append(s.state, thread.Ready), append(s.prio, th.Priority)
		s.at, s.answers = append(s.at, nowhere), append(s.answers, answer{})
		s.lists[th.Priority] = append(s.lists[th.Priority], i)
	}
	return s
}

// copyOf answers a system that goes on by itself.
func copyOf(s *system) *system {
	c := *s
	c.m = word.New(s.p.Words)
	for a, v := range s.m.Words() {
		c.m.Store(a, v)
	}
	c.state, c.prio, c.at = slices.Clone(s.state), slices.Clone(s.prio), slices.Clone(s.at)
	c.answers, c.timers = slices.Clone(s.answers), slices.Clone(s.timers)
	return &c
}

// without answers a new list of the others.
func without(l []int, i int) []int {
	return slices.DeleteFunc(slices.Clone(l), func(j int) bool { return j == i })
}

// has tells whether there is such a thread.
func (s *system) has(i int) bool { return i >= 0 && i < len(s.prio) }

// sleeps makes the thread one that is not ready, and begins its timer.
func (s *system) sleeps(i, ticks int) {
	s.lists[s.prio[i]] = without(s.lists[s.prio[i]], i)
	s.state[i] = thread.Waiting
	if ticks > 0 {
		at := slices.IndexFunc(s.timers, func(r timer) bool { return r.left > ticks })
		if at < 0 {
			at = len(s.timers)
		}
		s.timers = slices.Insert(slices.Clone(s.timers), at, timer{i, ticks})
	}
}

// stands puts the thread into the list of its spot.
func (s *system) stands(i int) {
	l := &s.queues[s.at[i].o][s.at[i].side]
	at := len(*l)
	if s.p.Part.Objects[s.at[i].o].Priority {
		at = 0
		for at < len(*l) && s.prio[(*l)[at]] >= s.prio[i] {
			at++
		}
	}
	*l = slices.Insert(slices.Clone(*l), at, i)
}

// leaves takes the thread out of the list of its spot.
func (s *system) leaves(i int) {
	if s.at[i] != nowhere {
		l := &s.queues[s.at[i].o][s.at[i].side]
		*l = without(*l, i)
	}
}

// Wait calls Wait, and does on the plain lists what it should do.
func (s *system) Wait(t *testing.T, i, o, side, ticks int) {
	t.Helper()
	play(t, s.m, func(f *frame.Frame) { wait.Wait(f, s.p, i, o, side, ticks) })
	there := o >= 0 && o < len(s.p.Objects) && (side == 0 || side == 1)
	if s.has(i) && s.state[i] == thread.Ready && there {
		s.sleeps(i, ticks)
		s.at[i] = spot{o, side}
		s.stands(i)
	}
	s.check(t, "Wait", i, o, side, ticks)
}

// Sleep calls Sleep, and does on the plain lists what it should do.
func (s *system) Sleep(t *testing.T, i, ticks int) {
	t.Helper()
	play(t, s.m, func(f *frame.Frame) { wait.Sleep(f, s.p, i, ticks) })
	if s.has(i) && s.state[i] == thread.Ready {
		s.sleeps(i, ticks)
	}
	s.check(t, "Sleep", i, ticks)
}

// wakes does on the plain lists what a Wake should do.
func (s *system) wakes(i int, code api.Errno, count int, data []int64) {
	s.leaves(i)
	s.at[i] = nowhere
	s.timers = slices.DeleteFunc(slices.Clone(s.timers), func(r timer) bool { return r.thread == i })
	s.answers[i].code, s.answers[i].count = code, count
	copy(s.answers[i].data[:], data)
	s.readies(i)
}

// readies makes the thread the last one that is ready of its priority.
func (s *system) readies(i int) {
	s.state[i] = thread.Ready
	s.lists[s.prio[i]] = append(slices.Clone(s.lists[s.prio[i]]), i)
}

// Wake calls Wake, and does on the plain lists what it should do.
func (s *system) Wake(t *testing.T, i int, code api.Errno, count int, data []int64) {
	t.Helper()
	play(t, s.m, func(f *frame.Frame) { wait.Wake(f, s.p, i, code, count, data) })
	if s.has(i) && s.state[i] == thread.Waiting {
		s.wakes(i, code, count, data)
	}
	s.check(t, "Wake", i, code, count, data)
}

// Order calls Order, and does on the plain lists what it should do.
func (s *system) Order(t *testing.T, i int) {
	t.Helper()
	play(t, s.m, func(f *frame.Frame) { wait.Order(f, s.p, i) })
	if s.has(i) && s.at[i] != nowhere && s.p.Part.Objects[s.at[i].o].Priority {
		s.leaves(i)
		s.stands(i)
	}
	s.check(t, "Order", i)
}

// Tick calls Tick, and does on the plain lists what it should do: while one is due, no others come nearer.
func (s *system) Tick(t *testing.T) {
	t.Helper()
	play(t, s.m, func(f *frame.Frame) { wait.Tick(f, s.p) })
	if len(s.timers) > 0 && s.timers[0].left > 0 {
		s.timers = slices.Clone(s.timers)
		for k := range s.timers {
			s.timers[k].left--
		}
	}
	s.check(t, "Tick")
}

// Expire calls Expire, does on the plain lists what it should do, and answers whom it answers.
func (s *system) Expire(t *testing.T) int {
	t.Helper()
	var i int
	var ok bool
	play(t, s.m, func(f *frame.Frame) { i, ok = wait.Expire(f, s.p) })
	got, want := told(t, i, ok), none
	if len(s.timers) > 0 && s.timers[0].left == 0 {
		want = s.timers[0].thread
		code := api.ErrTime
		if s.at[want] == nowhere {
			code = api.OK
		}
		s.wakes(want, code, 0, nil)
	}
	if got != want {
		t.Fatalf("%s: Expire answers %d, want %d", s.name, got, want)
	}
	s.check(t, "Expire")
	return got
}

// Ready calls Ready of layer 14 of one that doesn't wait, and does on the plain lists what it does.
func (s *system) Ready(t *testing.T, i int) {
	t.Helper()
	if s.state[i] == thread.Waiting {
		return
	}
	play(t, s.m, func(f *frame.Frame) { ready.Ready(f, s.p, i) })
	if s.state[i] != thread.Ready {
		s.readies(i)
	}
	s.check(t, "Ready", i)
}

// Unready calls Unready of layer 14, and does on the plain lists what it does.
func (s *system) Unready(t *testing.T, i, state int) {
	t.Helper()
	play(t, s.m, func(f *frame.Frame) { ready.Unready(f, s.p, i, state) })
	if s.state[i] == thread.Ready {
		s.lists[s.prio[i]] = without(s.lists[s.prio[i]], i)
		s.state[i] = state
	}
	s.check(t, "Unready", i, state)
}

// Change calls Change of layer 14, and does on the plain lists what it does.
func (s *system) Change(t *testing.T, i, prio int) {
	t.Helper()
	play(t, s.m, func(f *frame.Frame) { ready.Change(f, s.p, i, prio, false) })
	if s.state[i] == thread.Ready {
		s.lists[s.prio[i]] = without(s.lists[s.prio[i]], i)
	}
	s.prio[i] = prio
	if s.state[i] == thread.Ready {
		s.readies(i)
	}
	s.check(t, "Change", i, prio)
}

// Yield calls Yield of layer 14, and does on the plain lists what it does.
func (s *system) Yield(t *testing.T, i int) {
	t.Helper()
	play(t, s.m, func(f *frame.Frame) { ready.Yield(f, s.p, i) })
	if s.state[i] == thread.Ready {
		s.lists[s.prio[i]] = without(s.lists[s.prio[i]], i)
		s.readies(i)
	}
	s.check(t, "Yield", i)
}

// Data makes v a word of the thread's DATA.
func (s *system) Data(t *testing.T, i, d int, v int64) {
	t.Helper()
	set(t, s.m, s.p, i, thread.Data+d, v)
	s.answers[i].data[d] = v
	s.check(t, "DATA", i, d, v)
}

// words answers what the memory should hold, word by word: as Boot left it, but for the queue of those
// that are ready, the timers, the objects' lists, and the threads' words.
func (s *system) words(t *testing.T) []int64 {
	t.Helper()
	m := word.New(s.p.Words)
	for a, v := range s.boot {
		m.Store(a, v)
	}
	for i, at := range s.p.Threads {
		ring(m, at)
		s.fields(t, m, i)
	}
	m.Store(s.p.Ready, 0)
	for priority, l := range s.lists {
		s.list(m, s.p.Ready+1+priority*list.Words, l)
		if len(l) > 0 {
			m.Add(s.p.Ready, 1<<priority)
		}
	}
	for o, at := range s.p.Objects {
		s.list(m, at, s.queues[o][0])
		s.list(m, at+list.Words, s.queues[o][1])
	}
	s.running(m)
	return m.Words()
}

// list stores a list of threads.
func (s *system) list(m *word.Mem, head int, l []int) {
	nodes := []int{head}
	for _, i := range l {
		nodes = append(nodes, s.p.Threads[i])
	}
	ring(m, nodes...)
}

// running stores the timers that run: of each one how many ticks it is due behind the one ahead.
func (s *system) running(m *word.Mem) {
	nodes, before := []int{s.p.Timers}, 0
	for _, r := range s.timers {
		at := thread.Timer(s.p, r.thread)
		nodes = append(nodes, at)
		m.Store(at+delta.Words-1, int64(r.left-before))
		before = r.left
	}
	ring(m, nodes...)
}

// fields stores a thread's fields.
func (s *system) fields(t *testing.T, m *word.Mem, i int) {
	t.Helper()
	var timed int64
	if slices.ContainsFunc(s.timers, func(r timer) bool { return r.thread == i }) {
		timed = 1
	}
	for field, v := range map[int]int64{thread.State: int64(s.state[i]), thread.Prio: int64(s.prio[i]), thread.Timed: timed,
		thread.Object: int64(s.at[i].o + 1), thread.Side: int64(s.at[i].side),
		thread.Code: int64(s.answers[i].code), thread.Count: int64(s.answers[i].count)} {
		set(t, m, s.p, i, field, v)
	}
	for d, v := range s.answers[i].data {
		set(t, m, s.p, i, thread.Data+d, v)
	}
}

// check fails the test, unless the memory is what it should be, word by word.
func (s *system) check(t *testing.T, what ...any) {
	t.Helper()
	if got, want := s.m.Words(), s.words(t); !slices.Equal(got, want) {
		t.Fatalf("%s: %v: the words %v are not as they should be", s.name, what, changes(want, got))
	}
}

// look fails the test, unless First and Next answer of all lists, and of each thread in each of them, what
// the plain lists tell, and change nothing.
func (s *system) look(t *testing.T) {
	t.Helper()
	for o := range s.p.Objects {
		for side := range 2 {
			l := append(slices.Clone(s.queues[o][side]), none)
			if i := first(t, s.m, s.p, o, side); i != l[0] {
				t.Fatalf("%s: the first one of the list (%d, %d) is %d, want %d", s.name, o, side, i, l[0])
			}
			for i := range s.prio {
				want := none
				if at := slices.Index(l, i); at >= 0 {
					want = l[at+1]
				}
				if j := next(t, s.m, s.p, o, side, i); j != want {
					t.Fatalf("%s: behind %d in the list (%d, %d) is %d, want %d", s.name, i, o, side, j, want)
				}
			}
		}
	}
	s.check(t, "First and Next")
}
