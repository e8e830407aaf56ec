package ready_test

import (
	"fmt"
	"math"
	"slices"
	"testing"
	"time"

	"septum/api"
	"septum/frame"
	"septum/plan"
	"septum/ready"
	"septum/thread"
	"septum/word"
)

// far are numbers that are far from all limits; some are within them in their lowest 8, 16 or 32 bits.
var far = []int{math.MaxInt, math.MaxInt - 1, math.MinInt, math.MinInt + 1, 1 << 8, 1<<8 + 1, 1 << 16, 1<<16 + 1,
	1 << 32, 1<<32 + 1, 1 << 62, -1 << 8, -1 << 16, -1 << 32, -1<<32 + 1, -2, -100}

// unchanged fails the test, unless the body leaves all words of the system as they are.
func unchanged(t *testing.T, s *system, body frame.Body, what ...any) {
	t.Helper()
	words := s.m.Words()
	play(t, s.m, body)
	if changed := changes(words, s.m.Words()); len(changed) > 0 {
		t.Errorf("%s: %v: the words %v are changed", s.name, what, changed)
	}
}

// noThread fails the test, unless all calls do nothing of the thread i of the plan p, in the memory of s.
func noThread(t *testing.T, s *system, p plan.Plan, i int) {
	t.Helper()
	unchanged(t, s, func(f *frame.Frame) { ready.Ready(f, p, i) }, "Ready of ", i)
	unchanged(t, s, func(f *frame.Frame) { ready.Yield(f, p, i) }, "Yield of ", i)
	for state := -1; state <= 4; state++ {
		unchanged(t, s, func(f *frame.Frame) { ready.Unready(f, p, i, state) }, "Unready of ", i, state)
	}
	for _, prio := range []int{-1, 0, 5, 15, 16} {
		unchanged(t, s, func(f *frame.Frame) { ready.Change(f, p, i, prio, true) }, "Change of ", i, prio)
		unchanged(t, s, func(f *frame.Frame) { ready.Change(f, p, i, prio, false) }, "Change of ", i, prio)
	}
}

// some answers systems of a plan: as Boot leaves it, and with one thread, and all of them, not ready.
func some(t *testing.T, name string, p plan.Plan) []*system {
	t.Helper()
	boot, one, all := begin(name, p), begin(name+", one not ready", p), begin(name+", nobody ready", p)
	one.Unready(t, 0, thread.Waiting)
	for i := range p.Threads {
		all.Unready(t, i, 1+i%3)
	}
	return []*system{boot, one, all}
}

// P14.1: of threads below 0, as many as there are, and beyond, nothing is done.
func TestNoSuchThread(t *testing.T) {
	for name, p := range plans(t) {
		for _, s := range some(t, name, p) {
			n := len(p.Threads)
			for _, i := range append([]int{-1, -n, n, n + 1, 2 * n, api.MaxThreads, api.MaxThreads + 1, p.Threads[0], p.Words}, far...) {
				noThread(t, s, p, i)
			}
		}
	}
}

// P14.1: of states below 0, of Ready, and of those beyond Gone, nothing is done.
func TestNoSuchState(t *testing.T) {
	for name, p := range plans(t) {
		for _, s := range some(t, name, p) {
			for i := range p.Threads {
				for _, state := range append([]int{-1, thread.Ready, thread.Gone + 1, 5, 15, 255}, far...) {
					unchanged(t, s, func(f *frame.Frame) { ready.Unready(f, p, i, state) }, "Unready of ", i, " to ", state)
				}
			}
		}
	}
}

// P14.1: of priorities below 0, Levels, and beyond, nothing is done.
func TestNoSuchPriority(t *testing.T) {
	for name, p := range plans(t) {
		for _, s := range some(t, name, p) {
			for i := range p.Threads {
				for _, prio := range append([]int{-1, api.Levels, api.Levels + 1, 31, 32, 63, 64, 255}, far...) {
					unchanged(t, s, func(f *frame.Frame) { ready.Change(f, p, i, prio, true) }, "Change of ", i, " to ", prio)
					unchanged(t, s, func(f *frame.Frame) { ready.Change(f, p, i, prio, false) }, "Change of ", i, " to ", prio)
				}
			}
		}
	}
}

// P14.1: of a thread whose PRIO is no priority, as no call leaves it, nothing is done: but of one that
// isn't ready Change makes it one.
func TestPrioThatIsNone(t *testing.T) {
	p := of(t, api.Part{Threads: threads(1, 5, 5)})
	for _, v := range []int64{-1, 16, 17, 1 << 8, 1 << 32, 1<<32 + 5, -1 << 32, math.MaxInt64, math.MinInt64} {
		for _, state := range []int64{0, 1, 2, 3} {
			s := begin(fmt.Sprint("PRIO ", v, ", STATE ", state), p)
			if state > 0 {
				s.Unready(t, 1, int(state))
			}
			play(t, s.m, func(f *frame.Frame) { thread.Set(f, p, 1, thread.Prio, v) })
			unchanged(t, s, func(f *frame.Frame) { ready.Ready(f, p, 1) }, "Ready")
			unchanged(t, s, func(f *frame.Frame) { ready.Yield(f, p, 1) }, "Yield")
			unchanged(t, s, func(f *frame.Frame) { ready.Unready(f, p, 1, thread.Gone) }, "Unready")
			if state == 0 {
				unchanged(t, s, func(f *frame.Frame) { ready.Change(f, p, 1, 5, true) }, "Change")
				continue
			}
			s.Change(t, 1, 9, false)
			s.Ready(t, 1)
		}
	}
}

// R1: a plan without threads: nothing is done, and nobody is the best.
func TestPlansWithoutThreads(t *testing.T) {
	full := of(t, api.Part{Threads: threads(1, 5, 5), Objects: objects()})
	nilOne, emptyOne, cut := full, full, full
	nilOne.Threads, emptyOne.Threads, cut.Threads = nil, []int{}, full.Threads[:0]
	for name, p := range map[string]plan.Plan{"zero": {}, "a Part alone": {Part: full.Part, Words: full.Words}, "nil": nilOne, "empty": emptyOne, "cut off": cut} {
		for _, s := range some(t, name, full) {
			for _, i := range []int{-1, 0, 1, 2, 3, math.MaxInt, math.MinInt} {
				noThread(t, s, p, i)
			}
			for _, n := range []int{1, 2, 9, math.MaxInt} {
				if l := best(t, s.m, p, n); len(l) > 0 {
					t.Errorf("%s: Best of %d: %v", s.name, n, l)
				}
			}
		}
	}
}

// R1: a thread that stands below 0, or beyond the memory, is none; the others are what they were.
func TestThreadsWithoutWords(t *testing.T) {
	full := of(t, api.Part{Threads: threads(1, 5, 5), Objects: objects()})
	for _, at := range []int{-1, -2, -5, -24, -100, math.MinInt, math.MinInt + 1, full.Words, full.Words - 1, full.Words - 23,
		full.Words + 1, 3999, 4000, 1 << 32, math.MaxInt, math.MaxInt - 1, math.MaxInt - 23, math.MaxInt - 24} {
		for _, s := range some(t, fmt.Sprint("a thread at ", at), full) {
			p := full
			p.Threads = slices.Clone(full.Threads)
			p.Threads[1] = at
			noThread(t, s, p, 1)
			if got, want := best(t, s.m, p, 9), without(s.order(), 9, []int{1}); !slices.Equal(got, want) {
				t.Errorf("%s: %v, want %v", s.name, got, want)
			}
			s.Yield(t, 2)
			s.Change(t, 0, 5, true)
		}
	}
}

// R1: a thread whose words go on beyond those of the plan is none, also where the memory goes on.
func TestThreadsBeyondThePlan(t *testing.T) {
	full := of(t, api.Part{Threads: threads(1, 5, 5), Objects: objects()})
	for d := range 24 {
		for _, s := range some(t, fmt.Sprint(d, " words of a thread"), full) {
			s.Unready(t, 2, thread.Waiting)
			p := full
			p.Words = full.Threads[2] + d
			noThread(t, s, p, 2)
			s.Ready(t, 2)
		}
	}
}

// R1: a memory in which the queue's lists never come to their heads, or lead nowhere: Best ends, within
// the accesses that it may do, and answers no numbers that are no thread's.
func TestQueuesThatCallsDoNotLeave(t *testing.T) {
	p := of(t, api.Part{Threads: threads(1, 5, 5)})
	values := []int64{-1, 0, 1, int64(p.Ready), int64(p.Threads[0]), int64(p.Threads[1]), int64(p.Threads[2]), int64(p.Words), math.MaxInt64, math.MinInt64}
	at := []int{p.Ready, p.Ready + 1, p.Ready + 3, p.Ready + 11, p.Ready + 12, p.Threads[0], p.Threads[1], p.Threads[1] + 1, p.Threads[2]}
	for _, a := range at {
		for _, v := range values {
			for _, b := range at {
				for _, w := range values {
					m := plan.Boot(p)
					m.Store(a, v)
					m.Store(b, w)
					name := fmt.Sprint(a, " is ", v, ", ", b, " is ", w)
					for _, n := range []int{1, 2, math.MaxInt} {
						within(t, name, p, best(t, m, p, n), n)
						within(t, name, p, best(t, m, p, n, 0, 1, 2), 0)
					}
				}
			}
		}
	}
}

// within fails the test, unless the list has n threads at most.
func within(t *testing.T, name string, p plan.Plan, l []int, n int) {
	t.Helper()
	for _, i := range l {
		if i < 0 || i >= len(p.Threads) {
			t.Errorf("%s: %v", name, l)
		}
	}
	if len(l) > n || len(l) > api.MaxThreads {
		t.Errorf("%s: %d threads, of %d at most", name, len(l), n)
	}
}

// R1: each call ends within the accesses that it may do, and none panics, whatever the plan is, and
// whatever the memory holds.
func TestCallsEnd(t *testing.T) {
	numbers := append([]int{-1, 0, 1, 2, 5, 6, 15, 16, 17, 3999, 4000}, far...)
	full := of(t, api.Part{Threads: threads(1, 5, 5), Objects: objects()})
	strange := map[string]plan.Plan{"the zero plan": {}, "many threads": {Threads: make([]int, 1<<12), Words: 4000}}
	for _, n := range numbers {
		strange[fmt.Sprint("all at ", n)] = plan.Plan{Ready: n, Threads: []int{n, 5, n}, Words: n}
		strange[fmt.Sprint("threads at ", n)] = plan.Plan{Threads: []int{n, 5, n}, Words: 100}
		p := full
		p.Ready = n
		strange[fmt.Sprint("the queue at ", n)] = p
		p = full
		p.Words = n
		strange[fmt.Sprint(n, " words")] = p
	}
	for name, p := range strange {
		ends(t, name, func() {
			for _, m := range []*word.Mem{nil, word.New(100), plan.Boot(full), shuffled(full)} {
				for _, i := range numbers {
					callAll(m, p, i, numbers)
				}
			}
		})
	}
}

// shuffled answers a memory in which each word tells the place of another one.
func shuffled(p plan.Plan) *word.Mem {
	m := word.New(p.Words)
	for a := range p.Words {
		m.Store(a, int64(a*37%p.Words))
	}
	return m
}

// callAll makes each of the layer's calls of the thread i, and Best of i, with the numbers beside it.
func callAll(m *word.Mem, p plan.Plan, i int, numbers []int) {
	run := func(body frame.Body) {
		if !frame.Run(m, body, most) {
			panic("a call does more accesses than it may")
		}
		body(nil)
	}
	run(func(f *frame.Frame) { ready.Ready(f, p, i) })
	run(func(f *frame.Frame) { ready.Yield(f, p, i) })
	run(func(f *frame.Frame) { ready.Best(f, p, i, numbers) })
	for _, n := range numbers {
		run(func(f *frame.Frame) { ready.Unready(f, p, i, n) })
		run(func(f *frame.Frame) { ready.Change(f, p, i, n, n%2 == 0) })
		run(func(f *frame.Frame) { ready.Best(f, p, n, []int{i}) })
	}
}

// ends fails the test, unless the calls end, and none of them panics.
func ends(t *testing.T, name string, calls func()) {
	t.Helper()
	done := make(chan any, 1)
	go func() {
		defer func() { done <- recover() }()
		calls()
	}()
	select {
	case what := <-done:
		if what != nil {
			t.Errorf("%s: a panic: %v", name, what)
		}
	case <-time.After(time.Minute):
		t.Fatalf("%s: it doesn't end", name)
	}
}
