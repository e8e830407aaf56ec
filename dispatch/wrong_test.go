package dispatch_test

import (
	"fmt"
	"math"
	"slices"
	"testing"
	"time"

	"septum/api"
	"septum/dispatch"
	"septum/frame"
	"septum/plan"
	"septum/thread"
	"septum/word"
)

// far are numbers that are far from all limits; some are within them in their lowest 8, 16 or 32 bits.
var far = []int{math.MaxInt, math.MaxInt - 1, math.MinInt, math.MinInt + 1, 1 << 8, 1<<8 + 1, 1 << 16, 1<<16 + 1,
	1 << 32, 1<<32 + 1, 1 << 62, -1 << 8, -1 << 16, -1 << 32, -1<<32 + 1, -2, -100}

// P15.1: of cores below 0, and from 2 on: 0, false; nothing is done, not even an access.
func TestNoSuchCore(t *testing.T) {
	for _, s := range states(t) {
		for _, core := range append([]int{-1, 2, 3, 4, 5, 255}, far...) {
			var a answers
			for what, body := range bodies(s.p, core, &a) {
				a = answers{7, 7, true, true, true}
				words := s.m.Words()
				if n := play(t, s.m, body); n != 0 || a != (answers{}) {
					t.Errorf("%s(%d), %s: %d accesses, %+v", what, core, s.name, n, a)
				}
				if changed := changes(words, s.m.Words()); len(changed) > 0 {
					t.Errorf("%s(%d), %s: the words %v are changed", what, core, s.name, changed)
				}
			}
		}
	}
}

// P15.1, R1: a CURRENT that is no thread's number and 1: nobody runs there. Dispatch of that core stores
// whom it chooses; that of the other one leaves the word as it is, and calls the core, if one of the best
// runs on neither.
func TestCurrentThatIsNoThread(t *testing.T) {
	p := of(t, api.Part{Threads: threads(5, 5, 5)})
	for _, v := range append([]int{-1, -3, 4, 5, 6, 7, 255, p.Threads[0], p.Words}, far...) {
		for core := range 2 {
			for _, order := range orders(3) {
				s := made(t, p, state{order, [2]int{none, none}, []int{1}, [2]bool{}}, false)
				s.name = fmt.Sprint("CURRENT of core ", core, " is ", v, ", ready are ", order)
				s.m.Store(p.Current[core], int64(v))
				s.check(t, "at first")
				there := copyOf(s)
				s.Dispatch(t, core)
				otherCore(t, there, core, int64(v))
			}
		}
	}
}

// otherCore dispatches on the other core than this one, whose CURRENT is v, no thread's.
func otherCore(t *testing.T, s *system, core int, v int64) {
	t.Helper()
	order := append(s.order(), none)
	want := s.m.Words()
	want[s.p.Current[1-core]] = int64(order[0] + 1)
	if len(order) > 2 {
		want[s.p.IPI[core]] = 1
	}
	if i := turn(t, s.m, s.p, 1-core); i != order[0] {
		t.Errorf("%s: Dispatch(%d): %d, want %d", s.name, 1-core, i, order[0])
	}
	if changed := changes(want, s.m.Words()); len(changed) > 0 {
		t.Errorf("%s: Dispatch(%d): the words %v are not as they should be", s.name, 1-core, changed)
	}
}

// P15.1, R1: a memory in which one thread runs on both cores, as no Dispatch leaves it: each core does
// what the chapter says.
func TestOneThreadOnBothCores(t *testing.T) {
	p := of(t, api.Part{Threads: threads(5, 5, 5)})
	for _, order := range orders(3) {
		for _, holds := range sets(3) {
			for i := range 3 {
				for core := range 2 {
					s := made(t, p, state{order, [2]int{i, i}, holds, [2]bool{}}, true)
					s.Dispatch(t, core)
					s.Dispatch(t, 1-core)
				}
			}
		}
	}
}

// R1: plans without threads: nobody runs, and nothing is called or changed.
func TestPlansWithoutThreads(t *testing.T) {
	full := of(t, api.Part{Threads: threads(1, 5, 5), Objects: objects()})
	nilOne, emptyOne, cut := full, full, full
	nilOne.Threads, emptyOne.Threads, cut.Threads = nil, []int{}, full.Threads[:0]
	for name, p := range map[string]plan.Plan{"nil": nilOne, "empty": emptyOne, "cut off": cut} {
		m := plan.Boot(full)
		want := m.Words()
		for core := range 2 {
			if current(t, m, p, core) != none || called(t, m, p, core) {
				t.Errorf("%s: somebody runs on core %d", name, core)
			}
			if i := turn(t, m, p, core); i != none {
				t.Errorf("%s: Dispatch(%d): %d", name, core, i)
			}
			want[p.Current[core]] = 0
			if changed := changes(want, m.Words()); len(changed) > 0 {
				t.Errorf("%s: Dispatch(%d): the words %v are not as they should be", name, core, changed)
			}
		}
	}
}

// R1: the zero plan: 0, false of every call and core, of each memory.
func TestZeroPlan(t *testing.T) {
	full := of(t, api.Part{Threads: threads(1, 5, 5), Objects: objects()})
	for name, m := range map[string]*word.Mem{"nil": nil, "no words": word.New(0), "a word": word.New(1), "Boot's": plan.Boot(full), "shuffled": shuffled(full)} {
		for core := range 2 {
			if i := current(t, m, plan.Plan{}, core); i != none {
				t.Errorf("%s: %d runs on core %d", name, i, core)
			}
			if i := turn(t, m, plan.Plan{}, core); i != none {
				t.Errorf("%s: Dispatch(%d): %d", name, core, i)
			}
			if called(t, m, plan.Plan{}, core) {
				t.Errorf("%s: core %d is called", name, core)
			}
		}
	}
}

// R1: a thread that stands below 0, or beyond the plan's words, is none: it doesn't run, whatever CURRENT
// holds, and the others do.
func TestThreadsWithoutWords(t *testing.T) {
	full := of(t, api.Part{Threads: threads(1, 5, 5), Objects: objects()})
	for _, at := range []int{-1, -2, -5, -24, -100, math.MinInt, math.MinInt + 1, full.Words, full.Words - 1, full.Words - 23,
		full.Words + 1, 3999, 4000, 1 << 32, math.MaxInt, math.MaxInt - 1, math.MaxInt - 23, math.MaxInt - 24} {
		m := plan.Boot(full)
		p := full
		p.Threads = slices.Clone(full.Threads)
		p.Threads[1] = at
		if i := current(t, m, p, 0); i != none {
			t.Errorf("a thread at %d: %d runs on core 0", at, i)
		}
		if i := turn(t, m, p, 1); i != 2 || !called(t, m, p, 0) {
			t.Errorf("a thread at %d: Dispatch(1): %d", at, i)
		}
		if i := turn(t, m, p, 0); i != 0 || called(t, m, p, 1) {
			t.Errorf("a thread at %d: Dispatch(0): %d", at, i)
		}
	}
}

// R1: the last words that a thread may have: one fewer, and it is none.
func TestThreadsAtTheEnd(t *testing.T) {
	p := of(t, api.Part{Threads: threads(5)})
	for d := range plan.ThreadWords + 1 {
		m := plan.Boot(p)
		cut := p
		cut.Words = p.Threads[0] + d
		want := none
		if d == plan.ThreadWords {
			want = 0
		}
		if i := current(t, m, cut, 0); i != want {
			t.Errorf("%d words: %d runs, want %d", d, i, want)
		}
	}
}

// outside answers addresses that no word of the plan's memory has.
func outside(p plan.Plan) []int {
	l := append([]int{-1, p.Words, p.Words + 1, 3999, 4000}, far...)
	return slices.DeleteFunc(l, func(a int) bool { return a >= 0 && a < p.Words })
}

// P15.1, R1: a plan whose CURRENT words are none: nobody runs, and Dispatch answers so, as Current does.
func TestCurrentWithoutAWord(t *testing.T) {
	full := of(t, api.Part{Threads: threads(1, 5, 5), Objects: objects()})
	for _, a := range outside(full) {
		for core := range 2 {
			m := plan.Boot(full)
			p := full
			p.Current[core] = a
			want := m.Words()
			if i := current(t, m, p, core); i != none {
				t.Errorf("CURRENT at %d: %d runs", a, i)
			}
			if i := turn(t, m, p, core); i != none {
				t.Errorf("CURRENT at %d: Dispatch: %d", a, i)
			}
			if changed := changes(want, m.Words()); len(changed) > 0 {
				t.Errorf("CURRENT at %d: the words %v are changed", a, changed)
			}
		}
	}
}

// R1: a plan whose IPI words are none: nobody is called, and nothing else is stored.
func TestIPIWithoutAWord(t *testing.T) {
	full := of(t, api.Part{Threads: threads(1, 5, 5), Objects: objects()})
	for _, a := range outside(full) {
		for core := range 2 {
			s := made(t, full, state{[]int{0}, [2]int{1, 2}, nil, [2]bool{}}, true)
			p := full
			p.IPI[1-core] = a
			want := s.m.Words()
			want[p.Current[core]] = 1
			if i := turn(t, s.m, p, core); i != 0 || called(t, s.m, p, 1-core) {
				t.Errorf("an IPI at %d: Dispatch(%d): %d", a, core, i)
			}
			play(t, s.m, func(f *frame.Frame) { dispatch.Clear(f, p, 1-core) })
			if changed := changes(want, s.m.Words()); len(changed) > 0 {
				t.Errorf("an IPI at %d: the words %v are changed", a, changed)
			}
		}
	}
}

// R1: a plan of many threads, and CURRENT words that are no int of 32 bits: who runs is told by its
// number alone.
func TestManyThreads(t *testing.T) {
	p := of(t, api.Part{Threads: threads(5, 5)})
	m := plan.Boot(p)
	at := p.Threads[1]
	p.Threads = make([]int, 1<<12)
	for k := range p.Threads {
		p.Threads[k] = at
	}
	m.Store(p.Current[0], 1<<12)
	m.Store(p.Current[1], 1<<12+1)
	if i := current(t, m, p, 0); i != 1<<12-1 {
		t.Errorf("%d runs on core 0", i)
	}
	if i := current(t, m, p, 1); i != none {
		t.Errorf("%d runs on core 1", i)
	}
}

// R1: memories in which the queue's lists lead nowhere, or without end: Dispatch ends within the accesses
// that it may do, and answers what Current does then.
func TestQueuesThatCallsDoNotLeave(t *testing.T) {
	p := of(t, api.Part{Threads: threads(1, 5, 5)})
	values := []int64{-1, 0, 1, int64(p.Ready), int64(p.Threads[0]), int64(p.Threads[1]), int64(p.Words), math.MaxInt64, math.MinInt64}
	at := []int{p.Ready, p.Ready + 1, p.Ready + 3, p.Ready + 11, p.Threads[0], p.Threads[1], p.Threads[1] + 1, p.Threads[2], p.Current[0], p.Current[1]}
	for _, a := range at {
		for _, v := range values {
			for _, b := range at {
				m := plan.Boot(p)
				m.Store(a, v)
				m.Store(b, int64(p.Threads[2]))
				for core := range 2 {
					if i := turn(t, m, p, core); i != current(t, m, p, core) || i >= 3 {
						t.Errorf("%d is %d, and %d leads to the last one: Dispatch(%d): %d", a, v, b, core, i)
					}
				}
			}
		}
	}
}

// shuffled answers a memory in which each word tells the place of another one.
func shuffled(p plan.Plan) *word.Mem {
	m := word.New(p.Words)
	for a := range p.Words {
		m.Store(a, int64(a*37%p.Words))
	}
	return m
}

// R1: each call ends within the accesses that it may do, and none panics, whatever the plan is, and
// whatever the memory holds.
func TestCallsEnd(t *testing.T) {
	numbers := append([]int{-1, 0, 1, 2, 5, 6, 15, 16, 17, 3999, 4000}, far...)
	full := of(t, api.Part{Threads: threads(1, 5, 5), Objects: objects()})
	strange := map[string]plan.Plan{"the zero plan": {}, "many threads": {Threads: make([]int, 1<<12), Words: 4000}}
	for _, n := range numbers {
		strange[fmt.Sprint("all at ", n)] = plan.Plan{IPI: [2]int{n, n}, Current: [2]int{n, n}, Ready: n, Threads: []int{n, 5, n}, Words: n}
		strange[fmt.Sprint("threads at ", n)] = plan.Plan{Threads: []int{n, 5, n}, Words: 100}
		p := full
		p.Ready = n
		strange[fmt.Sprint("the queue at ", n)] = p
		p = full
		p.Current, p.IPI = [2]int{n, full.Current[1]}, [2]int{full.IPI[0], n}
		strange[fmt.Sprint("CURRENT and IPI at ", n)] = p
		p = full
		p.Words = n
		strange[fmt.Sprint(n, " words")] = p
	}
	for name, p := range strange {
		ends(t, name, func() {
			for _, core := range numbers {
				for _, m := range []*word.Mem{nil, word.New(100), plan.Boot(full), shuffled(full)} {
					callAll(m, p, core)
				}
			}
		})
	}
}

// callAll makes each of the layer's calls of the core, with frames of the memory and with none.
func callAll(m *word.Mem, p plan.Plan, core int) {
	var a answers
	for _, body := range bodies(p, core, &a) {
		if !frame.Run(m, body, most) {
			panic("a call does more accesses than it may")
		}
		body(nil)
	}
}

// ends fails the test, unless the calls end, and none of them panics.
func ends(t *testing.T, name string, calls func()) {
	t.Helper()
	done := make(chan any, 1)
	go func() {
		defer func() { done <- recover() }()
		calls()
	}()
	select {
	case what := <-done:
		if what != nil {
			t.Errorf("%s: a panic: %v", name, what)
		}
	case <-time.After(time.Minute):
		t.Fatalf("%s: it doesn't end", name)
	}
}

// R1: a thread whose node stands where another one's does: Best tells of the first one of them, so that
// the second one doesn't stay.
func TestThreadsAtOnePlace(t *testing.T) {
	p := of(t, api.Part{Threads: threads(5, 5)})
	m := plan.Boot(p)
	p.Threads = []int{p.Threads[0], p.Threads[0]}
	if i := thread.Node(p, 1); i != p.Threads[0] {
		t.Errorf("the node is at %d", i)
	}
	if i := turn(t, m, p, 1); i == 1 {
		t.Errorf("Dispatch(1): %d", i)
	}
}
