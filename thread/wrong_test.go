package thread_test

import (
	"fmt"
	"math"
	"slices"
	"testing"
	"time"

	"septum/api"
	"septum/frame"
	"septum/plan"
	"septum/thread"
	"septum/word"
)

// nothing fails the test, unless Get and Set find no such thread or field in the plan: 0, no access,
// and no word is changed.
func nothing(t *testing.T, name string, p plan.Plan, i, field int) {
	t.Helper()
	m := filled(of(t, api.Part{Threads: threads(1, 2, 3, 4, 5, 6), Objects: objects()}))
	words := m.Words()
	if v, steps := get(t, m, p, i, field); v != 0 || steps != 0 {
		t.Errorf("%s: Get of the field %d of %d: %d, %d accesses", name, field, i, v, steps)
	}
	if steps := set(t, m, p, i, field, 77); steps != 0 || !slices.Equal(m.Words(), words) {
		t.Errorf("%s: Set of the field %d of %d: %d accesses, the words %v are changed", name, field, i, steps, changes(words, m.Words()))
	}
}

// noThread fails the test, unless there is no such thread in the plan, for any of the calls.
func noThread(t *testing.T, name string, p plan.Plan, i int) {
	t.Helper()
	if n, timer := thread.Node(p, i), thread.Timer(p, i); n != -1 || timer != -1 {
		t.Errorf("%s: the thread %d has its node at %d, its timer's node at %d", name, i, n, timer)
	}
	for _, field := range []int{-1, 0, 1, 2, 12, 16, 18, 19} {
		nothing(t, name, p, i, field)
	}
}

// noNode fails the test, unless the address is no thread's node, and no thread's timer's node.
func noNode(t *testing.T, name string, p plan.Plan, a int) {
	t.Helper()
	if i, ok := thread.Of(p, a); i != 0 || ok {
		t.Errorf("%s: Of(%d): %d, %t", name, a, i, ok)
	}
	if i, ok := thread.OfTimer(p, a); i != 0 || ok {
		t.Errorf("%s: OfTimer(%d): %d, %t", name, a, i, ok)
	}
}

// P13.1: threads below 0, as many as there are, and beyond.
func TestNoSuchThread(t *testing.T) {
	for name, p := range plans(t) {
		n := len(p.Threads)
		for _, i := range append([]int{-1, -n, n, n + 1, 2 * n, api.MaxThreads, api.MaxThreads + 1, p.Threads[0], p.Words}, far...) {
			noThread(t, name, p, i)
		}
	}
}

// P13.1: fields below 0, as many as there are, and beyond: also those at which another thread's words
// would be.
func TestNoSuchField(t *testing.T) {
	for name, p := range plans(t) {
		for i := range p.Threads {
			for _, field := range append([]int{-1, -2, -5, -6, -24, 19, 20, 23, 24, 25, 29, 48}, far...) {
				nothing(t, name, p, i, field)
			}
		}
	}
}

// P13.1: nodes that are no thread's: 0 and below, the words beside a node, an object's address, those
// of the kernel's other things, and such as are beyond all.
func TestNoSuchNode(t *testing.T) {
	for name, p := range plans(t) {
		l := append([]int{0, -1, p.Lock, p.IPI[0], p.IPI[1], p.Current[0], p.Current[1], p.Clock, p.Ready, p.Timers, p.Table, p.Words - 1, p.Words}, far...)
		for _, at := range p.Threads {
			l = append(l, at-1, at+1, at+3, at+4, at+5, at+23)
		}
		for _, at := range p.Objects {
			l = append(l, at, at+2, at+4)
		}
		for _, a := range l {
			if !slices.Contains(p.Threads, a) {
				noNode(t, name, p, a)
			}
		}
	}
}

// P13.1: a timer's node is no node to Of, and a node none to OfTimer.
func TestTheOtherNode(t *testing.T) {
	for name, p := range plans(t) {
		for i := range p.Threads {
			if a, ok := thread.Of(p, thread.Timer(p, i)); a != 0 || ok {
				t.Errorf("%s: Of the timer's node of %d: %d, %t", name, i, a, ok)
			}
			if a, ok := thread.OfTimer(p, thread.Node(p, i)); a != 0 || ok {
				t.Errorf("%s: OfTimer of the node of %d: %d, %t", name, i, a, ok)
			}
		}
	}
}

// R1, R4: a plan without addresses of threads has none, whatever else it holds.
func TestPlansWithoutThreads(t *testing.T) {
	full := of(t, api.Part{Threads: threads(1, 2), Objects: objects()})
	nilOne, emptyOne := full, full
	nilOne.Threads, emptyOne.Threads = nil, []int{}
	for name, p := range map[string]plan.Plan{"zero": {}, "a Part alone": {Part: full.Part, Words: full.Words}, "nil": nilOne, "empty": emptyOne} {
		for _, i := range []int{-1, 0, 1, 2, math.MaxInt, math.MinInt} {
			noThread(t, name, p, i)
		}
		for a := -2; a < full.Words+2; a++ {
			noNode(t, name, p, a)
		}
		noNode(t, name, p, math.MaxInt)
		noNode(t, name, p, math.MinInt)
	}
}

// R1: a thread that stands below 0, or so far off that its words would go round, is none: its words
// lead into no other thing's; and the others stand as they stand.
func TestNoAddresses(t *testing.T) {
	for _, at := range []int{-1, -2, -3, -5, -6, -7, -10, -23, -24, -100, math.MinInt, math.MinInt + 1, math.MinInt + 5,
		math.MaxInt, math.MaxInt - 1, math.MaxInt - 2, math.MaxInt - 4, math.MaxInt - 5, math.MaxInt - 22} {
		p := of(t, api.Part{Threads: threads(1, 2, 3)})
		p.Threads[1] = at
		name := fmt.Sprint("a thread at ", at)
		noThread(t, name, p, 1)
		for d := range 24 {
			noNode(t, name, p, at+d)
		}
		noNode(t, name, p, -1)
		if i, ok := thread.Of(p, p.Threads[2]); i != 2 || !ok || thread.Timer(p, 2) != p.Threads[2]+2 {
			t.Errorf("%s: the one behind it is told as %d, %t", name, i, ok)
		}
	}
}

// R1: of a thread beyond the memory each field is 0, and to set it changes nothing.
func TestBeyondTheMemory(t *testing.T) {
	for _, beyond := range []int{0, 1, 24, 4000, 1 << 31, 1 << 40, math.MaxInt - 1000} {
		p := of(t, api.Part{Threads: threads(1, 2)})
		m := filled(p)
		words := m.Words()
		p.Threads[0] = p.Words + beyond
		for field := range thread.Fields {
			set(t, m, p, 0, field, 5)
			if v, _ := get(t, m, p, 0, field); v != 0 || !slices.Equal(m.Words(), words) {
				t.Errorf("%d words beyond the memory: %s is %d", beyond, names[field], v)
			}
		}
	}
}

// R1: two threads at one address have the same words, and their node is told as one of them.
func TestTwoAtOneAddress(t *testing.T) {
	p := of(t, api.Part{Threads: threads(1, 2, 3)})
	p.Threads[2] = p.Threads[1]
	m := plan.Boot(p)
	for field := range thread.Fields {
		set(t, m, p, 1, field, int64(50+field))
		if v, _ := get(t, m, p, 2, field); v != int64(50+field) {
			t.Errorf("%s is %d", names[field], v)
		}
	}
	for range 3 {
		a, ok := thread.Of(p, thread.Node(p, 2))
		b, fine := thread.OfTimer(p, thread.Timer(p, 2))
		if a != 1 || !ok || b != 1 || !fine {
			t.Errorf("told as %d, %t, and %d, %t", a, ok, b, fine)
		}
	}
}

// R1: each call ends, and none panics, whatever the plan, the frame, and the numbers are.
func TestCallsEnd(t *testing.T) {
	numbers := append([]int{-1, 0, 1, 2, 5, 6, 7, 18, 19, 20, 3999, 4000}, far...)
	many := make([]int, 1<<12)
	strange := map[string]plan.Plan{"the zero plan": {}, "many threads": {Threads: many, Words: 4000}}
	for _, n := range numbers {
		strange[fmt.Sprint("threads at ", n)] = plan.Plan{Threads: []int{n, 5, n}, Words: n}
	}
	for name, p := range strange {
		ends(t, name, func() {
			m := word.New(100)
			for _, i := range numbers {
				thread.Node(p, i)
				thread.Timer(p, i)
				thread.Of(p, i)
				thread.OfTimer(p, i)
				for _, field := range numbers {
					thread.Set(nil, p, i, field, 1)
					thread.Get(nil, p, i, field)
					frame.Run(m, func(f *frame.Frame) { thread.Set(f, p, i, field, thread.Get(f, p, i, field)) }, 3)
				}
			}
		})
	}
}

// ends fails the test, unless the calls end, and none of them panics.
func ends(t *testing.T, name string, calls func()) {
	t.Helper()
	done := make(chan any, 1)
	go func() {
		defer func() { done <- recover() }()
		calls()
	}()
	select {
	case what := <-done:
		if what != nil {
			t.Errorf("%s: a panic: %v", name, what)
		}
	case <-time.After(time.Minute):
		t.Fatalf("%s: it doesn't end", name)
	}
}
