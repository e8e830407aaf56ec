package thread_test

import (
	"fmt"
	"maps"
	"math"
	"slices"
	"testing"

	"septum/api"
	"septum/delta"
	"septum/frame"
	"septum/plan"
	"septum/queue"
	"septum/thread"
	"septum/word"
)

// names are the fields, each word by its name, in the chapter's order of the constants.
var names = [19]string{"STATE", "BASE", "PRIO", "OBJECT", "SIDE", "TIMED", "CODE", "COUNT", "A", "B", "HELD", "NEST",
	"DATA 0", "DATA 1", "DATA 2", "DATA 3", "STACK 0", "STACK 1", "STACK 2"}

// far are numbers that are far from all limits; some are within them in their lowest 8, 16 or 32 bits.
var far = []int{math.MaxInt, math.MaxInt - 1, math.MinInt, math.MinInt + 1, 1 << 8, 1<<8 + 1, 1 << 16, 1<<16 + 1,
	1 << 32, 1<<32 + 1, 1 << 62, -1 << 8, -1 << 16, -1 << 32, -1<<32 + 1, -2, -100}

// values are words of each kind: the ends, those about 0, and such as differ in high bits alone.
var values = []int64{0, 1, -1, 255, 256, -256, 1 << 31, 1<<31 - 1, -1 << 31, 1 << 32, 1<<53 + 1, math.MaxInt64, math.MaxInt64 - 1, math.MinInt64, math.MinInt64 + 1}

// threads makes threads of the given priorities.
func threads(priorities ...int) []api.Thread {
	var l []api.Thread
	for _, p := range priorities {
		l = append(l, api.Thread{Priority: p})
	}
	return l
}

// objects makes an object of each kind.
func objects() []api.Object {
	l := make([]api.Object, 8)
	for kind, size := range []int{9, 0, 3, 0, 16, 2, 4, 5} {
		l[kind] = api.Object{Kind: kind, Size: size}
	}
	return l
}

// of answers the plan of a partition with which nothing is wrong.
func of(t *testing.T, part api.Part) plan.Plan {
	t.Helper()
	p, e := plan.Of(part)
	if e != api.OK {
		t.Fatalf("%+v: error %d, want none", part, int(e))
	}
	return p
}

// plans answers plans of one thread and of more, with objects and without.
func plans(t *testing.T) map[string]plan.Plan {
	t.Helper()
	return map[string]plan.Plan{
		"one thread":              of(t, api.Part{Threads: threads(0)}),
		"one thread and objects":  of(t, api.Part{Threads: threads(15), Objects: objects()}),
		"two threads":             of(t, api.Part{Threads: threads(3, 4)}),
		"three threads":           of(t, api.Part{Threads: threads(1, 5, 5), Objects: objects()[3:6]}),
		"six threads":             of(t, api.Part{Threads: threads(9, 2, 15, 2, 0, 7)}),
		"six threads and objects": of(t, api.Part{Threads: threads(14, 14, 14, 1, 2, 3), Objects: objects()}),
		"six threads alike":       of(t, api.Part{Threads: threads(8, 8, 8, 8, 8, 8)}),
	}
}

// one plays a body that is to be done in its first step, and answers how many accesses it did.
func one(t *testing.T, m *word.Mem, body frame.Body) int {
	t.Helper()
	f := frame.New(m)
	if !f.Step(7, body) {
		t.Fatal("a body of one access is not done in one step")
	}
	return f.Steps()
}

// get answers a field, and how many accesses that took.
func get(t *testing.T, m *word.Mem, p plan.Plan, i, field int) (v int64, steps int) {
	t.Helper()
	steps = one(t, m, func(f *frame.Frame) { v = thread.Get(f, p, i, field) })
	return v, steps
}

// set stores a field, and answers how many accesses that took.
func set(t *testing.T, m *word.Mem, p plan.Plan, i, field int, v int64) int {
	t.Helper()
	return one(t, m, func(f *frame.Frame) { thread.Set(f, p, i, field, v) })
}

// fields answers all fields of all threads.
func fields(t *testing.T, m *word.Mem, p plan.Plan) [][19]int64 {
	t.Helper()
	all := make([][19]int64, len(p.Threads))
	for i := range all {
		for field := range all[i] {
			all[i][field], _ = get(t, m, p, i, field)
		}
	}
	return all
}

// filled answers the memory of a plan in which no two words are the same.
func filled(p plan.Plan) *word.Mem {
	m := word.New(p.Words)
	for a := range p.Words {
		m.Store(a, int64(-1000-a))
	}
	return m
}

// changes answers the addresses of the words in which two memories differ.
func changes(before, after []int64) []int {
	var l []int
	for a := range before {
		if before[a] != after[a] {
			l = append(l, a)
		}
	}
	return l
}

// Words: the states, and the fields, in the chapter's order; and what a thread's words come to.
func TestConstants(t *testing.T) {
	states := []int{thread.Ready, thread.Waiting, thread.Suspended, thread.Gone}
	if !slices.Equal(states, []int{0, 1, 2, 3}) {
		t.Errorf("the states are %v", states)
	}
	l := []int{thread.State, thread.Base, thread.Prio, thread.Object, thread.Side, thread.Timed, thread.Code, thread.Count,
		thread.A, thread.B, thread.Held, thread.Nest, thread.Data, thread.Stack, thread.Fields}
	if !slices.Equal(l, []int{0, 1, 2, 3, 4, 5, 6, 7, 8, 9, 10, 11, 12, 16, 19}) {
		t.Errorf("the fields are %v", l)
	}
	if thread.Data+api.MaxChunk != thread.Stack || thread.Stack+api.MaxNest != thread.Fields || thread.Fields != len(names) {
		t.Errorf("DATA from %d on, STACK from %d on, %d in all", thread.Data, thread.Stack, thread.Fields)
	}
	if 2+3+thread.Fields != plan.ThreadWords {
		t.Errorf("both nodes and %d fields, of %d words", thread.Fields, plan.ThreadWords)
	}
}

// P13.1: Node and Timer of each thread: the first words at its address, and those behind the node.
func TestNodeAndTimer(t *testing.T) {
	for name, p := range plans(t) {
		for i, at := range p.Threads {
			if n, timer := thread.Node(p, i), thread.Timer(p, i); n != at || timer != at+2 {
				t.Errorf("%s: the thread %d at %d has its node at %d, its timer's node at %d", name, i, at, n, timer)
			}
		}
	}
}

// P13.1: each thread is told by its own node, and by its own timer's node, and by no other address.
func TestOfEachAddress(t *testing.T) {
	for name, p := range plans(t) {
		nodes, timers := map[int]int{}, map[int]int{}
		for i, at := range p.Threads {
			nodes[at], timers[at+2] = i, i
		}
		for a := -30; a < p.Words+30; a++ {
			told(t, name+", Of", thread.Of, p, a, nodes)
			told(t, name+", OfTimer", thread.OfTimer, p, a, timers)
		}
		for _, a := range far {
			told(t, name+", Of", thread.Of, p, a, nodes)
			told(t, name+", OfTimer", thread.OfTimer, p, a, timers)
		}
	}
}

// told fails the test, unless call answers for the address a the thread that owners has there.
func told(t *testing.T, name string, call func(plan.Plan, int) (int, bool), p plan.Plan, a int, owners map[int]int) {
	t.Helper()
	want, there := owners[a]
	if i, ok := call(p, a); i != want || ok != there {
		t.Errorf("%s: %d is told as %d, %t, want %d, %t", name, a, i, ok, want, there)
	}
}

// P13.1: the chapter's example; and that Of and Node lead back to one another for each thread.
func TestThereAndBack(t *testing.T) {
	for name, p := range plans(t) {
		for i := range p.Threads {
			a, ok := thread.Of(p, thread.Node(p, i))
			b, fine := thread.OfTimer(p, thread.Timer(p, i))
			if a != i || !ok || b != i || !fine {
				t.Errorf("%s: %d is told as %d, %t, and %d, %t", name, i, a, ok, b, fine)
			}
		}
	}
	p := of(t, api.Part{Threads: threads(1, 5, 5)})
	if i, ok := thread.Of(p, thread.Node(p, 2)); i != 2 || !ok {
		t.Errorf("the example: %d, %t", i, ok)
	}
}

// P13.1, P12.2: the nodes are those that stand in the queue of those that are ready; the timers'
// nodes such as may stand in the list of timers.
func TestNodesInLists(t *testing.T) {
	p := of(t, api.Part{Threads: threads(1, 5, 5, 0), Objects: objects()})
	m := plan.Boot(p)
	var ready []int
	frame.Run(m, func(f *frame.Frame) {
		ready = nil
		for n, priority, ok := queue.First(f, p.Ready); ok; n, priority, ok = queue.After(f, p.Ready, n, priority) {
			i, _ := thread.Of(p, n)
			ready = append(ready, i)
		}
	}, 60)
	if !slices.Equal(ready, []int{1, 2, 0, 3}) {
		t.Errorf("%v are ready", ready)
	}
	before := fields(t, m, p)
	var due []int
	for i := range p.Threads {
		frame.Run(m, func(f *frame.Frame) { delta.Insert(f, p.Timers, thread.Timer(p, i), int64(len(p.Threads)-i)) }, 60)
	}
	for range p.Threads {
		var n int
		frame.Run(m, func(f *frame.Frame) {
			delta.Tick(f, p.Timers)
			n, _ = delta.Due(f, p.Timers)
		}, 60)
		i, _ := thread.OfTimer(p, n)
		due = append(due, i)
	}
	if !slices.Equal(due, []int{3, 2, 1, 0}) {
		t.Errorf("%v were due", due)
	}
	if after := fields(t, m, p); !slices.Equal(after, before) {
		t.Errorf("the fields were %v, and are %v", before, after)
	}
}

// P12.2: each field of each thread behind Boot: it is ready, with its priority, and has nothing.
func TestFieldsBehindBoot(t *testing.T) {
	for name, p := range plans(t) {
		m := plan.Boot(p)
		words := m.Words()
		for i, got := range fields(t, m, p) {
			priority := int64(p.Part.Threads[i].Priority)
			if want := [19]int64{thread.Base: priority, thread.Prio: priority}; got != want {
				t.Errorf("%s: the thread %d has %v, want %v", name, i, got, want)
			}
		}
		if !slices.Equal(m.Words(), words) {
			t.Errorf("%s: Get changed the words", name)
		}
	}
}

// P12.2: each priority, of each thread.
func TestPrioritiesBehindBoot(t *testing.T) {
	for i := range api.MaxThreads {
		for priority := range api.Levels {
			part := api.Part{Threads: threads(3, 9, 0, 15, 3, 8)}
			part.Threads[i].Priority = priority
			p := of(t, part)
			m := plan.Boot(p)
			state, _ := get(t, m, p, i, thread.State)
			base, _ := get(t, m, p, i, thread.Base)
			prio, _ := get(t, m, p, i, thread.Prio)
			if state != thread.Ready || base != int64(priority) || prio != int64(priority) {
				t.Errorf("the thread %d of %d has the state %d, and %d and %d", i, priority, state, base, prio)
			}
		}
	}
}

// R2: one call has one answer, however often it is asked, and whatever was asked between.
func TestOneAnswer(t *testing.T) {
	answers := func() string {
		var l []string
		for _, name := range slices.Sorted(maps.Keys(plans(t))) {
			p := plans(t)[name]
			m := filled(p)
			for i := -1; i <= len(p.Threads); i++ {
				a, ok := thread.Of(p, thread.Node(p, i))
				b, fine := thread.OfTimer(p, thread.Timer(p, i))
				v, steps := get(t, m, p, i, thread.Data)
				l = append(l, fmt.Sprint(name, i, thread.Node(p, i), thread.Timer(p, i), a, ok, b, fine, v, steps))
			}
		}
		return fmt.Sprint(l)
	}
	first := answers()
	for range 3 {
		if again := answers(); again != first {
			t.Errorf("%s, and then %s", first, again)
		}
	}
}
