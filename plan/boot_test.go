package plan_test

import (
	"fmt"
	"slices"
	"testing"

	"septum/api"
	"septum/block"
	"septum/delta"
	"septum/frame"
	"septum/list"
	"septum/plan"
	"septum/queue"
	"septum/seq"
	"septum/table"
	"septum/ticket"
	"septum/word"
)

// inOrder answers the threads of a partition in the order in which they are to run: by priority, the
// greatest first, and of one priority by their numbers.
func inOrder(part api.Part) []int {
	var l []int
	for priority := 15; priority >= 0; priority-- {
		for i, th := range part.Threads {
			if th.Priority == priority {
				l = append(l, i)
			}
		}
	}
	return l
}

// closed notes the words of a list's head, and of the nodes behind it: a ring.
func closed(want map[int]int64, ring ...int) {
	n := len(ring)
	for i, at := range ring {
		want[at] = int64(ring[(i+1)%n])
		want[at+1] = int64(ring[(i+n-1)%n])
	}
}

// known answers, by their addresses, all words of which the chapters say what they hold at the
// beginning.
func known(p plan.Plan) map[int]int64 {
	want := map[int]int64{p.Lock: 0, p.Lock + 1: 0, p.IPI[0]: 0, p.IPI[1]: 0, p.Clock: 0, p.Clock + 1: 0, p.Ready: 0}
	order := append(inOrder(p.Part), -1)
	for core, at := range p.Current {
		want[at] = int64(order[core] + 1)
	}
	for priority := range 16 {
		ring := []int{p.Ready + 1 + 2*priority}
		for i, th := range p.Part.Threads {
			if th.Priority == priority {
				ring = append(ring, p.Threads[i])
				want[p.Ready] |= 1 << priority
			}
		}
		closed(want, ring...)
	}
	closed(want, p.Timers)
	for i, at := range p.Objects {
		want[p.Table+i] = 0
		closed(want, at)
		closed(want, at+2)
	}
	return want
}

// freeBlocks answers the words of a set of n blocks that are all free, 0 first.
func freeBlocks(n int) []int64 {
	var l []int64
	for i := range n {
		l = append(l, int64(i+1))
	}
	return append(l, 0)
}

// threadWords fails the test, unless the words behind a thread's node are as at the beginning: its
// timer's node stands in no list; two of its fields, wherever they are, hold its priority, and all
// others 0, which is the state of one that is ready.
func threadWords(t *testing.T, at int, l []int64, priority int) {
	t.Helper()
	alone := []int64{int64(at) + 2, int64(at) + 2, 0}
	if timer := l[2:5]; !slices.Equal(timer, alone) && !slices.Equal(timer, []int64{0, 0, 0}) {
		t.Errorf("the thread at %d: the timer's node holds %v", at, timer)
	}
	fields := slices.Sorted(slices.Values(l[5:24]))
	want := append(make([]int64, 17), int64(priority), int64(priority))
	if !slices.Equal(fields, want) {
		t.Errorf("the thread at %d: the fields hold %v, want %v in any order", at, fields, want)
	}
}

// objectWords fails the test, unless the 20 words behind an object's lists are as at the beginning:
// all are 0, but that a pool's blocks are free, wherever their words are.
func objectWords(t *testing.T, at int, l []int64, o api.Object) {
	t.Helper()
	want := make([]int64, 20)
	if first := blocksAt(l, o); first >= 0 {
		copy(want[first:], freeBlocks(o.Size))
	}
	if !slices.Equal(l[4:24], want) {
		t.Errorf("the object at %d: %v, want %v", at, l[4:24], want)
	}
	if o.Kind == pool && slices.Max(want) != int64(o.Size) {
		t.Errorf("the object at %d: %v, want %d free blocks", at, l[4:24], o.Size)
	}
}

// blocksAt answers where, among the words behind a pool's lists, its set of free blocks begins: -1,
// if it has none.
func blocksAt(l []int64, o api.Object) int {
	first := slices.IndexFunc(l[4:24], func(v int64) bool { return v != 0 })
	if o.Kind != pool || first < 0 || first+o.Size+1 > 20 {
		return -1
	}
	return first
}

// asAtFirst fails the test, unless each word of the memory's things is as at the beginning.
func asAtFirst(t *testing.T, p plan.Plan, m *word.Mem) {
	t.Helper()
	l := m.Words()
	if len(l) != p.Words || m.Len() != p.Words {
		t.Fatalf("%d words, want %d", len(l), p.Words)
	}
	for a, v := range known(p) {
		if l[a] != v {
			t.Errorf("%+v: the word %d is %d, want %d", p, a, l[a], v)
		}
	}
	for i, at := range p.Threads {
		threadWords(t, at, l[at:at+24], p.Part.Threads[i].Priority)
	}
	for i, at := range p.Objects {
		objectWords(t, at, l[at:at+24], p.Part.Objects[i])
	}
}

// P12.2: every word of the memory, of ordinary partitions, and of the greatest.
func TestWords(t *testing.T) {
	for name, part := range rights() {
		t.Run(name, func(t *testing.T) {
			p := of(t, part)
			asAtFirst(t, p, plan.Boot(p))
		})
	}
}

// P12.2: each number of threads, of priorities that are alike and different, in each order.
func TestOrders(t *testing.T) {
	priorities := []int{0, 8, 15}
	for n := 1; n <= 6; n++ {
		l := make([]int, n)
		for more := true; more; more = count(l, len(priorities)) {
			part := api.Part{Threads: make([]api.Thread, n)}
			for i := range l {
				part.Threads[i].Priority = priorities[l[i]]
			}
			p := of(t, part)
			asAtFirst(t, p, plan.Boot(p))
		}
	}
}

// count makes l the next list of numbers below n, and tells whether there is one.
func count(l []int, n int) bool {
	for i := range l {
		if l[i]++; l[i] < n {
			return true
		}
		l[i] = 0
	}
	return false
}

// P12.2: any three priorities.
func TestAnyPriorities(t *testing.T) {
	l := make([]int, 3)
	for more := true; more; more = count(l, 16) {
		p := of(t, api.Part{Threads: threads(l...)})
		asAtFirst(t, p, plan.Boot(p))
	}
}

// P12.2: pools of each size, as each object, and with other ones.
func TestPools(t *testing.T) {
	for n := 1; n <= 16; n++ {
		for place := range 8 {
			for end := range 2 {
				part := api.Part{Threads: threads(3, 9, 3), Objects: kinds(end)}
				part.Objects[place] = api.Object{Kind: pool, Size: n, Priority: n%2 == 0}
				p := of(t, part)
				asAtFirst(t, p, plan.Boot(p))
			}
		}
	}
}

// P12.2: each number of threads with each number of objects, of each kind.
func TestNumbersOfThings(t *testing.T) {
	for n := 1; n <= 6; n++ {
		for k := range 9 {
			for kind := range 8 {
				part := api.Part{Threads: threads(2, 15, 2, 0, 7, 15)[:n]}
				for range k {
					part.Objects = append(part.Objects, api.Object{Kind: kind, Size: sizes[kind][1], Priority: waits[kind]})
				}
				p := of(t, part)
				asAtFirst(t, p, plan.Boot(p))
			}
		}
	}
}

// P12.2: who runs on which core.
func TestWhoRuns(t *testing.T) {
	for _, c := range []struct {
		priorities []int
		runs       [2]int64
	}{
		{[]int{1, 5, 5}, [2]int64{2, 3}}, {[]int{0}, [2]int64{1, 0}}, {[]int{15}, [2]int64{1, 0}},
		{[]int{4, 4}, [2]int64{1, 2}}, {[]int{4, 5}, [2]int64{2, 1}}, {[]int{0, 0, 0}, [2]int64{1, 2}},
		{[]int{3, 9, 3}, [2]int64{2, 1}}, {[]int{0, 1, 2, 3, 4, 15}, [2]int64{6, 5}}, {[]int{2, 2, 2, 2, 2, 2}, [2]int64{1, 2}},
	} {
		p := of(t, api.Part{Threads: threads(c.priorities...)})
		l := plan.Boot(p).Words()
		if runs := [2]int64{l[p.Current[0]], l[p.Current[1]]}; runs != c.runs {
			t.Errorf("%v: %v, want %v", c.priorities, runs, c.runs)
		}
	}
}

// done plays a body to its end.
func done(t *testing.T, m *word.Mem, body frame.Body) {
	t.Helper()
	if !frame.Run(m, body, 200) {
		t.Fatal("the body is not done")
	}
}

// P12.2: by the calls of the layers: those that are ready, in the queue's order.
func TestReadyByCalls(t *testing.T) {
	for name, part := range rights() {
		p := of(t, part)
		var got, want []int
		done(t, plan.Boot(p), func(f *frame.Frame) {
			got = nil
			for n, priority, ok := queue.First(f, p.Ready); ok; n, priority, ok = queue.After(f, p.Ready, n, priority) {
				got = append(got, slices.Index(p.Threads, n), priority)
			}
		})
		for _, i := range inOrder(part) {
			want = append(want, i, part.Threads[i].Priority)
		}
		if !slices.Equal(got, want) {
			t.Errorf("%s: threads and priorities %v, want %v", name, got, want)
		}
	}
}

// P12.2: nobody waits, no timer is due or to be due, and threads may have timers.
func TestListsByCalls(t *testing.T) {
	for name, part := range rights() {
		p := of(t, part)
		m := plan.Boot(p)
		done(t, m, func(f *frame.Frame) {
			if !list.Empty(f, p.Timers) && !f.Off() {
				t.Errorf("%s: there are timers", name)
			}
			for i, at := range p.Objects {
				for side := range 2 {
					if !list.Empty(f, at+2*side) && !f.Off() {
						t.Errorf("%s: who waits for the object %d on the side %d?", name, i, side)
					}
				}
			}
		})
		for i, at := range p.Threads {
			done(t, m, func(f *frame.Frame) { delta.Insert(f, p.Timers, at+2, int64(len(p.Threads)-i)) })
		}
		for i := len(p.Threads) - 1; i >= 0; i-- {
			var n int
			var ok bool
			done(t, m, func(f *frame.Frame) {
				delta.Tick(f, p.Timers)
				n, ok = delta.Due(f, p.Timers)
			})
			if n != p.Threads[i]+2 || !ok {
				t.Errorf("%s: %d, %t, want the timer at %d", name, n, ok, p.Threads[i]+2)
			}
		}
	}
}

// P12.2: nobody has the lock, the clock stands at 0, and the handles are the first ones.
func TestKernelByCalls(t *testing.T) {
	for name, part := range rights() {
		p := of(t, part)
		m := plan.Boot(p)
		var drawn int64
		var served bool
		var clock, handles []int64
		done(t, m, func(f *frame.Frame) {
			clock = seq.Read(f, p.Clock, 1)
			drawn = ticket.Draw(f, p.Lock)
			served = ticket.Served(f, p.Lock, drawn)
			handles = nil
			for i := range p.Objects {
				h, _ := table.Handle(f, p.Table, len(p.Objects), i)
				handles = append(handles, h)
			}
		})
		if drawn != 0 || !served {
			t.Errorf("%s: the ticket %d, %t", name, drawn, served)
		}
		if !slices.Equal(clock, []int64{0}) {
			t.Errorf("%s: the clock stands at %v", name, clock)
		}
		if want := []int64{0, 1, 2, 3, 4, 5, 6, 7}[:len(p.Objects)]; !slices.Equal(handles, want) {
			t.Errorf("%s: handles %v", name, handles)
		}
	}
}

// P12.2: all of a pool's blocks can be taken, 0 first, and no more.
func TestPoolsByCalls(t *testing.T) {
	for name, part := range rights() {
		p := of(t, part)
		m := plan.Boot(p)
		for i, o := range part.Objects {
			if o.Kind != pool {
				continue
			}
			at := p.Objects[i]
			first := at + 4 + blocksAt(m.Words()[at:at+24], o)
			var got []string
			for range o.Size + 1 {
				var n int
				var ok, free bool
				done(t, m, func(f *frame.Frame) {
					free = block.Free(f, first, o.Size, len(got))
					n, ok = block.Take(f, first, o.Size)
				})
				got = append(got, fmt.Sprint(n, ok, free))
			}
			var want []string
			for n := range o.Size {
				want = append(want, fmt.Sprint(n, true, true))
			}
			if want = append(want, fmt.Sprint(0, false, false)); !slices.Equal(got, want) {
				t.Errorf("%s: the pool %d: %v", name, i, got)
			}
		}
	}
}

// R2: one plan has one memory, however often it is asked, and whatever was done to those that it
// answered.
func TestOneMemory(t *testing.T) {
	for name, part := range rights() {
		p := of(t, part)
		first := plan.Boot(p)
		words := first.Words()
		for n := range 3 {
			for a := range p.Words {
				first.Store(a, int64(-7-n))
			}
			again := plan.Boot(p)
			if !slices.Equal(again.Words(), words) {
				t.Errorf("%s: %v, want %v", name, again.Words(), words)
			}
			if other := plan.Boot(of(t, part)); !slices.Equal(other.Words(), words) {
				t.Errorf("%s: %v, want %v", name, other.Words(), words)
			}
			first = again
		}
	}
}
