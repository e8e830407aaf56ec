package wait_test

import (
	"fmt"
	"slices"
	"testing"

	"septum/api"
	"septum/frame"
	"septum/list"
	"septum/plan"
	"septum/ready"
	"septum/thread"
	"septum/wait"
	"septum/word"
)

// most is how many accesses a call of this layer may do.
const most = 300

// threads makes threads of the given priorities.
func threads(priorities ...int) []api.Thread {
	var l []api.Thread
	for _, p := range priorities {
		l = append(l, api.Thread{Priority: p})
	}
	return l
}

// objects makes an object of each kind; those whose lists may be ordered by priority are, if asked so.
func objects(priority bool) []api.Object {
	l := make([]api.Object, 8)
	for kind, size := range []int{9, 0, 3, 0, 16, 2, 4, 5} {
		l[kind] = api.Object{Kind: kind, Size: size, Priority: priority && kind >= 2 && kind <= 5}
	}
	return l
}

// both makes two mailboxes: one whose lists stand as threads came, and one whose lists are ordered.
func both() []api.Object {
	return []api.Object{{Kind: 2, Size: 1}, {Kind: 2, Size: 1, Priority: true}}
}

// of answers the plan of a partition with which nothing is wrong.
func of(t *testing.T, part api.Part) plan.Plan {
	t.Helper()
	p, e := plan.Of(part)
	if e != api.OK {
		t.Fatalf("%+v: error %d, want none", part, int(e))
	}
	return p
}

// plans answers plans of one thread and of more, with priorities that are alike and that are not, and
// with objects whose Priority is set and not.
func plans(t *testing.T) map[string]plan.Plan {
	t.Helper()
	return map[string]plan.Plan{
		"one thread of 0":       of(t, api.Part{Threads: threads(0), Objects: both()}),
		"one thread of 15":      of(t, api.Part{Threads: threads(15), Objects: objects(true)}),
		"two threads":           of(t, api.Part{Threads: threads(0, 15), Objects: objects(false)}),
		"two threads alike":     of(t, api.Part{Threads: threads(4, 4), Objects: both()}),
		"the example's":         of(t, api.Part{Threads: threads(1, 5, 5), Objects: both()}),
		"no objects":            of(t, api.Part{Threads: threads(3, 5, 7)}),
		"three alike, and one":  of(t, api.Part{Threads: threads(7, 7, 3, 7), Objects: objects(true)[2:6]}),
		"six threads":           of(t, api.Part{Threads: threads(9, 2, 15, 2, 0, 7), Objects: both()}),
		"six threads alike":     of(t, api.Part{Threads: threads(8, 8, 8, 8, 8, 8), Objects: objects(true)}),
		"three and three alike": of(t, api.Part{Threads: threads(0, 15, 0, 15, 0, 15), Objects: both()[1:]}),
		"threads ahead of all":  turned(t),
		"objects ahead of all":  objectsAhead(t),
		"timers ahead of all":   timersAhead(t),
	}
}

// moved answers the plan with each thing so many words further on.
func moved(p plan.Plan, by int) plan.Plan {
	move := func(at int) int { return at + by }
	p.Lock, p.Clock, p.Ready, p.Timers, p.Table = move(p.Lock), move(p.Clock), move(p.Ready), move(p.Timers), move(p.Table)
	for core := range 2 {
		p.IPI[core], p.Current[core] = move(p.IPI[core]), move(p.Current[core])
	}
	for i := range p.Threads {
		p.Threads[i] = move(p.Threads[i])
	}
	for o := range p.Objects {
		p.Objects[o] = move(p.Objects[o])
	}
	p.Words = move(p.Words)
	return p
}

// turned answers a plan as Of might make it: the threads stand ahead of all, the timers behind all.
func turned(t *testing.T) plan.Plan {
	t.Helper()
	p := of(t, api.Part{Threads: threads(3, 5, 3), Objects: both()})
	p = moved(p, len(p.Threads)*plan.ThreadWords)
	for i := range p.Threads {
		p.Threads[i] = i * plan.ThreadWords
	}
	p.Timers = p.Words
	p.Words += list.Words
	return p
}

// objectsAhead answers a plan as Of might make it: the objects stand ahead of all.
func objectsAhead(t *testing.T) plan.Plan {
	t.Helper()
	p := of(t, api.Part{Threads: threads(3, 5, 3), Objects: both()})
	p = moved(p, len(p.Objects)*plan.ObjectWords)
	for o := range p.Objects {
		p.Objects[o] = o * plan.ObjectWords
	}
	return p
}

// timersAhead answers a plan as Of might make it: the timers stand ahead of all.
func timersAhead(t *testing.T) plan.Plan {
	t.Helper()
	p := moved(of(t, api.Part{Threads: threads(3, 5, 3), Objects: both()}), list.Words)
	p.Timers = 0
	return p
}

// play plays a body till it is done, which is to be within the accesses of one call, and answers how
// many it did.
func play(t *testing.T, m *word.Mem, body frame.Body) int {
	t.Helper()
	f := frame.New(m)
	for now := range most {
		if f.Step(now, body) {
			return f.Steps()
		}
	}
	t.Fatalf("a call isn't done with %d accesses", most)
	return 0
}

// get answers a field of a thread.
func get(t *testing.T, m *word.Mem, p plan.Plan, i, field int) int64 {
	t.Helper()
	var v int64
	play(t, m, func(f *frame.Frame) { v = thread.Get(f, p, i, field) })
	return v
}

// set makes v a field of a thread.
func set(t *testing.T, m *word.Mem, p plan.Plan, i, field int, v int64) {
	t.Helper()
	play(t, m, func(f *frame.Frame) { thread.Set(f, p, i, field, v) })
}

// none stands for the thread of an answer that tells of none.
const none = -1

// told answers the thread of an answer, or none; beside false it is to be 0.
func told(t *testing.T, i int, ok bool) int {
	t.Helper()
	if ok {
		return i
	}
	if i != 0 {
		t.Errorf("%d, false; want 0, false", i)
	}
	return none
}

// first answers what First says of a list.
func first(t *testing.T, m *word.Mem, p plan.Plan, o, side int) int {
	t.Helper()
	var i int
	var ok bool
	play(t, m, func(f *frame.Frame) { i, ok = wait.First(f, p, o, side) })
	return told(t, i, ok)
}

// next answers what Next says of a list and a thread.
func next(t *testing.T, m *word.Mem, p plan.Plan, o, side, i int) int {
	t.Helper()
	var j int
	var ok bool
	play(t, m, func(f *frame.Frame) { j, ok = wait.Next(f, p, o, side, i) })
	return told(t, j, ok)
}

// waiting answers the threads of a list, in order.
func waiting(t *testing.T, m *word.Mem, p plan.Plan, o, side int) []int {
	t.Helper()
	var l []int
	for i := first(t, m, p, o, side); i != none; i = next(t, m, p, o, side, i) {
		l = append(l, i)
		if len(l) > len(p.Threads) {
			t.Fatalf("the list of the object %d and the side %d is too long: %v", o, side, l)
		}
	}
	return l
}

// best answers all threads that are ready, in order.
func best(t *testing.T, m *word.Mem, p plan.Plan) []int {
	t.Helper()
	var l []int
	play(t, m, func(f *frame.Frame) { l = ready.Best(f, p, api.MaxThreads, nil) })
	return l
}

// may answers what May says of a thread.
func may(t *testing.T, m *word.Mem, p plan.Plan, i int) bool {
	t.Helper()
	var ok bool
	play(t, m, func(f *frame.Frame) { ok = wait.May(f, p, i) })
	return ok
}

// changes answers the addresses of the words in which two memories differ.
func changes(before, after []int64) []int {
	var l []int
	for a := range before {
		if before[a] != after[a] {
			l = append(l, a)
		}
	}
	return l
}

// ring stores nodes that stand in a ring, each one ahead of the next.
func ring(m *word.Mem, nodes ...int) {
	for k, n := range nodes {
		next := nodes[(k+1)%len(nodes)]
		m.Store(n, int64(next))
		m.Store(next+1, int64(n))
	}
}

// The chapter's example.
func TestExample(t *testing.T) {
	for name, p := range plans(t) {
		if len(p.Objects) == 0 {
			continue
		}
		for i := range p.Threads {
			m := plan.Boot(p)
			var first, second, third int
			var ok, again, late bool
			play(t, m, func(f *frame.Frame) {
				wait.Wait(f, p, i, 0, 0, 2)
				wait.Tick(f, p)
				first, ok = wait.Expire(f, p)
				wait.Tick(f, p)
				second, again = wait.Expire(f, p)
				third, late = wait.Expire(f, p)
			})
			if first != 0 || ok || second != i || !again || third != 0 || late {
				t.Errorf("%s: %d, %t, then %d, %t, then %d, %t", name, first, ok, second, again, third, late)
			}
			if v := get(t, m, p, i, thread.Code); v != int64(api.ErrTime) {
				t.Errorf("%s: %d is answered %d", name, i, v)
			}
		}
	}
}

// P16.1: Side: an object's first list stands at the object's address, its second one behind it.
func TestSide(t *testing.T) {
	for name, p := range plans(t) {
		for o, at := range p.Objects {
			for side := range 2 {
				if got := wait.Side(p, o, side); got != at+side*list.Words {
					t.Errorf("%s: Side(%d, %d): %d, want %d", name, o, side, got, at+side*list.Words)
				}
			}
		}
	}
}

// P16.1: the heads that Side tells stand alone at first, and share no words.
func TestSidesAreEmptyAtFirst(t *testing.T) {
	for name, p := range plans(t) {
		m := plan.Boot(p)
		taken := map[int]bool{}
		for o := range p.Objects {
			for side := range 2 {
				head := wait.Side(p, o, side)
				var empty bool
				play(t, m, func(f *frame.Frame) { empty = list.Empty(f, head) })
				if !empty || taken[head] || taken[head+1] || first(t, m, p, o, side) != none {
					t.Errorf("%s: the head of (%d, %d) at %d is wrong", name, o, side, head)
				}
				taken[head], taken[head+1] = true, true
			}
		}
	}
}

// P16.1: May: HELD and NEST are 0, neither, or one of them; and it changes nothing.
func TestMay(t *testing.T) {
	values := []int64{0, 1, 2, 3, -1, 1 << 32, -1 << 63}
	for name, p := range plans(t) {
		for i := range p.Threads {
			for _, held := range values {
				for _, nest := range values {
					m := plan.Boot(p)
					set(t, m, p, i, thread.Held, held)
					set(t, m, p, i, thread.Nest, nest)
					words := m.Words()
					for j := range p.Threads {
						want := j != i || held == 0 && nest == 0
						if got := may(t, m, p, j); got != want {
							t.Errorf("%s: HELD %d and NEST %d of %d: May(%d): %t", name, held, nest, i, j, got)
						}
					}
					if changed := changes(words, m.Words()); len(changed) > 0 {
						t.Errorf("%s: May changed the words %v", name, changed)
					}
				}
			}
		}
	}
}

// P16.1: May of a thread doesn't depend on its state, nor on anything else that it is.
func TestMayOfEveryState(t *testing.T) {
	p := of(t, api.Part{Threads: threads(1, 5, 5), Objects: both()})
	for field := range thread.Fields {
		m := plan.Boot(p)
		set(t, m, p, 1, field, 1)
		want := field != thread.Held && field != thread.Nest
		if got := may(t, m, p, 1); got != want {
			t.Errorf("the field %d is 1: May: %t", field, got)
		}
	}
}

// P16.1: a Wait of each thread of Boot's memory, for each side of each object, with ticks and without.
func TestWait(t *testing.T) {
	for name, p := range plans(t) {
		for i := range p.Threads {
			for o := range p.Objects {
				for side := range 2 {
					for _, ticks := range []int{-1, 0, 1, 2, 1000} {
						s := begin(name, p)
						s.Wait(t, i, o, side, ticks)
						if got := waiting(t, s.m, p, o, side); !slices.Equal(got, []int{i}) {
							t.Errorf("%s: %v wait, want %d", name, got, i)
						}
						if v := get(t, s.m, p, i, thread.State); v != thread.Waiting {
							t.Errorf("%s: the state of %d is %d", name, i, v)
						}
						if slices.Contains(best(t, s.m, p), i) {
							t.Errorf("%s: %d is ready", name, i)
						}
					}
				}
			}
		}
	}
}

// P16.1: a Sleep of each thread of Boot's memory, with ticks and without.
func TestSleep(t *testing.T) {
	for name, p := range plans(t) {
		for i := range p.Threads {
			for _, ticks := range []int{-1, 0, 1, 2, 1000} {
				s := begin(name, p)
				s.Sleep(t, i, ticks)
				for o := range p.Objects {
					for side := range 2 {
						if got := waiting(t, s.m, p, o, side); len(got) > 0 {
							t.Errorf("%s: %v wait", name, got)
						}
					}
				}
				if get(t, s.m, p, i, thread.State) != thread.Waiting || get(t, s.m, p, i, thread.Object) != 0 {
					t.Errorf("%s: %d doesn't sleep", name, i)
				}
			}
		}
	}
}

// P16.1: the fields of one that waits, and of one that sleeps, spelled out in whole.
func TestFieldsInWhole(t *testing.T) {
	p := of(t, api.Part{Threads: threads(1, 5, 5), Objects: both()})
	for _, c := range []struct {
		body                       frame.Body
		state, object, side, timed int64
	}{
		{func(f *frame.Frame) {}, 0, 0, 0, 0},
		{func(f *frame.Frame) { wait.Wait(f, p, 1, 0, 0, 0) }, 1, 1, 0, 0},
		{func(f *frame.Frame) { wait.Wait(f, p, 1, 1, 0, 3) }, 1, 2, 0, 1},
		{func(f *frame.Frame) { wait.Wait(f, p, 1, 0, 1, -1) }, 1, 1, 1, 0},
		{func(f *frame.Frame) { wait.Wait(f, p, 1, 1, 1, 1) }, 1, 2, 1, 1},
		{func(f *frame.Frame) { wait.Sleep(f, p, 1, 0) }, 1, 0, 0, 0},
		{func(f *frame.Frame) { wait.Sleep(f, p, 1, 7) }, 1, 0, 0, 1},
		{func(f *frame.Frame) { wait.Sleep(f, p, 1, 7); wait.Wake(f, p, 1, 0, 0, nil) }, 0, 0, 0, 0},
		{func(f *frame.Frame) { wait.Wait(f, p, 1, 1, 1, 7); wait.Wake(f, p, 1, 0, 0, nil) }, 0, 0, 0, 0},
	} {
		m := plan.Boot(p)
		play(t, m, c.body)
		got := [4]int64{get(t, m, p, 1, thread.State), get(t, m, p, 1, thread.Object), get(t, m, p, 1, thread.Side), get(t, m, p, 1, thread.Timed)}
		if want := [4]int64{c.state, c.object, c.side, c.timed}; got != want {
			t.Errorf("STATE, OBJECT, SIDE and TIMED are %v, want %v", got, want)
		}
	}
}

// datas are what a Wake may hand over: no words, some, as many as there is room for, and more.
func datas() [][]int64 {
	return [][]int64{nil, {}, {7}, {0, -1}, {1 << 62, 5, 6}, {1, 2, 3, 4}, {-1 << 63, 0, 0, 1<<63 - 1, 9}, make([]int64, 4), make([]int64, 1000)}
}

// P16.1: a Wake of one that waits, and of one that sleeps, with each code, counts and data of all kinds:
// CODE, COUNT and DATA are as given, the other words of DATA as they were.
func TestWake(t *testing.T) {
	for name, p := range plans(t) {
		for i := range p.Threads {
			for code := api.OK; code <= api.ErrForm; code++ {
				for k, data := range datas() {
					s := begin(fmt.Sprint(name, ", ", code, ", ", k), p)
					for d := range api.MaxChunk {
						s.Data(t, i, d, int64(100+d))
					}
					if len(p.Objects) == 0 || k%3 == 0 {
						s.Sleep(t, i, k%2)
					} else {
						s.Wait(t, i, k%len(p.Objects), k%2, k%4)
					}
					s.Wake(t, i, code, k*int(code)-3, data)
				}
			}
		}
	}
}

// P16.1: what a Wake leaves, spelled out in whole.
func TestWakeInWhole(t *testing.T) {
	p := of(t, api.Part{Threads: threads(1, 5, 5), Objects: both()})
	for _, c := range []struct {
		code  api.Errno
		count int
		data  []int64
		want  []int64
	}{
		{api.OK, 0, nil, []int64{0, 0, 11, 12, 13, 14}},
		{api.ErrTime, 1, []int64{}, []int64{13, 1, 11, 12, 13, 14}},
		{api.ErrGone, -5, []int64{7}, []int64{14, -5, 7, 12, 13, 14}},
		{api.OK, 2, []int64{0, 8}, []int64{0, 2, 0, 8, 13, 14}},
		{api.Errno(-9), 1 << 40, []int64{1, 2, 3}, []int64{-9, 1 << 40, 1, 2, 3, 14}},
		{api.Errno(99), 4, []int64{1, 2, 3, 4}, []int64{99, 4, 1, 2, 3, 4}},
		{api.Errno(1<<40 + 3), 0, nil, []int64{1<<40 + 3, 0, 11, 12, 13, 14}},
		{api.OK, 5, []int64{1, 2, 3, 4, 5, 6, 7}, []int64{0, 5, 1, 2, 3, 4}},
	} {
		m := plan.Boot(p)
		for d := range int64(api.MaxChunk) {
			set(t, m, p, 2, thread.Data+int(d), 11+d)
		}
		play(t, m, func(f *frame.Frame) {
			wait.Wait(f, p, 2, 1, 1, 4)
			wait.Wake(f, p, 2, c.code, c.count, c.data)
		})
		got := []int64{get(t, m, p, 2, thread.Code), get(t, m, p, 2, thread.Count)}
		for d := range api.MaxChunk {
			got = append(got, get(t, m, p, 2, thread.Data+d))
		}
		if !slices.Equal(got, c.want) {
			t.Errorf("Wake(%d, %d, %v) leaves %v, want %v", int(c.code), c.count, c.data, got, c.want)
		}
		if l := best(t, m, p); !slices.Equal(l, []int{1, 2, 0}) {
			t.Errorf("%v are ready", l)
		}
	}
}

// P16.1: who is woken is ready behind the others of its priority.
func TestWokenIsTheLastOne(t *testing.T) {
	for name, p := range plans(t) {
		for i := range p.Threads {
			s := begin(name, p)
			s.Sleep(t, i, 3)
			s.Wake(t, i, api.OK, 0, nil)
			for _, j := range s.lists[s.prio[i]] {
				if j != i && slices.Index(best(t, s.m, p), j) > slices.Index(best(t, s.m, p), i) {
					t.Errorf("%s: %d, which was woken, is ahead of %d", name, i, j)
				}
			}
		}
	}
}

// P16.1: a Wait again of one that was woken, in the same list and in other ones.
func TestWaitAgain(t *testing.T) {
	for name, p := range plans(t) {
		s := begin(name, p)
		for round := range 6 {
			for i := range p.Threads {
				if len(p.Objects) == 0 || round == 3 {
					s.Sleep(t, i, round)
				} else {
					s.Wait(t, i, (i+round)%len(p.Objects), round%2, round-1)
				}
			}
			for i := range p.Threads {
				s.Wake(t, (i+round)%len(p.Threads), api.Errno(round), i, []int64{int64(i), int64(round)})
			}
		}
	}
}
