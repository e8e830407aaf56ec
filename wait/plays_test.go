package wait_test

import (
	"fmt"
	"slices"
	"testing"

	"septum/api"
	"septum/frame"
	"septum/plan"
	"septum/thread"
	"septum/wait"
	"septum/word"
)

// call is one of the layer's calls, or of layer 14's, on a system.
type call func(t *testing.T, s *system)

// calls answers few calls of the threads 0 to n - 1.
func calls(n int) []call {
	l := []call{
		func(t *testing.T, s *system) { s.Tick(t) },
		func(t *testing.T, s *system) { s.Expire(t) },
	}
	for i := range n {
		l = append(l,
			func(t *testing.T, s *system) { s.Wait(t, i, 0, 0, i) },
			func(t *testing.T, s *system) { s.Wait(t, i, 1, 1, 2) },
			func(t *testing.T, s *system) { s.Sleep(t, i, 1) },
			func(t *testing.T, s *system) { s.Wake(t, i, api.ErrGone, i, []int64{5}) },
			func(t *testing.T, s *system) { s.Change(t, i, 9-s.prio[i]); s.Order(t, i) })
	}
	return l
}

// each plays every order of so many calls from here on.
func each(t *testing.T, s *system, l []call, depth int) {
	t.Helper()
	if depth == 0 {
		s.look(t)
		return
	}
	for k, c := range l {
		next := copyOf(s)
		next.name = fmt.Sprint(s.name, ", ", k)
		c(t, next)
		each(t, next, l, depth-1)
	}
}

// P16.1, P16.2: every order of few calls, of few threads.
func TestEveryOrderOfCalls(t *testing.T) {
	for _, c := range []struct {
		priorities []int
		depth      int
	}{{[]int{4}, 5}, {[]int{4, 5}, 3}, {[]int{4, 4}, 3}, {[]int{4, 5, 4}, 3}} {
		p := of(t, api.Part{Threads: threads(c.priorities...), Objects: both()})
		each(t, begin(fmt.Sprint(c.priorities), p), calls(len(c.priorities)), c.depth)
	}
}

// random answers a function that picks one of n, by no pattern.
func random(seed uint32) func(n int) int {
	return func(n int) int {
		seed = seed*1664525 + 1013904223
		return int(seed>>8) % n
	}
}

// P16.1, P16.2: long plays of calls that follow no pattern, right ones and wrong ones, and of layer 14's,
// held against plain lists.
func TestLongPlays(t *testing.T) {
	for name, p := range plans(t) {
		s := begin(name, p)
		pick := random(uint32(4711 + len(name)))
		for k := range 3000 {
			i := pick(len(p.Threads)+2) - 1
			switch pick(12) {
			case 0, 1, 2:
				s.Wait(t, i, pick(len(p.Objects)+2)-1, pick(4)-1, pick(12)-3)
			case 3:
				s.Wait(t, i, len(p.Objects)-1, 0, pick(3))
			case 4:
				s.Sleep(t, i, pick(9)-1)
			case 5:
				s.Wake(t, i, api.Errno(pick(16)), pick(7), make([]int64, pick(6)))
			case 6:
				s.Order(t, i)
			case 7, 8:
				s.Tick(t)
			case 9:
				s.Expire(t)
			default:
				layer14(t, s, pick(len(p.Threads)), pick)
			}
			if k%20 == 0 {
				s.look(t)
			}
		}
	}
}

// layer14 does a call of layer 14's.
func layer14(t *testing.T, s *system, i int, pick func(n int) int) {
	t.Helper()
	switch pick(6) {
	case 0:
		s.Yield(t, i)
	case 1:
		s.Unready(t, i, 1+pick(3))
	case 2, 3:
		s.Ready(t, i)
	case 4:
		s.Change(t, i, pick(api.Levels))
	case 5:
		s.Change(t, i, 7+pick(2))
		s.Order(t, i)
	}
}

// P16.1, P16.2: plays in which, with each tick, all are woken that are due: each one with the tick that it
// waited for.
func TestEachIsWokenInTime(t *testing.T) {
	p := of(t, api.Part{Threads: threads(3, 9, 3, 9, 3, 0), Objects: both()})
	s := begin("in time", p)
	pick := random(8)
	want := map[int]int{}
	for tick := range 600 {
		for i := range p.Threads {
			if s.state[i] == thread.Ready && pick(3) == 0 {
				ticks := 1 + pick(9)
				if pick(4) == 0 {
					s.Sleep(t, i, ticks)
				} else {
					s.Wait(t, i, pick(2), pick(2), ticks)
				}
				want[i] = tick + ticks
			}
		}
		if i := pick(24); s.has(i) && s.state[i] == thread.Waiting {
			s.Wake(t, i, api.OK, 0, nil)
			delete(want, i)
		}
		s.Tick(t)
		for i := s.Expire(t); i != none; i = s.Expire(t) {
			if want[i] != tick+1 {
				t.Fatalf("%d is due with the tick %d, want %d", i, tick+1, want[i])
			}
			delete(want, i)
		}
		for i, at := range want {
			if at <= tick+1 {
				t.Fatalf("%d isn't due with the tick %d", i, at)
			}
		}
	}
}

// answers is what a body was answered last.
type answers struct {
	may                  bool
	first, next, expired int
	isFirst, isNext, due bool
}

// bodies answers the layer's calls of the thread 1, and of the object 1, each as a body that tells its
// answer.
func bodies(p plan.Plan, a *answers) map[string]frame.Body {
	return map[string]frame.Body{
		"May": func(f *frame.Frame) {
			*a = answers{}
			a.may = wait.May(f, p, 1)
		},
		"First": func(f *frame.Frame) {
			*a = answers{}
			a.first, a.isFirst = wait.First(f, p, 1, 0)
		},
		"Next": func(f *frame.Frame) {
			*a = answers{}
			a.next, a.isNext = wait.Next(f, p, 1, 0, 1)
		},
		"Expire": func(f *frame.Frame) {
			*a = answers{}
			a.expired, a.due = wait.Expire(f, p)
		},
		"Wait":           func(f *frame.Frame) { wait.Wait(f, p, 1, 1, 0, 3) },
		"Wait, no ticks": func(f *frame.Frame) { wait.Wait(f, p, 1, 0, 1, 0) },
		"Sleep":          func(f *frame.Frame) { wait.Sleep(f, p, 1, 2) },
		"Wake":           func(f *frame.Frame) { wait.Wake(f, p, 1, api.ErrGone, 4, []int64{1, 2, 3, 4}) },
		"Order":          func(f *frame.Frame) { wait.Order(f, p, 1) },
		"Tick":           func(f *frame.Frame) { wait.Tick(f, p) },
	}
}

// states answers systems in which each call has something to do, and in which it hasn't.
func states(t *testing.T) []*system {
	t.Helper()
	p := of(t, api.Part{Threads: threads(5, 5, 9, 5, 0), Objects: both()})
	boot, asleep, waits, due := begin("Boot's", p), begin("asleep", p), begin("waiting", p), begin("due", p)
	asleep.Sleep(t, 0, 1)
	asleep.Sleep(t, 1, 2)
	for _, i := range []int{4, 3, 1, 0, 2} {
		waits.Wait(t, i, 1, 0, i)
		due.Wait(t, i, 1, 0, 1+i%2)
	}
	waits.Change(t, 1, 12)
	due.Change(t, 1, 0)
	due.Tick(t)
	due.Expire(t)
	due.Expire(t)
	due.Expire(t)
	due.Tick(t)
	return []*system{boot, asleep, waits, due}
}

// P16.1, P16.2: a frame that goes off at any access of a call: 0, false; with each step one word more is
// changed at most, and what a call leaves is the same, whatever was done ahead of it.
func TestFramesThatGoOff(t *testing.T) {
	for _, s := range states(t) {
		for ahead := range 3 {
			var a answers
			for what, body := range bodies(s.p, &a) {
				a = answers{}
				whole := copyOf(s)
				play(t, whole.m, body)
				want := a
				goesOff(t, fmt.Sprint(what, ", ", s.name), copyOf(s).m, s.p, whole.m.Words(), ahead, body, &a)
				if a != want {
					t.Errorf("%s of %s, by steps: %+v, want %+v", what, s.name, a, want)
				}
			}
		}
	}
}

// goesOff plays a body step by step behind some other accesses, and fails the test, unless while the
// frame is off all answers are 0 and false, and the words are what they are to be at last.
func goesOff(t *testing.T, name string, m *word.Mem, p plan.Plan, last []int64, ahead int, body frame.Body, a *answers) {
	t.Helper()
	f := frame.New(m)
	late := func(f *frame.Frame) {
		for range ahead {
			f.Load(p.Clock)
		}
		body(f)
	}
	words := m.Words()
	*a = answers{}
	for now := 0; !f.Step(now, late) && now < most; now++ {
		if *a != (answers{}) {
			t.Errorf("%s: %+v, while the frame is off", name, *a)
		}
		if changed := changes(words, m.Words()); len(changed) > 1 {
			t.Errorf("%s: a step changed the words %v", name, changed)
		}
		words = m.Words()
	}
	if !f.Done() || !slices.Equal(m.Words(), last) {
		t.Errorf("%s: it isn't done, or left other words", name)
	}
}

// R1: of a frame that is off, of which no step is underway, of none: 0, false, and nothing is done; of one
// without a memory nothing is done, either.
func TestCallsWithoutAFrame(t *testing.T) {
	for _, s := range states(t) {
		var a answers
		for what, body := range bodies(s.p, &a) {
			words := s.m.Words()
			for how, run := range map[string]func(){
				"off": func() {
					frame.New(s.m).Step(0, func(f *frame.Frame) {
						f.Load(s.p.Lock)
						f.Load(s.p.Lock)
						body(f)
					})
				},
				"no step":  func() { body(frame.New(s.m)) },
				"no frame": func() { body(nil) },
			} {
				a = answers{}
				run()
				if a != (answers{}) || !slices.Equal(s.m.Words(), words) {
					t.Errorf("%s, %s, %s: %+v", what, s.name, how, a)
				}
			}
			for _, m := range []*word.Mem{nil, word.New(0)} {
				a = answers{}
				play(t, m, body)
				a.may = false // its two words are 0, as all are that there aren't
				if a != (answers{}) {
					t.Errorf("%s, no memory: %+v", what, a)
				}
			}
		}
	}
}

// P16.1, P16.2, R2: several calls of one body: each sees what those ahead of it did, and what is asked
// twice has one answer.
func TestCallsOfOneBody(t *testing.T) {
	p := of(t, api.Part{Threads: threads(1, 5), Objects: both()})
	m := plan.Boot(p)
	var seen []int
	play(t, m, func(f *frame.Frame) {
		seen = nil
		look := func() {
			i, ok := wait.First(f, p, 1, 0)
			j, more := wait.Next(f, p, 1, 0, i)
			seen = append(seen, told(t, i, ok), told(t, j, more))
		}
		wait.Wait(f, p, 0, 1, 0, 1)
		look()
		look()
		wait.Wait(f, p, 1, 1, 0, 0)
		look()
		thread.Set(f, p, 0, thread.Prio, 6)
		wait.Order(f, p, 0)
		look()
		wait.Tick(f, p)
		wait.Expire(f, p)
		look()
		wait.Wake(f, p, 1, api.OK, 0, nil)
		look()
	})
	if want := []int{0, none, 0, none, 1, 0, 0, 1, 1, none, none, none}; !slices.Equal(seen, want) {
		t.Errorf("%v, want %v", seen, want)
	}
}

// Words of DOC.md: how many accesses a call does at most: of a Wake so few that a call of a layer above may
// wake all six threads, and ask of each what it waits with.
func TestAccesses(t *testing.T) {
	p := of(t, api.Part{Threads: threads(0, 3, 6, 9, 12, 15), Objects: both()})
	s := begin("all wait", p)
	s.Change(t, 0, 6)
	for i := range 5 {
		s.Wait(t, 5-i, 1, 1, 1+i)
	}
	for _, c := range []struct {
		name string
		most int
		body frame.Body
	}{
		{"Wait", 70, func(f *frame.Frame) { wait.Wait(f, p, 0, 1, 1, 9) }},
		{"Order", 40, func(f *frame.Frame) { wait.Order(f, p, 0) }},
		{"May", 2, func(f *frame.Frame) { wait.May(f, p, 0) }},
		{"First", 1, func(f *frame.Frame) { wait.First(f, p, 1, 1) }},
		{"Next", 4, func(f *frame.Frame) { wait.Next(f, p, 1, 1, 5) }},
		{"Wake", 40, func(f *frame.Frame) { wait.Wake(f, p, 3, 1, 4, []int64{1, 2, 3, 4, 5}) }},
		{"Tick", 3, func(f *frame.Frame) { wait.Tick(f, p) }},
		{"Expire", 40, func(f *frame.Frame) { wait.Expire(f, p) }},
		{"Sleep", 50, func(f *frame.Frame) { wait.Sleep(f, p, 5, 9) }},
	} {
		n := play(t, s.m, c.body)
		if n > c.most {
			t.Errorf("%s does %d accesses", c.name, n)
		}
	}
}
