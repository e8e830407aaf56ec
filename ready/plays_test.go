package ready_test

import (
	"fmt"
	"slices"
	"testing"

	"septum/api"
	"septum/frame"
	"septum/plan"
	"septum/ready"
	"septum/thread"
	"septum/word"
)

// call is one of the layer's calls, on a system.
type call func(t *testing.T, s *system)

// calls answers the calls of the threads 0 to n - 1, with few priorities.
func calls(n int, priorities ...int) []call {
	var l []call
	for i := range n {
		l = append(l,
			func(t *testing.T, s *system) { s.Ready(t, i) },
			func(t *testing.T, s *system) { s.Unready(t, i, thread.Waiting+i%3) },
			func(t *testing.T, s *system) { s.Yield(t, i) })
		for _, prio := range priorities {
			l = append(l,
				func(t *testing.T, s *system) { s.Change(t, i, prio, true) },
				func(t *testing.T, s *system) { s.Change(t, i, prio, false) })
		}
	}
	return l
}

// copyOf answers a system that goes on by itself.
func copyOf(s *system) *system {
	c := *s
	c.m = word.New(s.p.Words)
	for a, v := range s.m.Words() {
		c.m.Store(a, v)
	}
	c.state, c.prio = slices.Clone(s.state), slices.Clone(s.prio)
	for priority, l := range s.lists {
		c.lists[priority] = slices.Clone(l)
	}
	return &c
}

// each plays every order of so many calls from here on.
func each(t *testing.T, s *system, l []call, depth int) {
	t.Helper()
	if depth == 0 {
		return
	}
	for k, c := range l {
		next := copyOf(s)
		next.name = fmt.Sprint(s.name, ", ", k)
		c(t, next)
		each(t, next, l, depth-1)
	}
}

// P14.1: every order of few calls, of few threads.
func TestEveryOrderOfCalls(t *testing.T) {
	for _, c := range []struct {
		priorities, to []int
		depth          int
	}{{[]int{0}, []int{0, 15}, 5}, {[]int{5, 5}, []int{5, 6}, 4}, {[]int{15, 0}, []int{0, 15}, 4}, {[]int{5, 5, 5}, []int{5, 2}, 3}, {[]int{1, 5, 5}, []int{1}, 3}} {
		p := of(t, api.Part{Threads: threads(c.priorities...)})
		each(t, begin(fmt.Sprint(c.priorities), p), calls(len(c.priorities), c.to...), c.depth)
	}
}

// P14.1: long plays of calls that follow no pattern, right ones and wrong ones, held against plain
// lists, with Best of some, but others.
func TestLongPlays(t *testing.T) {
	for name, p := range plans(t) {
		s := begin(name, p)
		seed := uint32(12345 + len(name))
		pick := func(n int) int {
			seed = seed*1664525 + 1013904223
			return int(seed>>8) % n
		}
		for range 1500 {
			i := pick(len(p.Threads)+2) - 1
			switch pick(6) {
			case 0:
				s.Unready(t, i, pick(6)-1)
			case 1, 2:
				s.Ready(t, i)
			case 3:
				s.Change(t, i, pick(19)-1, pick(2) == 0)
			case 4:
				s.Change(t, i, 7+pick(2), pick(2) == 0)
			case 5:
				s.Yield(t, i)
			}
			n, but := pick(8), []int{pick(7), pick(7) - 1, pick(9)}[:pick(4)]
			if got, want := best(t, s.m, p, n, but...), without(s.order(), n, but); !slices.Equal(got, want) {
				t.Fatalf("%s: Best of %d but %v: %v, want %v", name, n, but, got, want)
			}
		}
	}
}

// P14.1: several calls of one body, with Best between them: each sees what those ahead of it did.
func TestCallsOfOneBody(t *testing.T) {
	p := of(t, api.Part{Threads: threads(1, 5, 5)})
	m := plan.Boot(p)
	var seen [][]int
	play(t, m, func(f *frame.Frame) {
		seen = nil
		look := func() { seen = append(seen, ready.Best(f, p, 3, nil)) }
		ready.Yield(f, p, 1)
		look()
		ready.Unready(f, p, 2, thread.Waiting)
		look()
		ready.Change(f, p, 2, 1, true)
		look()
		ready.Ready(f, p, 2)
		look()
		ready.Change(f, p, 2, 1, true)
		look()
	})
	want := [][]int{{2, 1, 0}, {1, 0}, {1, 0}, {1, 0, 2}, {1, 2, 0}}
	if !slices.EqualFunc(seen, want, slices.Equal) {
		t.Errorf("%v, want %v", seen, want)
	}
}

// bodies answers each of the layer's calls that change something, of a plan's thread 1.
func bodies(p plan.Plan) map[string]frame.Body {
	return map[string]frame.Body{
		"Ready":                func(f *frame.Frame) { ready.Ready(f, p, 1) },
		"Unready":              func(f *frame.Frame) { ready.Unready(f, p, 1, thread.Gone) },
		"Yield":                func(f *frame.Frame) { ready.Yield(f, p, 1) },
		"Change, first":        func(f *frame.Frame) { ready.Change(f, p, 1, 9, true) },
		"Change, last":         func(f *frame.Frame) { ready.Change(f, p, 1, 9, false) },
		"Change, to the same":  func(f *frame.Frame) { ready.Change(f, p, 1, 5, true) },
		"Change, to 0":         func(f *frame.Frame) { ready.Change(f, p, 1, 0, false) },
		"Unready, then Ready":  func(f *frame.Frame) { ready.Unready(f, p, 1, 2); ready.Ready(f, p, 1) },
		"Change, then Unready": func(f *frame.Frame) { ready.Change(f, p, 1, 12, true); ready.Unready(f, p, 1, 1) },
	}
}

// starts answers memories of the plan, in which the thread 1 is ready, and in which it isn't.
func starts(t *testing.T, p plan.Plan) map[string]*word.Mem {
	t.Helper()
	ready1, not := begin("", p), begin("", p)
	ready1.Change(t, 1, 5, true)
	not.Unready(t, 1, thread.Waiting)
	return map[string]*word.Mem{"ready": ready1.m, "not ready": not.m}
}

// P2.1, R1: each call step by step: with each step one word more is changed at most, the frame goes
// off amid the call till it is done, and what it leaves is the same, whatever was done ahead of it.
func TestStepByStep(t *testing.T) {
	p := of(t, api.Part{Threads: threads(5, 5, 9, 5, 0), Objects: objects()})
	for what, body := range bodies(p) {
		for start := range starts(t, p) {
			var first []int64
			for ahead := range 4 {
				m := starts(t, p)[start]
				f := frame.New(m)
				slow := func(f *frame.Frame) {
					for range ahead {
						f.Load(p.Lock)
					}
					body(f)
				}
				words := m.Words()
				for now := 0; !f.Step(now, slow); now++ {
					if now == most {
						t.Fatalf("%s of one that is %s isn't done", what, start)
					}
					if changed := changes(words, m.Words()); len(changed) > 1 {
						t.Errorf("%s of one that is %s: a step changed %v", what, start, changed)
					}
					words = m.Words()
				}
				if ahead == 0 {
					first = m.Words()
				}
				if !slices.Equal(m.Words(), first) {
					t.Errorf("%s of one that is %s: behind %d accesses it left other words", what, start, ahead)
				}
			}
		}
	}
}

// R1: a call of a frame that is off, of which no step is underway, or of none, changes nothing.
func TestCallsWithoutAFrame(t *testing.T) {
	p := of(t, api.Part{Threads: threads(5, 5, 9)})
	for what, body := range bodies(p) {
		for start, m := range starts(t, p) {
			words := m.Words()
			f := frame.New(m)
			f.Step(0, func(f *frame.Frame) {
				f.Load(p.Lock)
				body(f)
			})
			body(f)
			body(nil)
			play(t, nil, body)
			play(t, word.New(0), body)
			if !slices.Equal(m.Words(), words) || f.Steps() != 1 {
				t.Errorf("%s of one that is %s: %d accesses", what, start, f.Steps())
			}
		}
	}
}

// Words of DOC.md: how many accesses a call does at most: fewer than one may, since a call of a layer
// above does some of these for each of six threads.
func TestAccesses(t *testing.T) {
	p := of(t, api.Part{Threads: threads(0, 3, 6, 9, 12, 15), Objects: objects()})
	m := plan.Boot(p)
	for name, body := range map[string]frame.Body{
		"Unready": func(f *frame.Frame) { ready.Unready(f, p, 3, thread.Waiting) },
		"Change":  func(f *frame.Frame) { ready.Change(f, p, 2, 8, true) },
		"Yield":   func(f *frame.Frame) { ready.Yield(f, p, 4) },
		"Ready":   func(f *frame.Frame) { ready.Ready(f, p, 3) },
		"Best":    func(f *frame.Frame) { ready.Best(f, p, 9, nil) },
	} {
		if n := play(t, m, body); n > 40 {
			t.Errorf("%s does %d accesses", name, n)
		}
	}
}
