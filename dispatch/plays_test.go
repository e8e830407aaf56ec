package dispatch_test

import (
	"fmt"
	"slices"
	"testing"

	"septum/api"
	"septum/dispatch"
	"septum/frame"
	"septum/plan"
	"septum/ready"
	"septum/thread"
	"septum/word"
)

// P15.1, P15.2: long plays of calls that follow no pattern, and of HELD turning to 0 and to more, held
// against plain lists; from what they leave, both cores dispatch in turn.
func TestLongPlays(t *testing.T) {
	for name, p := range plans(t) {
		s := begin(name, p)
		seed := uint32(777 + len(name))
		pick := func(n int) int {
			seed = seed*1664525 + 1013904223
			return int(seed>>8) % n
		}
		for range 1500 {
			i := pick(len(p.Threads))
			switch pick(9) {
			case 0:
				s.Unready(t, i, 1+pick(3))
			case 1:
				s.Ready(t, i)
			case 2:
				s.Change(t, i, pick(api.Levels), pick(2) == 0)
			case 3:
				s.Change(t, i, 7+pick(2), pick(2) == 0)
			case 4:
				s.Yield(t, i)
			case 5:
				s.Hold(t, i, int64(pick(3)))
			case 6:
				s.Clear(t, pick(2))
			default:
				s.Dispatch(t, pick(2))
			}
			if pick(4) == 0 {
				inTurn(t, copyOf(s), pick(2))
			}
		}
	}
}

// P15.1: plays in which a core dispatches just if it is called, or if a thread of its own lets go: the
// best run all the time.
func TestWhoIsCalledDispatches(t *testing.T) {
	for name, p := range plans(t) {
		s := begin(name, p)
		seed := uint32(99 + len(name))
		pick := func(n int) int {
			seed = seed*1664525 + 1013904223
			return int(seed>>8) % n
		}
		for range 400 {
			i, core := pick(len(p.Threads)), pick(2)
			switch pick(4) {
			case 0:
				s.Unready(t, i, 1+pick(3))
			case 1:
				s.Ready(t, i)
			case 2:
				s.Change(t, i, 7+pick(3), pick(2) == 0)
			case 3:
				s.Hold(t, i, int64(pick(2)))
			}
			want := should(s)
			s.Dispatch(t, core)
			if s.called[1-core] {
				s.Clear(t, 1-core)
				s.Dispatch(t, 1-core)
			}
			got := slices.DeleteFunc(slices.Clone(s.runs[:]), func(i int) bool { return i == none })
			slices.Sort(got)
			if !slices.Equal(got, want) || s.called != [2]bool{} {
				t.Fatalf("%s: %v run, want %v; %v are called", name, s.runs, want, s.called)
			}
		}
	}
}

// answers is what a body was answered last.
type answers struct {
	current, run           int
	runs, turned, isCalled bool
}

// bodies answers the layer's calls on a core, each as a body that tells its answer.
func bodies(p plan.Plan, core int, a *answers) map[string]frame.Body {
	return map[string]frame.Body{
		"Current": func(f *frame.Frame) {
			*a = answers{}
			a.current, a.runs = dispatch.Current(f, p, core)
		},
		"Dispatch": func(f *frame.Frame) {
			*a = answers{}
			a.run, a.turned = dispatch.Dispatch(f, p, core)
		},
		"Called": func(f *frame.Frame) {
			*a = answers{}
			a.isCalled = dispatch.Called(f, p, core)
		},
		"Clear": func(f *frame.Frame) {
			*a = answers{}
			dispatch.Clear(f, p, core)
		},
	}
}

// states answers systems in which a Dispatch has something to do on either core, and in which it hasn't.
func states(t *testing.T) []*system {
	t.Helper()
	p := of(t, api.Part{Threads: threads(5, 5, 5, 5)})
	var l []*system
	for _, st := range []state{
		{[]int{0, 1, 2}, [2]int{0, 1}, nil, [2]bool{}},
		{[]int{2, 3, 1}, [2]int{0, 1}, nil, [2]bool{true, true}},
		{[]int{2, 3, 0}, [2]int{0, 1}, []int{0}, [2]bool{true, false}},
		{[]int{2, 3, 0, 1}, [2]int{0, 1}, []int{0, 1}, [2]bool{false, true}},
		{[]int{3}, [2]int{none, 2}, nil, [2]bool{true, true}},
		{nil, [2]int{0, 1}, nil, [2]bool{true, true}},
	} {
		l = append(l, made(t, p, st, false))
	}
	return l
}

// P15.1: a frame that goes off at any access of a call: 0, false; what is done in the steps till then is
// no more than what the call does in whole.
func TestFramesThatGoOff(t *testing.T) {
	for _, s := range states(t) {
		for core := range 2 {
			for ahead := range 3 {
				var a answers
				for what, body := range bodies(s.p, core, &a) {
					whole := copyOf(s)
					play(t, whole.m, body)
					want := a
					goesOff(t, fmt.Sprint(what, "(", core, "), ", s.name), copyOf(s).m, s.p, whole.m.Words(), ahead, body, &a)
					if a != want {
						t.Errorf("%s of %s, by steps: %+v, want %+v", what, s.name, a, want)
					}
				}
			}
		}
	}
}

// goesOff plays a body step by step behind some other accesses, and fails the test, unless while the
// frame is off all answers are 0 and false, and no words turn but to what they are at last.
func goesOff(t *testing.T, name string, m *word.Mem, p plan.Plan, last []int64, ahead int, body frame.Body, a *answers) {
	t.Helper()
	first := m.Words()
	f := frame.New(m)
	late := func(f *frame.Frame) {
		for range ahead {
			f.Load(p.Clock)
		}
		body(f)
	}
	*a = answers{}
	for now := 0; !f.Step(now, late) && now < most; now++ {
		if *a != (answers{}) {
			t.Errorf("%s: %+v, while the frame is off", name, *a)
		}
		for at, v := range m.Words() {
			if v != first[at] && v != last[at] {
				t.Errorf("%s: the word %d is %d, was %d, and is to be %d", name, at, v, first[at], last[at])
			}
		}
	}
	if !f.Done() || !slices.Equal(m.Words(), last) {
		t.Errorf("%s: it isn't done, or left other words", name)
	}
}

// P15.1, R1: of a frame that is off, of which no step is underway, of none, and of one without a memory:
// 0, false, and nothing is done.
func TestCallsWithoutAFrame(t *testing.T) {
	for _, s := range states(t) {
		for core := range 2 {
			var a answers
			for what, body := range bodies(s.p, core, &a) {
				words := s.m.Words()
				for how, run := range without(t, s, body) {
					a = answers{7, 7, true, true, true}
					run()
					if a != (answers{}) || !slices.Equal(s.m.Words(), words) {
						t.Errorf("%s(%d), %s, %s: %+v", what, core, s.name, how, a)
					}
				}
			}
		}
	}
}

// without answers the ways to play a body so that it can do no access.
func without(t *testing.T, s *system, body frame.Body) map[string]func() {
	t.Helper()
	return map[string]func(){
		"off": func() {
			frame.New(s.m).Step(0, func(f *frame.Frame) {
				f.Load(s.p.Lock)
				f.Load(s.p.Lock)
				body(f)
			})
		},
		"no step":         func() { body(frame.New(s.m)) },
		"no frame":        func() { body(nil) },
		"no memory":       func() { play(t, nil, body) },
		"an empty memory": func() { play(t, word.New(0), body) },
	}
}

// P15.1, R2: several calls of one body: each sees what those ahead of it did, and what is asked twice
// has one answer.
func TestCallsOfOneBody(t *testing.T) {
	p := of(t, api.Part{Threads: threads(1, 5, 5)})
	m := plan.Boot(p)
	var seen [][2]int
	var calls [][2]bool
	play(t, m, func(f *frame.Frame) {
		seen, calls = nil, nil
		look := func() {
			var l [2]int
			var c [2]bool
			for core := range 2 {
				i, ok := dispatch.Current(f, p, core)
				l[core], c[core] = told(t, i, ok), dispatch.Called(f, p, core)
			}
			seen, calls = append(seen, l), append(calls, c)
		}
		look()
		ready.Unready(f, p, 1, thread.Waiting)
		look()
		dispatch.Dispatch(f, p, 1)
		look()
		look()
		dispatch.Dispatch(f, p, 0)
		dispatch.Dispatch(f, p, 0)
		look()
		dispatch.Clear(f, p, 0)
		look()
	})
	if want := [][2]int{{1, 2}, {1, 2}, {1, 2}, {1, 2}, {0, 2}, {0, 2}}; !slices.Equal(seen, want) {
		t.Errorf("%v run, want %v", seen, want)
	}
	if want := [][2]bool{{}, {}, {true, false}, {true, false}, {true, false}, {}}; !slices.Equal(calls, want) {
		t.Errorf("%v are called, want %v", calls, want)
	}
}

// R2: what is asked twice has one answer, within one body and in another one.
func TestAskedTwice(t *testing.T) {
	for _, s := range states(t) {
		for core := range 2 {
			one, two := copyOf(s), copyOf(s)
			one.Dispatch(t, core)
			two.Dispatch(t, core)
			if !slices.Equal(one.m.Words(), two.m.Words()) {
				t.Errorf("%s: Dispatch(%d) of the same memory leaves other words", s.name, core)
			}
			one.Dispatch(t, core)
			if !slices.Equal(one.m.Words(), two.m.Words()) {
				t.Errorf("%s: Dispatch(%d) once more changes words", s.name, core)
			}
		}
	}
}

// Words of DOC.md: how many accesses a call does at most: fewer than one may, since a call of a layer
// above does other things beside it.
func TestAccesses(t *testing.T) {
	p := of(t, api.Part{Threads: threads(0, 3, 6, 9, 12, 15), Objects: objects()})
	s := made(t, p, state{[]int{2, 4, 1, 3, 0, 5}, [2]int{5, 0}, []int{0}, [2]bool{}}, true)
	for core := range 2 {
		var a answers
		for what, body := range bodies(p, core, &a) {
			n := play(t, copyOf(s).m, body)
			if what == "Dispatch" && n > 40 || what != "Dispatch" && n != 1 {
				t.Errorf("%s does %d accesses", what, n)
			}
		}
	}
}
