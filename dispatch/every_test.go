package dispatch_test

import (
	"slices"
	"testing"

	"septum/api"
)

// orders answers all orders of all sets of the numbers 0 to n - 1.
func orders(n int) [][]int {
	all := [][]int{{}}
	for k := 0; k < len(all); k++ {
		for i := range n {
			if !slices.Contains(all[k], i) {
				all = append(all, append(slices.Clone(all[k]), i))
			}
		}
	}
	return all
}

// sets answers all sets of the numbers 0 to n - 1.
func sets(n int) [][]int {
	all := make([][]int, 1<<n)
	for k := range all {
		for i := range n {
			if k>>i&1 == 1 {
				all[k] = append(all[k], i)
			}
		}
	}
	return all
}

// pairs answers all choices of two threads, or of none, to run on the cores; nobody runs on both.
func pairs(n int) [][2]int {
	var all [][2]int
	for i := none; i < n; i++ {
		for j := none; j < n; j++ {
			if i != j || i == none {
				all = append(all, [2]int{i, j})
			}
		}
	}
	return all
}

// everyState plays on each state of so many threads, with nobody called.
func everyState(t *testing.T, n int, on func(s *system)) {
	t.Helper()
	var priorities []int
	for range n {
		priorities = append(priorities, 5)
	}
	p := of(t, api.Part{Threads: threads(priorities...)})
	for _, order := range orders(n) {
		for _, holds := range sets(n) {
			s := made(t, p, state{order, [2]int{none, none}, holds, [2]bool{}}, len(holds)%2 == 0)
			for _, runs := range pairs(n) {
				on(running(copyOf(s), runs))
			}
		}
	}
}

// running answers the system, once these run.
func running(s *system, runs [2]int) *system {
	s.runs = runs
	for core := range 2 {
		s.m.Store(s.p.Current[core], int64(runs[core]+1))
	}
	return s
}

// P15.1: Dispatch of either core, of every state of up to three threads, with each core called and not.
func TestDispatchOfEveryState(t *testing.T) {
	for n := 1; n <= 3; n++ {
		everyState(t, n, func(s *system) {
			for k := range 8 {
				c := copyOf(s)
				for core := range 2 {
					c.called[core] = k>>core&1 == 1
					c.m.Store(c.p.IPI[core], int64(k>>core&1))
				}
				c.Dispatch(t, k>>2)
			}
		})
	}
}

// should answers who should run, by the words of P15.2 and of DOC.md's P3: those that are fixed, and of
// the others the most urgent ones, so that two run at most; the lower number ahead.
func should(s *system) []int {
	var l []int
	for core, i := range s.runs {
		if s.fixed(core) {
			l = append(l, i)
		}
	}
	for _, i := range s.order() {
		if len(l) < 2 && !slices.Contains(l, i) {
			l = append(l, i)
		}
	}
	slices.Sort(l)
	return l
}

// inTurn has both cores dispatch, that one first, and it once more, if it is called, and fails the
// test, unless then those run that should, and nobody on both cores.
func inTurn(t *testing.T, s *system, first int) {
	t.Helper()
	want := should(s)
	keeps := map[int]int{}
	for core, i := range s.runs {
		if s.fixed(core) {
			keeps[core] = i
		}
	}
	s.Dispatch(t, first)
	s.Dispatch(t, 1-first)
	if s.called[first] {
		s.Clear(t, first)
		s.Dispatch(t, first)
	}
	got := slices.DeleteFunc(slices.Clone(s.runs[:]), func(i int) bool { return i == none })
	slices.Sort(got)
	if !slices.Equal(got, want) {
		t.Fatalf("%s: both cores have dispatched, %d first: %v run, want %v", s.name, first, s.runs, want)
	}
	for core, i := range keeps {
		if s.runs[core] != i {
			t.Fatalf("%s: %d is fixed on core %d, and %v run", s.name, i, core, s.runs)
		}
	}
	s.settled(t)
}

// settled fails the test, unless further Dispatches change nothing, and call nobody.
func (s *system) settled(t *testing.T) {
	t.Helper()
	s.Clear(t, 0)
	s.Clear(t, 1)
	words := s.m.Words()
	for _, core := range []int{0, 1} {
		s.Dispatch(t, core)
	}
	if changed := changes(words, s.m.Words()); len(changed) > 0 {
		t.Fatalf("%s: a further Dispatch changed the words %v", s.name, changed)
	}
}

// P15.2: from every state of up to four threads, whichever core is the first one.
func TestBothDispatchFromEveryState(t *testing.T) {
	for n := 1; n <= 4; n++ {
		everyState(t, n, func(s *system) {
			inTurn(t, copyOf(s), 0)
			inTurn(t, s, 1)
		})
	}
}

// P15.2: the other core dispatches only if it is called: what the first one calls for is all that is
// needed, if a core that wasn't called ran whom it should.
func TestWhoIsNotCalledRunsWhomItShould(t *testing.T) {
	everyState(t, 3, func(s *system) {
		for core := range 2 {
			c := copyOf(s)
			want := should(c)
			c.Dispatch(t, core)
			if c.called[1-core] {
				c.Clear(t, 1-core)
				c.Dispatch(t, 1-core)
			}
			got := slices.DeleteFunc(slices.Clone(c.runs[:]), func(i int) bool { return i == none })
			slices.Sort(got)
			if !slices.Equal(got, want) {
				t.Fatalf("%s: core %d has dispatched: %v run, want %v", c.name, core, c.runs, want)
			}
		}
	})
}

// DOC.md's P3: both cores dispatch behind Boot, and one thread after the other is gone: who runs are the
// most urgent ones, in the order in which they became ready.
func TestTheBestRun(t *testing.T) {
	p := of(t, api.Part{Threads: threads(9, 2, 15, 2, 0, 9)})
	s := begin("one after the other", p)
	for _, c := range []struct {
		gone int
		runs [2]int
	}{{2, [2]int{5, 0}}, {0, [2]int{5, 1}}, {5, [2]int{3, 1}}, {1, [2]int{3, 4}}, {3, [2]int{none, 4}}, {4, [2]int{none, none}}} {
		s.Unready(t, c.gone, 3)
		inTurn(t, s, 0)
		if s.runs != c.runs {
			t.Errorf("%d is gone: %v run, want %v", c.gone, s.runs, c.runs)
		}
	}
	for _, c := range []struct {
		back int
		runs [2]int
	}{{4, [2]int{4, none}}, {1, [2]int{4, 1}}, {3, [2]int{3, 1}}, {5, [2]int{5, 1}}, {0, [2]int{5, 0}}, {2, [2]int{5, 2}}} {
		s.Ready(t, c.back)
		inTurn(t, s, 0)
		if s.runs != c.runs {
			t.Errorf("%d is back: %v run, want %v", c.back, s.runs, c.runs)
		}
	}
}
