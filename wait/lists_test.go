package wait_test

import (
	"fmt"
	"slices"
	"testing"

	"septum/api"
	"septum/frame"
	"septum/plan"
	"septum/thread"
	"septum/wait"
)

// orders answers all orders of the numbers 0 to n - 1.
func orders(n int) [][]int {
	all := [][]int{{}}
	for len(all[0]) < n {
		var longer [][]int
		for _, l := range all {
			for i := range n {
				if !slices.Contains(l, i) {
					longer = append(longer, append(slices.Clone(l), i))
				}
			}
		}
		all = longer
	}
	return all
}

// Words, P16.1: lists spelled out in whole: as threads came, and the more urgent ones first.
func TestListsInWhole(t *testing.T) {
	for _, c := range []struct {
		priorities, come, came, ordered []int
	}{
		{[]int{5}, []int{0}, []int{0}, []int{0}},
		{[]int{5, 5}, []int{1, 0}, []int{1, 0}, []int{1, 0}},
		{[]int{0, 15}, []int{0, 1}, []int{0, 1}, []int{1, 0}},
		{[]int{0, 15}, []int{1, 0}, []int{1, 0}, []int{1, 0}},
		{[]int{1, 5, 5}, []int{0, 2, 1}, []int{0, 2, 1}, []int{2, 1, 0}},
		{[]int{1, 5, 5, 9}, []int{0, 1, 2, 3}, []int{0, 1, 2, 3}, []int{3, 1, 2, 0}},
		{[]int{1, 5, 5, 9}, []int{3, 2, 1, 0}, []int{3, 2, 1, 0}, []int{3, 2, 1, 0}},
		{[]int{7, 7, 3, 7}, []int{2, 3, 0, 1}, []int{2, 3, 0, 1}, []int{3, 0, 1, 2}},
		{[]int{9, 2, 15, 2, 0, 7}, []int{4, 3, 1, 5, 0, 2}, []int{4, 3, 1, 5, 0, 2}, []int{2, 0, 5, 3, 1, 4}},
		{[]int{9, 2, 15, 2, 0, 7}, []int{5, 1, 2, 4, 3, 0}, []int{5, 1, 2, 4, 3, 0}, []int{2, 0, 5, 1, 3, 4}},
		{[]int{9, 8, 7, 6, 1, 5}, []int{0, 1, 2, 3, 4, 5}, []int{0, 1, 2, 3, 4, 5}, []int{0, 1, 2, 3, 5, 4}},
		{[]int{8, 8, 8, 8, 8, 8}, []int{5, 2, 0, 4, 3, 1}, []int{5, 2, 0, 4, 3, 1}, []int{5, 2, 0, 4, 3, 1}},
	} {
		p := of(t, api.Part{Threads: threads(c.priorities...), Objects: both()})
		for side := range 2 {
			for o, want := range [][]int{c.came, c.ordered} {
				m := plan.Boot(p)
				for _, i := range c.come {
					play(t, m, func(f *frame.Frame) { wait.Wait(f, p, i, o, side, 0) })
				}
				if got := waiting(t, m, p, o, side); !slices.Equal(got, want) {
					t.Errorf("priorities %v, they came %v: %v wait, want %v", c.priorities, c.come, got, want)
				}
			}
		}
	}
}

// Words, P16.1: all threads in one list, in every order in which they may come; then they are woken in
// every order.
func TestEveryOrderInOneList(t *testing.T) {
	for _, priorities := range [][]int{{0}, {5, 5}, {0, 15}, {5, 4, 5}, {1, 5, 9, 5}} {
		p := of(t, api.Part{Threads: threads(priorities...), Objects: both()})
		for _, come := range orders(len(priorities)) {
			for o := range 2 {
				s := begin(fmt.Sprint(priorities, ", they come ", come), p)
				for k, i := range come {
					s.Wait(t, i, o, o, k%3)
				}
				s.look(t)
				for _, leave := range orders(len(priorities)) {
					c := copyOf(s)
					c.name = fmt.Sprint(s.name, ", they go ", leave)
					for _, i := range leave {
						c.Wake(t, i, api.ErrGone, i, nil)
					}
				}
			}
		}
	}
}

// P16.1: First and Next of one list, while threads wait in others, too.
func TestListsBesideEachOther(t *testing.T) {
	for name, p := range plans(t) {
		if len(p.Objects) == 0 {
			continue
		}
		for shift := range 2 * len(p.Objects) {
			s := begin(name, p)
			for i := range p.Threads {
				at := (shift + i*i) % (2 * len(p.Objects))
				s.Wait(t, i, at/2, at%2, i-1)
				s.look(t)
			}
			for i := range p.Threads {
				s.Wake(t, i, api.OK, 1, nil)
				s.look(t)
			}
		}
	}
}

// P16.1: Next of one that doesn't stand in the list that is asked: it sleeps, it is ready, it waits on the
// other side, or for another object: there is none behind it.
func TestNextOfAnotherList(t *testing.T) {
	p := of(t, api.Part{Threads: threads(5, 5, 5, 5, 5, 5), Objects: both()})
	s := begin("in other lists", p)
	for i, at := range []spot{{0, 0}, {0, 0}, {0, 1}, {0, 1}} {
		s.Wait(t, i, at.o, at.side, 0)
	}
	s.Sleep(t, 4, 2)
	for _, c := range [][4]int{{0, 0, 0, 1}, {0, 1, 2, 3}, {0, 0, 1, none}, {0, 1, 0, none}, {0, 0, 2, none}, {1, 0, 0, none},
		{1, 1, 2, none}, {0, 0, 4, none}, {0, 0, 5, none}, {1, 0, 5, none}, {-1, 0, 4, none}, {-1, 1, 4, none}, {-1, 0, 5, none}, {2, 0, 0, none}, {0, 2, 0, none}} {
		if got := next(t, s.m, p, c[0], c[1], c[2]); got != c[3] {
			t.Errorf("Next(%d, %d, %d): %d, want %d", c[0], c[1], c[2], got, c[3])
		}
	}
}

// P16.2: Order of one whose PRIO was changed while it waited, spelled out in whole.
func TestOrderInWhole(t *testing.T) {
	for _, c := range []struct {
		priorities []int
		i, to      int
		want       []int
	}{
		{[]int{9}, 0, 0, []int{0}},
		{[]int{9, 5}, 0, 4, []int{1, 0}},
		{[]int{9, 5}, 0, 5, []int{1, 0}},
		{[]int{9, 5}, 0, 6, []int{0, 1}},
		{[]int{9, 5}, 1, 9, []int{0, 1}},
		{[]int{9, 5}, 1, 10, []int{1, 0}},
		{[]int{9, 5, 5, 1}, 3, 5, []int{0, 1, 2, 3}},
		{[]int{9, 5, 5, 1}, 3, 6, []int{0, 3, 1, 2}},
		{[]int{9, 5, 5, 1}, 1, 5, []int{0, 2, 1, 3}},
		{[]int{9, 5, 5, 1}, 0, 1, []int{1, 2, 3, 0}},
		{[]int{9, 5, 5, 1}, 0, 0, []int{1, 2, 3, 0}},
		{[]int{9, 5, 5, 1}, 2, 15, []int{2, 0, 1, 3}},
		{[]int{9, 8, 7, 6, 5, 4}, 0, 0, []int{1, 2, 3, 4, 5, 0}},
		{[]int{9, 8, 7, 6, 5, 4}, 5, 15, []int{5, 0, 1, 2, 3, 4}},
		{[]int{9, 8, 7, 6, 5, 4}, 1, 6, []int{0, 2, 3, 1, 4, 5}},
	} {
		p := of(t, api.Part{Threads: threads(c.priorities...), Objects: both()})
		for side := range 2 {
			s := begin(fmt.Sprint(c.priorities, ", ", c.i, " to ", c.to), p)
			for i := range c.priorities {
				s.Wait(t, i, 1, side, i%2)
			}
			s.Change(t, c.i, c.to)
			s.Order(t, c.i)
			if got := waiting(t, s.m, p, 1, side); !slices.Equal(got, c.want) {
				t.Errorf("%s: %v wait, want %v", s.name, got, c.want)
			}
		}
	}
}

// P16.2: Order of each thread, to each of a few priorities, in lists of all lengths; and of others whose
// PRIO was changed without one.
func TestOrderOfEach(t *testing.T) {
	for name, p := range plans(t) {
		if len(p.Objects) == 0 {
			continue
		}
		for i := range p.Threads {
			for _, to := range []int{0, 4, 7, 8, 15} {
				s := begin(name, p)
				for j := range p.Threads {
					s.Wait(t, j, len(p.Objects)-1-j/5, j/5, j%3)
				}
				s.Change(t, i, to)
				s.Change(t, (i+1)%len(p.Threads), 15-to)
				s.Order(t, i)
				s.Order(t, i)
				s.Order(t, (i+2)%len(p.Threads))
				s.look(t)
			}
		}
	}
}

// P16.2: an Order in a list that isn't ordered, of one that sleeps, of one that is ready, and of one that is
// suspended or gone: all stands as it was.
func TestOrderThatChangesNothing(t *testing.T) {
	p := of(t, api.Part{Threads: threads(5, 5, 5, 5, 5, 5), Objects: both()})
	s := begin("nothing to order", p)
	s.Wait(t, 0, 0, 0, 3)
	s.Wait(t, 1, 0, 0, 0)
	s.Sleep(t, 2, 5)
	s.Unready(t, 3, thread.Suspended)
	s.Unready(t, 4, thread.Gone)
	for i := range 6 {
		s.Change(t, i, 9-i)
	}
	words := s.m.Words()
	for i := range 6 {
		s.Order(t, i)
	}
	if changed := changes(words, s.m.Words()); len(changed) > 0 {
		t.Errorf("the words %v are changed", changed)
	}
}

// P16.1, P16.2: which object's lists are ordered is told by its own Priority, not by another one's.
func TestOrderedAndNot(t *testing.T) {
	objects := make([]api.Object, api.MaxObjects)
	for o := range objects {
		objects[o] = api.Object{Kind: 3, Priority: o%3 == 1}
	}
	p := of(t, api.Part{Threads: threads(1, 2, 3), Objects: objects})
	for o := range objects {
		for side := range 2 {
			s := begin("each object", p)
			for i := range 3 {
				s.Wait(t, i, o, side, 0)
			}
			want := []int{0, 1, 2}
			if objects[o].Priority {
				want = []int{2, 1, 0}
			}
			if got := waiting(t, s.m, p, o, side); !slices.Equal(got, want) {
				t.Errorf("the object %d: %v wait, want %v", o, got, want)
			}
		}
	}
}
