package ready_test

import (
	"fmt"
	"math"
	"slices"
	"testing"

	"septum/api"
	"septum/frame"
	"septum/plan"
	"septum/ready"
	"septum/thread"
	"septum/word"
)

// without answers the first n of l, but those that but has.
func without(l []int, n int, but []int) []int {
	var rest []int
	for _, i := range l {
		if !slices.Contains(but, i) && len(rest) < n {
			rest = append(rest, i)
		}
	}
	return rest
}

// sets answers all sets of the numbers 0 to n - 1.
func sets(n int) [][]int {
	all := make([][]int, 1<<n)
	for k := range all {
		for i := range n {
			if k>>i&1 == 1 {
				all[k] = append(all[k], i)
			}
		}
	}
	return all
}

// P14.1: Best of Boot's memories: each n, from below 0 to beyond all, with each set of threads left
// out; the memory is left as it is.
func TestBestOfBoot(t *testing.T) {
	for name, p := range plans(t) {
		s := begin(name, p)
		for _, but := range sets(len(p.Threads)) {
			for n := -1; n <= len(p.Threads)+2; n++ {
				want := without(s.order(), n, but)
				if got := best(t, s.m, p, n, but...); !slices.Equal(got, want) {
					t.Errorf("%s: Best of %d but %v: %v, want %v", name, n, but, got, want)
				}
			}
		}
		if !slices.Equal(s.m.Words(), s.boot) {
			t.Errorf("%s: Best changed the words", name)
		}
	}
}

// P14.1: spelled out in whole: by priority, the greatest first, and of one priority in the threads'
// order; n counts those alone that but hasn't.
func TestBestInWhole(t *testing.T) {
	p := of(t, api.Part{Threads: threads(9, 2, 15, 2, 0, 9)})
	m := plan.Boot(p)
	for _, c := range []struct {
		n         int
		but, want []int
	}{
		{6, nil, []int{2, 0, 5, 1, 3, 4}}, {math.MaxInt, nil, []int{2, 0, 5, 1, 3, 4}}, {1, nil, []int{2}}, {2, nil, []int{2, 0}},
		{5, nil, []int{2, 0, 5, 1, 3}}, {2, []int{2}, []int{0, 5}}, {2, []int{0}, []int{2, 5}}, {2, []int{5, 0}, []int{2, 1}},
		{1, []int{2, 0, 5, 1, 3}, []int{4}}, {1, []int{4}, []int{2}}, {6, []int{4, 2}, []int{0, 5, 1, 3}},
		{2, []int{0, 1, 2, 3, 4, 5}, nil}, {math.MaxInt, []int{5, 4, 3, 2, 1, 0}, nil},
		{0, nil, nil}, {-1, nil, nil}, {math.MinInt, nil, nil}, {0, []int{1}, nil}, {-6, []int{1}, nil},
	} {
		if got := best(t, m, p, c.n, c.but...); !slices.Equal(got, c.want) {
			t.Errorf("Best of %d but %v: %v, want %v", c.n, c.but, got, c.want)
		}
	}
}

// P14.1: Best of each priority, of one thread and of two.
func TestBestOfEachPriority(t *testing.T) {
	for a := range api.Levels {
		one := of(t, api.Part{Threads: threads(a)})
		if l := best(t, plan.Boot(one), one, 2); !slices.Equal(l, []int{0}) {
			t.Errorf("a thread of %d: %v", a, l)
		}
		for b := range api.Levels {
			p := of(t, api.Part{Threads: threads(a, b)})
			want := []int{0, 1}
			if b > a {
				want = []int{1, 0}
			}
			if l := best(t, plan.Boot(p), p, 2); !slices.Equal(l, want) {
				t.Errorf("threads of %d and %d: %v, want %v", a, b, l, want)
			}
		}
	}
}

// P14.1, R1: numbers in but that are no thread's, or that stand there twice, leave nobody else out.
func TestBestButOthers(t *testing.T) {
	p := of(t, api.Part{Threads: threads(1, 5, 5)})
	m := plan.Boot(p)
	for _, c := range []struct{ but, want []int }{
		{[]int{-1}, []int{1, 2, 0}}, {[]int{3, 4, 100}, []int{1, 2, 0}}, {[]int{math.MaxInt, math.MinInt}, []int{1, 2, 0}},
		{[]int{1 << 32, 1<<32 + 1, 1 << 8, 1 << 16}, []int{1, 2, 0}}, {p.Threads, []int{1, 2, 0}}, {[]int{1, 1}, []int{2, 0}},
		{[]int{0, -1, 0, 7, 0}, []int{1, 2}}, {[]int{2, 1, 2, 1, 2, 1}, []int{0}}, {make([]int, 1<<12), []int{1, 2}},
	} {
		if got := best(t, m, p, 3, c.but...); !slices.Equal(got, c.want) {
			t.Errorf("but %v: %v, want %v", c.but[:min(len(c.but), 9)], got, c.want)
		}
	}
}

// R4: a but of no elements, nil or empty, leaves nobody out.
func TestBestButNobody(t *testing.T) {
	for name, p := range plans(t) {
		s := begin(name, p)
		for _, but := range [][]int{nil, {}, make([]int, 0, 9)} {
			if got := best(t, s.m, p, 9, but...); !slices.Equal(got, s.order()) {
				t.Errorf("%s: %v, want %v", name, got, s.order())
			}
		}
	}
}

// P14.1: a frame that goes off at any access of Best's: none, till the body is done.
func TestBestOfAFrameThatGoesOff(t *testing.T) {
	for name, p := range plans(t) {
		s := begin(name, p)
		for n := range len(p.Threads) + 2 {
			for ahead := range 3 {
				var got []int
				f := frame.New(s.m)
				body := func(f *frame.Frame) {
					for range ahead {
						f.Load(p.Clock)
					}
					got = ready.Best(f, p, n, nil)
				}
				steps := 0
				for !f.Step(steps, body) {
					if len(got) != 0 {
						t.Errorf("%s: Best of %d answers %v while the frame is off", name, n, got)
					}
					steps++
				}
				if want := without(s.order(), n, nil); !slices.Equal(got, want) {
					t.Errorf("%s: Best of %d: %v, want %v", name, n, got, want)
				}
				if n > 0 && steps < 1 {
					t.Errorf("%s: Best of %d is done with %d accesses", name, n, f.Steps())
				}
			}
		}
	}
}

// P14.1, R1: none of a frame that is off at the beginning, of which no step is underway, that has no
// memory, and of a nil one.
func TestBestWithoutAFrame(t *testing.T) {
	p := of(t, api.Part{Threads: threads(1, 5, 5)})
	m := plan.Boot(p)
	got := []int{7}
	f := frame.New(m)
	f.Step(0, func(f *frame.Frame) {
		f.Load(p.Lock)
		f.Load(p.Lock)
		got = ready.Best(f, p, 2, nil)
	})
	if len(got) != 0 || f.Steps() != 1 {
		t.Errorf("off: %v, %d accesses", got, f.Steps())
	}
	if got := ready.Best(f, p, 2, nil); len(got) != 0 {
		t.Errorf("no step: %v", got)
	}
	if got := ready.Best(nil, p, 2, nil); len(got) != 0 {
		t.Errorf("a nil frame: %v", got)
	}
	var none *word.Mem
	if got := best(t, none, p, 2); len(got) != 0 {
		t.Errorf("a nil memory: %v", got)
	}
	if !slices.Equal(m.Words(), plan.Boot(p).Words()) {
		t.Error("the words are changed")
	}
}

// R2, R3: Best asked twice answers the same, in memory of its own; what is done to an answer, its
// spare room too, changes none.
func TestBestIsNew(t *testing.T) {
	p := of(t, api.Part{Threads: threads(1, 5, 5, 7)})
	m := plan.Boot(p)
	but := []int{1, 0, 9, 9}[:1]
	var one, two []int
	play(t, m, func(f *frame.Frame) {
		one, two = ready.Best(f, p, 3, but), ready.Best(f, p, 3, but)
	})
	for _, l := range [][]int{one, two} {
		if !slices.Equal(l, []int{3, 2, 0}) {
			t.Errorf("%v", l)
		}
	}
	for k := range one[:cap(one)] {
		one[:cap(one)][k] = 77
	}
	if !slices.Equal(two, []int{3, 2, 0}) || !slices.Equal(but[:cap(but)], []int{1, 0, 9, 9}) {
		t.Errorf("an answer shares memory: %v, %v", two, but[:cap(but)])
	}
	if l := best(t, m, p, 3, but...); !slices.Equal(l, []int{3, 2, 0}) {
		t.Errorf("asked later: %v", l)
	}
}

// P14.1: Best behind what the other calls left: for each set of threads that are ready, each n, and
// each thread left out.
func TestBestOfSomeThatAreReady(t *testing.T) {
	p := of(t, api.Part{Threads: threads(3, 3, 0, 15, 3)})
	for _, gone := range sets(5) {
		s := begin(fmt.Sprint("without ", gone), p)
		for _, i := range gone {
			s.Unready(t, i, thread.Gone)
		}
		for n := range 7 {
			for i := -1; i < 6; i++ {
				want := without(s.order(), n, []int{i})
				if got := best(t, s.m, p, n, i); !slices.Equal(got, want) {
					t.Errorf("%s: Best of %d but %d: %v, want %v", s.name, n, i, got, want)
				}
			}
		}
	}
}
