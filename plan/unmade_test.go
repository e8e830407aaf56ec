package plan_test

import (
	"fmt"
	"testing"
	"time"

	"septum/api"
	"septum/plan"
)

// ends fails the test, unless Boot of a plan that Of doesn't make ends, and what it answers can be
// looked at.
func ends(t *testing.T, p plan.Plan, name string) {
	t.Helper()
	done := make(chan any, 1)
	go func() {
		defer func() { done <- recover() }()
		m := plan.Boot(p)
		if n := m.Len(); n != len(m.Words()) || n > 4000 {
			t.Errorf("%s: %d words", name, n)
		}
	}()
	select {
	case what := <-done:
		if what != nil {
			t.Errorf("%s: a panic: %v", name, what)
		}
	case <-time.After(time.Minute):
		t.Fatalf("%s: it doesn't end", name)
	}
}

// seeds are plans that Of makes, to be turned into such as it doesn't make.
func seeds(t *testing.T) map[string]plan.Plan {
	t.Helper()
	all := map[string]plan.Plan{}
	for name, part := range rights() {
		all[name] = of(t, part)
	}
	return all
}

// strange are numbers that are no addresses, or such as lead things into one another.
func strange(p plan.Plan) []int {
	return append([]int{-1, 0, 1, p.Lock, p.Ready, p.Ready + 1, p.Timers, p.Threads[0], p.Words - 1, p.Words, p.Words + 1, 3999, 4000, 4001}, far...)
}

// fields are the addresses of a plan, each by its name.
func fields(p *plan.Plan) map[string]*int {
	all := map[string]*int{
		"Lock": &p.Lock, "IPI 0": &p.IPI[0], "IPI 1": &p.IPI[1], "Current 0": &p.Current[0], "Current 1": &p.Current[1],
		"Clock": &p.Clock, "Ready": &p.Ready, "Timers": &p.Timers, "Table": &p.Table, "Words": &p.Words,
	}
	for i := range p.Threads {
		all[fmt.Sprint("thread ", i)] = &p.Threads[i]
	}
	for i := range p.Objects {
		all[fmt.Sprint("object ", i)] = &p.Objects[i]
	}
	return all
}

// R1, P12.2: no plan at all, and a partition or addresses alone.
func TestBootOfZero(t *testing.T) {
	ends(t, plan.Plan{}, "the zero plan")
	for name, p := range seeds(t) {
		ends(t, plan.Plan{Part: p.Part}, name+", the Part alone")
		ends(t, plan.Plan{Part: p.Part, Words: p.Words}, name+", Part and Words alone")
		ends(t, plan.Plan{Threads: make([]int, 6), Objects: make([]int, 8), Part: p.Part, Words: p.Words}, name+", all at 0")
		p.Part = api.Part{}
		ends(t, p, name+", without its Part")
	}
}

// R1, P12.2: Words, and each address, below 0, beyond Words, and far from all limits; and one that
// belongs to another thing.
func TestBootOfStrangeAddresses(t *testing.T) {
	for name := range seeds(t) {
		for field := range fields(new(of(t, rights()[name]))) {
			for _, a := range strange(of(t, rights()[name])) {
				p := of(t, rights()[name])
				*fields(&p)[field] = a
				ends(t, p, fmt.Sprint(name, ", ", field, " ", a))
			}
		}
		for _, a := range strange(of(t, rights()[name])) {
			p := of(t, rights()[name])
			for _, at := range fields(&p) {
				*at = a
			}
			ends(t, p, fmt.Sprint(name, ", all of them ", a))
			p.Words = 4000
			ends(t, p, fmt.Sprint(name, ", all addresses ", a))
		}
	}
}

// R1, P12.2: lists of threads and objects that are longer and shorter than those of the Part.
func TestBootOfOtherLengths(t *testing.T) {
	lengths := []int{0, 1, 2, 5, 6, 7, 8, 9, 100, 1 << 20}
	for name, p := range seeds(t) {
		for _, n := range lengths {
			what := fmt.Sprint(name, ", length ", n)
			q := p
			q.Threads = stretch(p.Threads, n)
			ends(t, q, what+" of the addresses of threads")
			q.Part.Threads = stretch(p.Part.Threads, n)
			ends(t, q, what+" of both lists of threads")
			q.Threads = p.Threads
			ends(t, q, what+" of the threads")
			q = p
			q.Objects = stretch(p.Objects, n)
			ends(t, q, what+" of the addresses of objects")
			q.Part.Objects = stretch(p.Part.Objects, n)
			ends(t, q, what+" of both lists of objects")
			q.Objects = p.Objects
			ends(t, q, what+" of the objects")
		}
	}
}

// stretch answers a new list of n elements: those of l, again and again.
func stretch[E any](l []E, n int) []E {
	to := make([]E, n)
	for i := range to {
		if len(l) > 0 {
			to[i] = l[i%len(l)]
		}
	}
	return to
}

// R1, P12.2: a Part that is wrong.
func TestBootOfWrongParts(t *testing.T) {
	for i := range 6 {
		for what, th := range wrongThreads(8) {
			p := of(t, greatest())
			p.Part.Threads[i] = th
			ends(t, p, fmt.Sprint(what, " of the thread ", i))
		}
	}
	for i := range 8 {
		for _, o := range wrongObjects() {
			p := of(t, greatest())
			p.Part.Objects[i] = o
			ends(t, p, fmt.Sprintf("%+v as the object %d", o, i))
		}
	}
	for _, n := range far {
		p := of(t, greatest())
		fill(p.Part.Threads, api.Thread{Priority: n})
		fill(p.Part.Objects, api.Object{Kind: pool, Size: n})
		ends(t, p, fmt.Sprint("all of ", n))
	}
}

// P12.2: behind plans that Of doesn't make one that it makes is booted as ever.
func TestBootBehindStrangeOnes(t *testing.T) {
	p := of(t, greatest())
	bad := of(t, greatest())
	fill(bad.Threads, bad.Ready)
	fill(bad.Objects, bad.Timers)
	ends(t, bad, "all at the same places")
	asAtFirst(t, p, plan.Boot(p))
}
