package plan_test

import (
	"fmt"
	"testing"

	"septum/api"
	"septum/plan"
)

// zero tells whether p is the zero plan; its lists may be nil or empty.
func zero(p plan.Plan) bool {
	lists := len(p.Threads) + len(p.Objects) + len(p.Part.Threads) + len(p.Part.Objects)
	places := [10]int{p.Lock, p.IPI[0], p.IPI[1], p.Current[0], p.Current[1], p.Clock, p.Ready, p.Timers, p.Table, p.Words}
	return lists == 0 && places == [10]int{}
}

// refused fails the test, unless Of answers ErrForm and the zero plan.
func refused(t *testing.T, part api.Part, name string) {
	t.Helper()
	for range 2 {
		if p, e := plan.Of(part); e != api.ErrForm || !zero(p) {
			t.Errorf("%s: error %d and %+v, want ErrForm and none", name, int(e), p)
		}
	}
}

// P12.1, R5: 1 to MaxThreads threads.
func TestCountOfThreads(t *testing.T) {
	refused(t, api.Part{}, "nothing at all")
	for n := range 9 {
		refused(t, api.Part{Objects: make([]api.Object, n)}, fmt.Sprint("no thread, objects ", n))
		refused(t, api.Part{Threads: []api.Thread{}, Objects: make([]api.Object, n)}, fmt.Sprint("an empty list of threads, objects ", n))
	}
	for _, n := range []int{7, 8, 9, 24, 255, 256, 257, 262, 1<<16 + 1, 1<<16 + 6} {
		for _, k := range []int{0, 1, 8} {
			refused(t, api.Part{Threads: make([]api.Thread, n), Objects: kinds(1)[:k]}, fmt.Sprint("threads ", n, ", objects ", k))
		}
	}
}

// P12.1, R5: at most MaxObjects objects.
func TestCountOfObjects(t *testing.T) {
	for _, n := range []int{9, 10, 16, 31, 32, 33, 255, 256, 257, 264, 1<<16 + 1} {
		for k := range 8 {
			part := api.Part{Threads: make([]api.Thread, k), Objects: make([]api.Object, n)}
			refused(t, part, fmt.Sprint("threads ", k, ", objects ", n))
		}
	}
}

// places are the first one of n, one in the midst, and the last one.
func places(n int) []int {
	return []int{0, n / 2, n - 1}
}

// wrongThreads are threads of a partition of so many objects with which one thing is wrong.
func wrongThreads(objects int) map[string]api.Thread {
	all := map[string]api.Thread{}
	for _, p := range append([]int{-1, 16, 17}, far...) {
		all[fmt.Sprint("priority ", p)] = api.Thread{Priority: p}
	}
	for bit := objects; bit < 32; bit++ {
		all[fmt.Sprint("Caps' bit ", bit)] = api.Thread{Caps: 1 << bit}
		all[fmt.Sprint("Caps up to the bit ", bit)] = api.Thread{Caps: 1<<(bit+1) - 1}
	}
	for _, n := range []int{41, 42, 80, 256, 257, 296, 1 << 16} {
		all[fmt.Sprint("calls ", n)] = api.Thread{Priority: 15, Program: make([]api.Call, n)}
	}
	return all
}

// P12.1, R5: each thing that can be wrong with a thread, of the first one, one in the midst, and the
// last one, with no objects, with some, and with as many as may be.
func TestWrongThread(t *testing.T) {
	for _, objects := range []int{0, 1, 3, 7, 8} {
		for what, th := range wrongThreads(objects) {
			for n := 1; n <= 6; n++ {
				for _, i := range places(n) {
					part := api.Part{Threads: threads(4, 0, 15, 4, 9, 1)[:n], Objects: kinds(1)[:objects]}
					part.Threads[i] = th
					refused(t, part, fmt.Sprint(what, " of the thread ", i, " of ", n, ", objects ", objects))
				}
			}
		}
	}
}

// wrongObjects are objects with which one thing is wrong.
func wrongObjects() []api.Object {
	var l []api.Object
	for _, kind := range append([]int{-1, 8, 9, 10, 16}, far...) {
		for _, size := range []int{0, 1, 15, 16} {
			l = append(l, api.Object{Kind: kind, Size: size})
		}
	}
	for kind := range 8 {
		least, most := sizes[kind][0], sizes[kind][1]
		for _, size := range append([]int{least - 1, least - 2, most + 1, most + 2}, far...) {
			l = append(l, api.Object{Kind: kind, Size: size})
		}
		if !waits[kind] {
			l = append(l, api.Object{Kind: kind, Size: least, Priority: true}, api.Object{Kind: kind, Size: most, Priority: true})
		}
	}
	return l
}

// P12.1, R5: each thing that can be wrong with an object, of the first one, one in the midst, and
// the last one.
func TestWrongObject(t *testing.T) {
	for _, o := range wrongObjects() {
		for n := 1; n <= 8; n++ {
			for _, i := range places(n) {
				part := api.Part{Threads: threads(4, 0, 15), Objects: kinds(1)[:n]}
				part.Objects[i] = o
				refused(t, part, fmt.Sprintf("%+v as the object %d of %d", o, i, n))
			}
		}
	}
}

// P12.1, R5: several things that are wrong at once.
func TestWrongAtOnce(t *testing.T) {
	part := greatest()
	part.Threads[0].Priority, part.Threads[5].Caps = 16, 1<<8
	part.Objects[0].Kind, part.Objects[7].Size = -1, 17
	refused(t, part, "threads and objects")
	refused(t, api.Part{Threads: make([]api.Thread, 7), Objects: make([]api.Object, 9)}, "too many of both")
	refused(t, api.Part{Objects: make([]api.Object, 9)}, "none of one, too many of the other")
	for _, n := range far {
		one := api.Part{Threads: []api.Thread{{Priority: n, Caps: 1<<32 - 1, Program: make([]api.Call, 41)}}, Objects: []api.Object{{Kind: n, Size: n, Priority: true}}}
		refused(t, one, fmt.Sprint("all of ", n))
	}
}
