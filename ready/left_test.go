package ready_test

import (
	"fmt"
	"slices"
	"testing"

	"septum/api"
	"septum/plan"
	"septum/thread"
)

// roomy answers a list with the same elements, and with spare room that holds other ones.
func roomy[E any](l []E, other E) []E {
	return append(slices.Clip(l), other, other)[:len(l)]
}

// spacious answers a plan of three threads and an object of each kind, of which each list has spare room.
func spacious(t *testing.T) plan.Plan {
	t.Helper()
	p := of(t, api.Part{Threads: threads(4, 2, 9), Objects: objects()})
	p.Threads, p.Objects = roomy(p.Threads, p.Objects[3]), roomy(p.Objects, p.Threads[0])
	p.Part.Threads = roomy(p.Part.Threads, api.Thread{Priority: 15, Caps: 1})
	p.Part.Objects = roomy(p.Part.Objects, api.Object{Kind: 3})
	for i := range p.Part.Threads {
		words := roomy([]int64{1, 2}, 5)
		p.Part.Threads[i].Program = roomy([]api.Call{{Kind: 18, Words: words}}, api.Call{Kind: 7})
	}
	return p
}

// whole tells a plan with all that its lists have, in spare room, too.
func whole(p plan.Plan) string {
	text := fmt.Sprint(p, p.Threads[:cap(p.Threads)], p.Objects[:cap(p.Objects)], p.Part.Threads[:cap(p.Part.Threads)], p.Part.Objects[:cap(p.Part.Objects)])
	for _, th := range p.Part.Threads {
		text += fmt.Sprint(th.Program[:cap(th.Program)])
		for _, call := range th.Program {
			text += fmt.Sprint(call.Words[:cap(call.Words)])
		}
	}
	return text
}

// R3: the plan, its lists, and their spare room are left as they are, and so is but.
func TestArgumentsAreLeft(t *testing.T) {
	p := spacious(t)
	s := begin("spare room", p)
	before := whole(p)
	numbers := roomy([]int{1, 3, -1, 1, 0, 2}, 4)
	was := slices.Clone(numbers[:cap(numbers)])
	for i := -1; i < 5; i++ {
		callAll(s.m, p, i, numbers)
	}
	if after := whole(p); after != before {
		t.Errorf("the plan was %s, and is %s", before, after)
	}
	if after := numbers[:cap(numbers)]; !slices.Equal(after, was) {
		t.Errorf("but was %v, and is %v", was, after)
	}
}

// R3: what stands in spare room doesn't count: neither as a thread's number, nor as one that is left out.
func TestSpareRoomDoesNotCount(t *testing.T) {
	p := spacious(t)
	s := begin("spare room", p)
	for i := len(p.Threads); i < cap(p.Threads)+2; i++ {
		noThread(t, s, p, i)
	}
	for n := range 4 {
		but := []int{1, 2, 0}[:n]
		if got, want := best(t, s.m, p, 9, but...), without([]int{2, 0, 1}, 9, but); !slices.Equal(got, want) {
			t.Errorf("but %v: %v, want %v", but, got, want)
		}
	}
	p.Threads = p.Threads[:2]
	noThread(t, s, p, 2)
	if got := best(t, s.m, p, 9); !slices.Equal(got, []int{0, 1}) {
		t.Errorf("one is cut off: %v", got)
	}
}

// R2, R3: nothing is kept from call to call: of a memory that is the same again, the answers are, too.
func TestNothingIsKept(t *testing.T) {
	p := spacious(t)
	s := begin("once more", p)
	for range 3 {
		if got := best(t, s.m, p, 2, 0); !slices.Equal(got, []int{2, 1}) {
			t.Errorf("Best of 2: %v", got)
		}
		s.Unready(t, 2, thread.Suspended)
		if got := best(t, s.m, p, 2, 0); !slices.Equal(got, []int{1}) {
			t.Errorf("Best of 2, of two that are ready: %v", got)
		}
		s.Ready(t, 2)
	}
	for a, v := range s.boot {
		s.m.Store(a, v)
	}
	s.check(t, "as at the beginning")
	p.Threads[0], p.Threads[2] = p.Threads[2], p.Threads[0]
	if got := best(t, s.m, p, 9); !slices.Equal(got, []int{0, 2, 1}) {
		t.Errorf("two have changed places: %v", got)
	}
}
