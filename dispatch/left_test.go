package dispatch_test

import (
	"fmt"
	"testing"

	"septum/api"
	"septum/frame"
	"septum/plan"
	"septum/ready"
	"septum/thread"
)

// roomy answers a list with the same elements, and with spare room that holds other ones.
func roomy[E any](l []E, other E) []E {
	return append(append(make([]E, 0, len(l)+2), l...), other, other)[:len(l)]
}

// spacious answers a plan of three threads and an object of each kind, of which each list has spare room.
func spacious(t *testing.T) plan.Plan {
	t.Helper()
	p := of(t, api.Part{Threads: threads(4, 2, 9), Objects: objects()})
	p.Threads, p.Objects = roomy(p.Threads, p.Objects[3]), roomy(p.Objects, p.Threads[0])
	p.Part.Threads = roomy(p.Part.Threads, api.Thread{Priority: 15, Caps: 1})
	p.Part.Objects = roomy(p.Part.Objects, api.Object{Kind: 3})
	for i := range p.Part.Threads {
		words := roomy([]int64{1, 2}, 5)
		p.Part.Threads[i].Program = roomy([]api.Call{{Kind: 18, Words: words}}, api.Call{Kind: 7})
	}
	return p
}

// whole tells a plan with all that its lists have, in spare room, too.
func whole(p plan.Plan) string {
	text := fmt.Sprint(p, p.Threads[:cap(p.Threads)], p.Objects[:cap(p.Objects)], p.Part.Threads[:cap(p.Part.Threads)], p.Part.Objects[:cap(p.Part.Objects)])
	for _, th := range p.Part.Threads {
		text += fmt.Sprint(th.Program[:cap(th.Program)])
		for _, call := range th.Program {
			text += fmt.Sprint(call.Words[:cap(call.Words)])
		}
	}
	return text
}

// R3: the plan, its lists, and their spare room are left as they are.
func TestArgumentsAreLeft(t *testing.T) {
	p := spacious(t)
	m := plan.Boot(p)
	before := whole(p)
	for _, i := range []int{2, 0, 1} {
		play(t, m, func(f *frame.Frame) { ready.Unready(f, p, i, thread.Waiting) })
		for core := -1; core <= 2; core++ {
			callAll(m, p, core)
		}
	}
	if after := whole(p); after != before {
		t.Errorf("the plan was %s, and is %s", before, after)
	}
}

// R3: what stands in a list's spare room is no thread.
func TestSpareRoomDoesNotCount(t *testing.T) {
	p := spacious(t)
	s := begin("spare room", p)
	for v := int64(len(p.Threads) + 1); v <= int64(cap(p.Threads)+1); v++ {
		s.m.Store(p.Current[0], v)
		if i := current(t, s.m, p, 0); i != none {
			t.Errorf("CURRENT %d: %d runs", v, i)
		}
	}
	cut := p
	cut.Threads = p.Threads[:2]
	s.m.Store(p.Current[0], 3)
	if i := current(t, s.m, cut, 0); i != none {
		t.Errorf("one is cut off: %d runs", i)
	}
	if i := turn(t, s.m, cut, 0); i != 1 {
		t.Errorf("one is cut off: Dispatch(0): %d", i)
	}
}

// R2, R3: nothing is kept from call to call: of a memory that is the same again, the answers are, too.
func TestNothingIsKept(t *testing.T) {
	p := spacious(t)
	s := begin("once more", p)
	boot := s.m.Words()
	for range 3 {
		s.Unready(t, 2, thread.Suspended)
		s.Hold(t, 0, 1)
		s.Dispatch(t, 1)
		s.Dispatch(t, 0)
		s.Hold(t, 0, 0)
		s.Ready(t, 2)
		s.Dispatch(t, 1)
		for a, v := range boot {
			s.m.Store(a, v)
		}
		s.runs, s.called = [2]int{2, 0}, [2]bool{}
		s.Dispatch(t, 0)
		s.Dispatch(t, 1)
		if changed := changes(boot, s.m.Words()); len(changed) > 0 {
			t.Errorf("of Boot's words once more: %v are changed", changed)
		}
	}
}
