package thread_test

import (
	"fmt"
	"slices"
	"testing"

	"septum/api"
	"septum/frame"
	"septum/plan"
	"septum/thread"
	"septum/word"
)

// roomy answers a list with the same elements, and with spare room that holds other ones.
func roomy[E any](l []E, other E) []E {
	return append(slices.Clip(l), other, other)[:len(l)]
}

// spacious answers a plan of three threads and an object of each kind, of which each list has spare
// room, and where the address stands that is in the spare room of the threads'.
func spacious(t *testing.T) (plan.Plan, int) {
	t.Helper()
	p := of(t, api.Part{Threads: threads(4, 2, 9), Objects: objects()})
	spare := p.Objects[3]
	p.Threads, p.Objects = roomy(p.Threads, spare), roomy(p.Objects, p.Threads[0])
	p.Part.Threads = roomy(p.Part.Threads, api.Thread{Priority: 15, Caps: 1})
	p.Part.Objects = roomy(p.Part.Objects, api.Object{Kind: 3})
	for i := range p.Part.Threads {
		words := roomy([]int64{1, 2}, 5)
		p.Part.Threads[i].Program = roomy([]api.Call{{Kind: 18, Words: words}}, api.Call{Kind: 7})
	}
	return p, spare
}

// whole tells a plan with all that its lists have, in spare room, too.
func whole(p plan.Plan) string {
	text := fmt.Sprint(p, p.Threads[:cap(p.Threads)], p.Objects[:cap(p.Objects)], p.Part.Threads[:cap(p.Part.Threads)], p.Part.Objects[:cap(p.Part.Objects)])
	for _, th := range p.Part.Threads {
		text += fmt.Sprint(th.Program[:cap(th.Program)])
		for _, call := range th.Program {
			text += fmt.Sprint(call.Words[:cap(call.Words)])
		}
	}
	return text
}

// askAll makes each of the layer's calls, of threads and fields that there are, and of others.
func askAll(m *word.Mem, p plan.Plan) {
	for i := -1; i <= len(p.Threads)+2; i++ {
		thread.Of(p, thread.Node(p, i))
		thread.OfTimer(p, thread.Timer(p, i))
		for field := -1; field <= thread.Fields; field++ {
			frame.Run(m, func(f *frame.Frame) { thread.Set(f, p, i, field, thread.Get(f, p, i, field)+1) }, 2)
		}
	}
	for a := -2; a < p.Words+2; a++ {
		thread.Of(p, a)
		thread.OfTimer(p, a)
	}
}

// R3: the plan, its lists, and their spare room are left as they are.
func TestThePlanIsLeft(t *testing.T) {
	p, _ := spacious(t)
	m := plan.Boot(p)
	before := whole(p)
	askAll(m, p)
	if after := whole(p); after != before {
		t.Errorf("the plan was %s, and is %s", before, after)
	}
}

// R3: what stands in spare room doesn't count: neither as a thread's number nor as a node.
func TestSpareRoomDoesNotCount(t *testing.T) {
	p, spare := spacious(t)
	for i := len(p.Threads); i < cap(p.Threads)+2; i++ {
		noThread(t, "in spare room", p, i)
	}
	noNode(t, "in spare room", p, spare)
	noNode(t, "in spare room", p, spare+2)
	p.Threads = p.Threads[:1]
	noThread(t, "cut off", p, 1)
	none := p
	none.Threads = p.Threads[:0]
	noThread(t, "all cut off", none, 0)
	noNode(t, "all cut off", none, p.Threads[0])
}

// R3: nothing of a plan is kept: what is asked of it later is answered as it stands then, and
// nothing of one plan counts for another.
func TestNothingIsKept(t *testing.T) {
	p, _ := spacious(t)
	askAll(plan.Boot(p), p)
	was := p.Threads[1]
	p.Threads[1] = p.Words + 30
	if n, timer := thread.Node(p, 1), thread.Timer(p, 1); n != p.Words+30 || timer != p.Words+32 {
		t.Errorf("the node at %d, the timer's node at %d", n, timer)
	}
	noNode(t, "where it stood", p, was)
	m := word.New(p.Words + 60)
	set(t, m, p, 1, thread.Held, 3)
	if changed := changes(make([]int64, m.Len()), m.Words()); len(changed) != 1 || changed[0] < p.Words+35 || changed[0] >= p.Words+54 {
		t.Errorf("the words %v are changed", changed)
	}
	one := of(t, api.Part{Threads: threads(1)})
	noThread(t, "one thread, behind three", one, 1)
}
