package wait_test

import (
	"fmt"
	"slices"
	"testing"

	"septum/api"
	"septum/frame"
	"septum/plan"
	"septum/wait"
)

// roomy answers a list with the same elements, and with spare room that holds other ones.
func roomy[E any](l []E, other E) []E {
	return append(append(make([]E, 0, len(l)+2), l...), other, other)[:len(l)]
}

// spacious answers a plan of three threads and two objects, of which each list has spare room.
func spacious(t *testing.T) plan.Plan {
	t.Helper()
	p := of(t, api.Part{Threads: threads(4, 2, 9), Objects: both()})
	p.Threads, p.Objects = roomy(p.Threads, p.Objects[1]), roomy(p.Objects, p.Threads[0])
	p.Part.Threads = roomy(p.Part.Threads, api.Thread{Priority: 15, Caps: 1})
	p.Part.Objects = roomy(p.Part.Objects, api.Object{Kind: 3, Priority: true})
	for i := range p.Part.Threads {
		words := roomy([]int64{1, 2}, 5)
		p.Part.Threads[i].Program = roomy([]api.Call{{Kind: 18, Words: words}}, api.Call{Kind: 7})
	}
	return p
}

// whole tells a plan with all that its lists have, in spare room, too.
func whole(p plan.Plan) string {
	text := fmt.Sprint(p, p.Threads[:cap(p.Threads)], p.Objects[:cap(p.Objects)], p.Part.Threads[:cap(p.Part.Threads)], p.Part.Objects[:cap(p.Part.Objects)])
	for _, th := range p.Part.Threads {
		text += fmt.Sprint(th.Program[:cap(th.Program)])
		for _, call := range th.Program {
			text += fmt.Sprint(call.Words[:cap(call.Words)])
		}
	}
	return text
}

// R3: the plan, its lists, and their spare room are left as they are.
func TestPlansAreLeft(t *testing.T) {
	p := spacious(t)
	m := plan.Boot(p)
	before := whole(p)
	for i := -1; i <= 4; i++ {
		for o := -1; o <= 4; o++ {
			for side := -1; side <= 2; side++ {
				callAll(m, p, i, o, side, o)
			}
		}
	}
	if after := whole(p); after != before {
		t.Errorf("the plan was %s, and is %s", before, after)
	}
}

// R3: Wake's data, and its spare room, are left as they are, and not kept; what stands in the spare room
// isn't handed over.
func TestDataIsLeft(t *testing.T) {
	for n := range 7 {
		s := begin("data", spacious(t))
		for d := range api.MaxChunk {
			s.Data(t, 1, d, 50)
		}
		data := roomy([]int64{9, 8, 7, 6, 5, 4, 3}[:n], 77)
		before := slices.Clone(data[:cap(data)])
		s.Wait(t, 1, 0, 0, 1)
		s.Wake(t, 1, api.OK, n, data)
		if !slices.Equal(before, data[:cap(data)]) {
			t.Errorf("the data was %v, and is %v", before, data[:cap(data)])
		}
		for k := range data {
			data[k] = -1
		}
		s.check(t, "other data")
	}
}

// R3: what stands in a list's spare room is no thread, and no object.
func TestSpareRoomDoesNotCount(t *testing.T) {
	p := spacious(t)
	for n := range 2 {
		noThread(t, mixed(t, "", p).m, p, len(p.Threads)+n, "spare room")
		noList(t, mixed(t, "", p).m, p, len(p.Objects)+n, 0, "spare room")
	}
	cut := p
	cut.Part.Objects = p.Part.Objects[:1]
	m := plan.Boot(p)
	for i := range 3 {
		play(t, m, func(f *frame.Frame) { wait.Wait(f, cut, i, 1, 0, 0) })
	}
	if got := waiting(t, m, cut, 1, 0); !slices.Equal(got, []int{0, 1, 2}) {
		t.Errorf("the object is cut off: %v wait", got)
	}
}

// R2, R3: nothing is kept from call to call: of a memory that is the same again, the answers are, too.
func TestNothingIsKept(t *testing.T) {
	p := spacious(t)
	var last []int64
	for range 3 {
		s := begin("once more", p)
		s.Wait(t, 2, 1, 0, 2)
		s.Wait(t, 0, 1, 0, 1)
		s.Sleep(t, 1, 1)
		s.Tick(t)
		if l := due(t, s); !slices.Equal(l, []int{0, 1}) {
			t.Errorf("%v are due", l)
		}
		s.Wake(t, 2, api.ErrGone, 1, []int64{3})
		if last != nil && !slices.Equal(last, s.m.Words()) {
			t.Errorf("once more: the words %v are other ones", changes(last, s.m.Words()))
		}
		last = s.m.Words()
	}
}

// R2: two memories of one plan go on by themselves.
func TestMemoriesBesideEachOther(t *testing.T) {
	p := spacious(t)
	one, two := begin("one", p), begin("two", p)
	for i := range p.Threads {
		one.Wait(t, i, 1, 0, 1)
		two.Sleep(t, 2-i, 2)
	}
	two.Tick(t)
	one.Tick(t)
	two.Tick(t)
	if i := one.Expire(t); i != 0 {
		t.Errorf("%d is due", i)
	}
	if l := due(t, two); !slices.Equal(l, []int{2, 1, 0}) {
		t.Errorf("%v are due", l)
	}
}
