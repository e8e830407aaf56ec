package plan_test

import (
	"fmt"
	"reflect"
	"slices"
	"testing"

	"septum/api"
	"septum/plan"
	"septum/word"
)

// roomy answers a list with the same elements, and with spare room that holds other ones.
func roomy[E any](l []E, other E) []E {
	return append(slices.Clip(l), other, other)[:len(l)]
}

// spacious makes a partition with which nothing is wrong, of which each list has spare room. What
// stands in the spare room would be right as well, and has lists of its own.
func spacious() api.Part {
	p := programs()
	for i := range p.Threads {
		th := &p.Threads[i]
		for n := range th.Program {
			th.Program[n].Words = roomy(th.Program[n].Words, 77)
		}
		th.Program = roomy(th.Program, api.Call{Kind: 19, Words: []int64{71, 72}})
	}
	p.Threads = roomy(p.Threads, api.Thread{Priority: 15, Caps: 3, Program: []api.Call{{Kind: 7, Words: []int64{73}}}})
	p.Objects = roomy(p.Objects[:6:6], api.Object{Kind: pool, Size: 11})
	for i := range p.Threads {
		p.Threads[i].Caps &= 0x3f
	}
	return p
}

// spaciousPlan answers a plan of that partition, of which each list has spare room.
func spaciousPlan(t *testing.T) plan.Plan {
	t.Helper()
	p := of(t, spacious())
	p.Threads, p.Objects = roomy(p.Threads, p.Words-24), roomy(p.Objects, p.Words-24)
	p.Part = spacious()
	return p
}

// stretched answers a copy of a list, its spare room among the elements.
func stretched[E any](l []E) []E {
	return append([]E{}, l[:cap(l)]...)
}

// whole answers a copy of p in which all lists are stretched, those in spare room, too.
func whole(p api.Part) api.Part {
	p = api.Part{Threads: stretched(p.Threads), Objects: stretched(p.Objects)}
	for i := range p.Threads {
		th := &p.Threads[i]
		th.Program = stretched(th.Program)
		for n := range th.Program {
			th.Program[n].Words = stretched(th.Program[n].Words)
		}
	}
	return p
}

// wholePlan answers a copy of p in which all lists are stretched.
func wholePlan(p plan.Plan) plan.Plan {
	p.Threads, p.Objects, p.Part = stretched(p.Threads), stretched(p.Objects), whole(p.Part)
	return p
}

// fill writes an element into all of a list, its spare room, too.
func fill[E any](l []E, e E) {
	for i := range l[:cap(l)] {
		l[:cap(l)][i] = e
	}
}

// writers answers for each list of p, by its name, what writes into all of it. What it writes would
// be right, too.
func writers(p api.Part) map[string]func() {
	all := map[string]func(){
		"Threads": func() { fill(p.Threads, api.Thread{Priority: 12, Caps: 1, Control: true}) },
		"Objects": func() { fill(p.Objects, api.Object{Kind: pool, Size: 13, Priority: true}) },
	}
	for i, th := range p.Threads {
		at := fmt.Sprint("Threads ", i)
		all[at+", Program"] = func() { fill(th.Program, api.Call{Kind: 101, Handle: 102, A: 103, B: 104, Timeout: 105}) }
		for n, call := range th.Program {
			all[fmt.Sprint(at, ", Program ", n, ", Words")] = func() { fill(call.Words, 106) }
		}
	}
	return all
}

// planWriters answers likewise for each list of a plan.
func planWriters(p plan.Plan) map[string]func() {
	all := map[string]func(){
		"the plan's Threads": func() { fill(p.Threads, 3) },
		"the plan's Objects": func() { fill(p.Objects, 5) },
	}
	for name, write := range writers(p.Part) {
		all["the Part's "+name] = write
	}
	return all
}

// scrawl writes into each word of a memory.
func scrawl(m *word.Mem) {
	for a := range m.Len() {
		m.Store(a, int64(-1000-a))
	}
}

// R3: a plan, and a memory, are left as they are when the partition that was handed in is written,
// in each list and in the spare room of each.
func TestWriteThePartition(t *testing.T) {
	for name := range writers(spacious()) {
		part := spacious()
		p := of(t, part)
		m := plan.Boot(p)
		before, words := wholePlan(p), m.Words()
		writers(part)[name]()
		if reflect.DeepEqual(whole(part), whole(spacious())) {
			t.Errorf("%s isn't written", name)
		}
		if !reflect.DeepEqual(wholePlan(p), before) {
			t.Errorf("%s is written: the plan is %+v", name, p)
		}
		if !slices.Equal(m.Words(), words) || !slices.Equal(plan.Boot(p).Words(), words) {
			t.Errorf("%s is written: the memory is another one", name)
		}
	}
}

// R3: what was handed in is left as it is when the plan, and its Part, are written, in each list and
// in the spare room of each; so is another plan of the same partition, and a memory that was made.
func TestWriteThePlan(t *testing.T) {
	for name := range planWriters(of(t, spacious())) {
		part := spacious()
		p, other := of(t, part), of(t, part)
		m := plan.Boot(p)
		before, beforeOther, beforePart, words := wholePlan(p), wholePlan(other), whole(part), m.Words()
		planWriters(p)[name]()
		if reflect.DeepEqual(wholePlan(p), before) {
			t.Errorf("%s isn't written", name)
		}
		if !reflect.DeepEqual(whole(part), beforePart) {
			t.Errorf("%s is written: what was handed in is %+v", name, part)
		}
		if !reflect.DeepEqual(wholePlan(other), beforeOther) || !reflect.DeepEqual(wholePlan(of(t, part)), beforeOther) {
			t.Errorf("%s is written: other plans are other ones", name)
		}
		if !slices.Equal(m.Words(), words) {
			t.Errorf("%s is written: the memory is another one", name)
		}
	}
}

// R3: what was handed in is left as it is when a memory is written; so is the plan, and another
// memory of it.
func TestWriteTheMemory(t *testing.T) {
	part := spacious()
	p := of(t, part)
	m, other := plan.Boot(p), plan.Boot(p)
	before, beforePart, words := wholePlan(p), whole(part), other.Words()
	scrawl(m)
	if !reflect.DeepEqual(wholePlan(p), before) || !reflect.DeepEqual(whole(part), beforePart) {
		t.Errorf("the memory is written: the plan is %+v, the partition %+v", p, part)
	}
	if !slices.Equal(other.Words(), words) || !slices.Equal(plan.Boot(p).Words(), words) {
		t.Error("the memory is written: another one is, too")
	}
}

// R3: neither call changes what it is handed in, its spare room neither; and a memory is left as it
// is when the plan that was handed in is written.
func TestHandedInIsLeft(t *testing.T) {
	part, beforePart := spacious(), whole(spacious())
	wrong := spacious()
	wrong.Objects[5].Size = 17
	beforeWrong := whole(wrong)
	of(t, part)
	refused(t, wrong, "a wrong object")
	if !reflect.DeepEqual(whole(part), beforePart) || !reflect.DeepEqual(whole(wrong), beforeWrong) {
		t.Errorf("%+v, %+v", part, wrong)
	}
	for name := range planWriters(spaciousPlan(t)) {
		p := spaciousPlan(t)
		before := wholePlan(p)
		m := plan.Boot(p)
		words := m.Words()
		if !reflect.DeepEqual(wholePlan(p), before) {
			t.Errorf("the plan that was handed in is %+v", p)
		}
		planWriters(p)[name]()
		if !slices.Equal(m.Words(), words) {
			t.Errorf("%s is written: the memory is another one", name)
		}
	}
}

// R3: what stands in spare room doesn't count: neither for Of nor for Boot.
func TestSpareRoomDoesNotCount(t *testing.T) {
	part := spacious()
	roomyOne := of(t, part)
	part.Threads, part.Objects = slices.Clip(part.Threads), slices.Clip(part.Objects)
	tight := of(t, part)
	if !reflect.DeepEqual(roomyOne, tight) {
		t.Errorf("%+v, without spare room %+v", roomyOne, tight)
	}
	apart(t, part, roomyOne)
	p := spaciousPlan(t)
	asAtFirst(t, p, plan.Boot(p))
	if !slices.Equal(plan.Boot(p).Words(), plan.Boot(tight).Words()) {
		t.Error("the memory is another one without spare room")
	}
	part.Threads = threads(1, 2)[:0]
	refused(t, part, "the threads are in spare room")
	part = api.Part{Threads: []api.Thread{{Caps: 2}}, Objects: kinds(0)[:1]}
	refused(t, part, "the object is in spare room")
	part.Threads = append(threads(1, 2), threads(16, -1, 1, 1, 1, 1)...)[:2]
	part.Objects = append(kinds(0)[:1:1], make([]api.Object, 8)...)[:1]
	part.Objects[:2][1].Kind = 9
	apart(t, part, of(t, part))
}

// put puts the addresses of all of a list's elements, its spare room's too, into a map.
func put[E any](places map[any]string, name string, l []E) {
	for i := range l[:cap(l)] {
		places[&l[:cap(l)][i]] = name
	}
}

// addresses answers at which addresses the elements of a plan's lists stand, spare room too, and how
// many elements there are.
func addresses(p plan.Plan) (map[any]string, int) {
	places := map[any]string{}
	put(places, "the plan's Threads", p.Threads)
	put(places, "the plan's Objects", p.Objects)
	put(places, "the Part's Threads", p.Part.Threads)
	put(places, "the Part's Objects", p.Part.Objects)
	n := cap(p.Threads) + cap(p.Objects) + cap(p.Part.Threads) + cap(p.Part.Objects)
	for i, th := range p.Part.Threads {
		put(places, fmt.Sprint("Program of ", i), th.Program)
		n += cap(th.Program)
		for k, call := range th.Program {
			put(places, fmt.Sprint("Words of ", i, ", ", k), call.Words)
			n += cap(call.Words)
		}
	}
	return places, n
}

// R3: no two lists of one plan share any memory, even where those that were handed in do; nor do two
// plans of one partition.
func TestNoListsShare(t *testing.T) {
	words := []int64{1, 2, 3, 4}
	program := []api.Call{{Words: words[:2]}, {Words: words[2:]}, {Words: words}, {Words: words[:0]}}
	shared := api.Part{Threads: []api.Thread{{Program: program[:2]}, {Program: program[2:]}, {Program: program}, {Program: program[:0]}}, Objects: kinds(1)}
	for _, part := range []api.Part{shared, spacious(), greatest()} {
		seen, _ := addresses(plan.Plan{Part: part})
		for range 2 {
			places, n := addresses(of(t, part))
			if len(places) != n {
				t.Errorf("%d elements at %d addresses", n, len(places))
			}
			for at, name := range places {
				if was, is := seen[at]; is {
					t.Errorf("%s shares with %s", name, was)
				}
				seen[at] = name + " of another plan"
			}
		}
	}
}

// none answers a list of no elements that is nil, or empty.
func none[E any](empty bool) []E {
	if empty {
		return []E{}
	}
	return nil
}

// R4: a list of no elements may be nil or empty: plans and memories are the same.
func TestNilAndEmpty(t *testing.T) {
	var plans [2]plan.Plan
	var memories [2][]int64
	for i, empty := range []bool{false, true} {
		refused(t, api.Part{Threads: none[api.Thread](empty), Objects: none[api.Object](empty)}, "no threads")
		part := api.Part{Threads: threads(2, 7), Objects: none[api.Object](empty)}
		part.Threads[0].Program = none[api.Call](empty)
		part.Threads[1].Program = []api.Call{{Kind: 18, Words: none[int64](empty)}}
		p := of(t, part)
		apart(t, part, p)
		m := plan.Boot(p)
		asAtFirst(t, p, m)
		plans[i], memories[i] = p, m.Words()
		p.Objects, p.Part.Objects = none[int](!empty), none[api.Object](!empty)
		asAtFirst(t, p, plan.Boot(p))
	}
	if fmt.Sprint(plans[0]) != fmt.Sprint(plans[1]) || !slices.Equal(memories[0], memories[1]) {
		t.Errorf("nil: %+v, empty: %+v", plans[0], plans[1])
	}
}
