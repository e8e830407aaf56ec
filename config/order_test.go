package config_test

import (
	"fmt"
	"math/bits"
	"slices"
	"testing"

	"septum/api"
)

// fault is one thing that is wrong: its group's place in the chapter's order, which member of the
// group it is, and its number.
type fault struct{ group, member, number int }

// faults answers all that is wrong with c, in no order.
func faults(c api.Config) []fault {
	var all []fault
	add := func(is bool, f fault) {
		if is {
			all = append(all, f)
		}
	}
	add(len(c.Parts) == 0 || len(c.Parts) > 4, fault{0, 0, 1})
	for i, p := range c.Parts {
		add(len(p.Threads) == 0 || len(p.Threads) > 6, fault{1, i, 2})
		add(len(p.Objects) > 8, fault{1, i, 3})
		for _, th := range p.Threads {
			bits := uint64(1)<<min(len(p.Objects), 32) - 1
			add(th.Priority < 0 || th.Priority > 15, fault{1, i, 4})
			add(uint64(th.Caps)&^bits != 0, fault{1, i, 4})
			add(len(th.Program) > 40, fault{1, i, 4})
		}
		for _, o := range p.Objects {
			if add(o.Kind < 0 || o.Kind > 7, fault{1, i, 5}); o.Kind >= 0 && o.Kind <= 7 {
				add(o.Size < sizes[o.Kind][0] || o.Size > sizes[o.Kind][1], fault{1, i, 5})
				add(o.Priority && !waits[o.Kind], fault{1, i, 5})
			}
		}
		add(!slices.ContainsFunc(c.Windows, func(w api.Window) bool { return w.Part == i }), fault{4, i, 8})
	}
	add(len(c.Windows) == 0 || len(c.Windows) > 16, fault{2, 0, 6})
	for i, w := range c.Windows {
		add(w.Part < 0 || w.Part >= len(c.Parts) || w.Ticks < 1 || w.Ticks > 100, fault{3, i, 7})
	}
	add(len(c.Channels) > 8, fault{5, 0, 9})
	for i, a := range c.Channels {
		add(!leadsRight(c, a), fault{6, i, 10})
		for _, b := range c.Channels[:i] {
			add(a.From == b.From && a.Out == b.Out, fault{6, i, 11})
			add(a.To == b.To && a.In == b.In, fault{6, i, 11})
		}
	}
	return all
}

// leadsRight tells whether a channel leads from an Out to another partition's In.
func leadsRight(c api.Config, ch api.Channel) bool {
	kind := func(part, object int) int {
		for i, p := range c.Parts {
			for k, o := range p.Objects {
				if i == part && k == object {
					return o.Kind
				}
			}
		}
		return -1
	}
	return kind(ch.From, ch.Out) == 6 && kind(ch.To, ch.In) == 7 && ch.From != ch.To
}

// first answers the number of what is wrong first, 0 if nothing is.
func first(all []fault) int {
	if len(all) == 0 {
		return 0
	}
	least := slices.MinFunc(all, func(a, b fault) int {
		return slices.Compare([]int{a.group, a.member, a.number}, []int{b.group, b.member, b.number})
	})
	return least.number
}

// turn makes one thing wrong with a configuration; it is number, where nothing else is wrong.
type turn struct {
	name   string
	number int
	do     func(*api.Config)
}

// turnsOfPart make something wrong with the partition i, unless it isn't there.
func turnsOfPart(i int) []turn {
	part := func(name string, number int, do func(*api.Part)) turn {
		return turn{fmt.Sprint(name, " of ", i), number, func(c *api.Config) {
			if i < len(c.Parts) {
				do(&c.Parts[i])
			}
		}}
	}
	ofThread := func(k int, name string, do func(*api.Thread)) turn {
		return part(fmt.Sprint("thread ", k, name), 4, func(p *api.Part) {
			if k < len(p.Threads) {
				do(&p.Threads[k])
			}
		})
	}
	ofObject := func(k int, o api.Object) turn {
		return part(fmt.Sprint("object ", k), 5, func(p *api.Part) {
			if k < len(p.Objects) {
				p.Objects[k] = o
			}
		})
	}
	return []turn{
		part("no thread", 2, func(p *api.Part) { p.Threads = nil }),
		part("seven threads", 2, func(p *api.Part) { p.Threads = append(slices.Clip(p.Threads), p.Threads...) }),
		part("nine objects", 3, func(p *api.Part) { p.Objects = append(slices.Clip(p.Objects), api.Object{}) }),
		ofThread(0, "'s priority", func(th *api.Thread) { th.Priority = 16 }),
		ofThread(5, "'s Caps", func(th *api.Thread) { th.Caps = 1 << 8 }),
		ofThread(3, "'s program", func(th *api.Thread) { th.Program = make([]api.Call, 41) }),
		ofObject(0, api.Object{Kind: 8}),
		ofObject(7, api.Object{Kind: 2, Size: 17}),
		ofObject(6, api.Object{Kind: 1, Priority: true}),
	}
}

// turns make something wrong, each of the eleven things in several ways.
func turns() []turn {
	all := []turn{
		{"no partition", 1, func(c *api.Config) { c.Parts = nil }},
		{"five partitions", 1, func(c *api.Config) { c.Parts = append(c.Parts, api.Part{}) }},
		{"no window", 6, func(c *api.Config) { c.Windows = nil }},
		{"17 windows", 6, func(c *api.Config) { c.Windows = append(c.Windows, api.Window{Part: 0, Ticks: 1}) }},
		{"nine channels", 9, func(c *api.Config) { c.Channels = append(c.Channels, api.Channel{From: 0, Out: 2, To: 1, In: 5}) }},
	}
	for i := range 4 {
		all = append(all, turnsOfPart(i)...)
		all = append(all, turn{fmt.Sprint("no window of ", i), 8, func(c *api.Config) {
			c.Windows = slices.DeleteFunc(c.Windows, func(w api.Window) bool { return w.Part == i })
		}})
	}
	for _, i := range []int{0, 5, 11} {
		all = append(all, turnsOfWindow(i)...)
	}
	for i := range 8 {
		all = append(all, turnsOfChannel(i)...)
	}
	return all
}

// turnsOfWindow make something wrong with the window i, unless it isn't there.
func turnsOfWindow(i int) []turn {
	window := func(name string, do func(*api.Window)) turn {
		return turn{fmt.Sprint(name, " of window ", i), 7, func(c *api.Config) {
			if i < len(c.Windows) {
				do(&c.Windows[i])
			}
		}}
	}
	return []turn{
		window("ticks", func(w *api.Window) { w.Ticks = 0 }),
		window("partition", func(w *api.Window) { w.Part = 4 }),
	}
}

// turnsOfChannel make something wrong with the channel i, or with an end of it and of another one.
func turnsOfChannel(i int) []turn {
	channel := func(name string, number int, do func(ch, other *api.Channel)) turn {
		return turn{fmt.Sprint(name, " of channel ", i), number, func(c *api.Config) {
			do(&c.Channels[i], &c.Channels[(i+3)%8])
		}}
	}
	return []turn{
		channel("From", 10, func(ch, _ *api.Channel) { ch.From = -1 }),
		channel("Out", 10, func(ch, _ *api.Channel) { ch.Out = 3 }),
		channel("To", 10, func(ch, _ *api.Channel) { ch.To = ch.From }),
		channel("In", 10, func(ch, _ *api.Channel) { ch.In = 8 }),
		channel("the Out", 11, func(ch, other *api.Channel) {
			*ch = api.Channel{From: other.From, Out: other.Out, To: (other.From + 1) % 4, In: 5}
		}),
		channel("the In", 11, func(ch, other *api.Channel) {
			*ch = api.Channel{From: (other.To + 1) % 4, Out: 2, To: other.To, In: other.In}
		}),
	}
}

// P11.1: each of the eleven things alone.
func TestEachAlone(t *testing.T) {
	seen := map[int]int{}
	for _, a := range turns() {
		c := greatest()
		a.do(&c)
		wrong(t, c, a.number, a.name)
		if want := first(faults(c)); want != a.number {
			t.Errorf("%s: the test itself finds %d", a.name, want)
		}
		seen[a.number]++
	}
	if len(seen) != 11 {
		t.Errorf("%d of 11 things", len(seen))
	}
}

// P11.1, R6: any two things at once, done in each order: the one that the chapter names first.
func TestAnyTwo(t *testing.T) {
	for i, a := range turns() {
		for k, b := range turns() {
			if i == k {
				continue
			}
			c := greatest()
			a.do(&c)
			b.do(&c)
			if want := first(faults(c)); want == 0 {
				right(t, c, a.name+" and "+b.name)
			} else {
				wrong(t, c, want, a.name+" and "+b.name)
			}
		}
	}
}

// two applies the turns of these names to the greatest configuration.
func two(t *testing.T, names ...string) api.Config {
	t.Helper()
	c := greatest()
	for _, name := range names {
		i := slices.IndexFunc(turns(), func(a turn) bool { return a.name == name })
		if i < 0 {
			t.Fatalf("no turn %q", name)
		}
		turns()[i].do(&c)
	}
	return c
}

// P11.1, R6: two things of which the number is told here, and not worked out.
func TestTwoByName(t *testing.T) {
	for _, l := range []struct {
		a, b string
		want int
	}{
		{"five partitions", "no thread of 0", 1}, {"five partitions", "17 windows", 1}, {"no partition", "no window", 1},
		{"no thread of 1", "nine objects of 1", 2}, {"seven threads of 2", "thread 0's priority of 2", 2},
		{"no thread of 1", "nine objects of 0", 3}, {"no thread of 3", "object 0 of 0", 5}, {"no thread of 3", "thread 5's Caps of 2", 4},
		{"nine objects of 1", "thread 3's program of 1", 3}, {"nine objects of 2", "thread 3's program of 1", 4},
		{"thread 5's Caps of 0", "object 0 of 0", 4}, {"thread 0's priority of 1", "object 7 of 0", 5},
		{"object 6 of 3", "no window", 5}, {"object 6 of 3", "nine channels", 5}, {"thread 0's priority of 3", "ticks of window 0", 4},
		{"no window", "nine channels", 6}, {"17 windows", "ticks of window 0", 6}, {"17 windows", "no window of 1", 8},
		{"ticks of window 11", "no window of 0", 7}, {"partition of window 5", "nine channels", 7}, {"partition of window 0", "From of channel 0", 7},
		{"no window of 3", "nine channels", 8}, {"no window of 3", "In of channel 0", 8}, {"no window of 0", "the Out of channel 7", 8},
		{"nine channels", "From of channel 0", 9}, {"nine channels", "the In of channel 1", 9},
		{"From of channel 0", "the Out of channel 7", 10}, {"the Out of channel 7", "To of channel 5", 10},
		{"the In of channel 5", "Out of channel 6", 11}, {"the Out of channel 6", "In of channel 7", 11},
	} {
		wrong(t, two(t, l.a, l.b), l.want, l.a+" and "+l.b)
		wrong(t, two(t, l.b, l.a), l.want, l.b+" and "+l.a)
	}
}

// P11.1: of the first partition with which something is wrong the least of 2 to 5 counts, however
// many things are wrong with it, and with one behind it.
func TestFirstWrongPart(t *testing.T) {
	turns := []func(*api.Part){
		func(p *api.Part) { p.Threads = slices.Repeat(p.Threads[:1], 7) },
		func(p *api.Part) { p.Objects = append(p.Objects, api.Object{}) },
		func(p *api.Part) { p.Threads[0].Priority = -1 },
		func(p *api.Part) { p.Objects[3].Size = 1 },
	}
	spoil := func(p *api.Part, which int) {
		for n, do := range turns {
			if which>>n&1 != 0 {
				do(p)
			}
		}
	}
	for i := range 4 {
		for k := i + 1; k < 4; k++ {
			for ahead := 1; ahead < 16; ahead++ {
				for behind := range 16 {
					c := every(4)
					spoil(&c.Parts[i], ahead)
					spoil(&c.Parts[k], behind)
					wrong(t, c, 2+bits.TrailingZeros(uint(ahead)), fmt.Sprintf("partition %d: %04b, %d: %04b", i, ahead, k, behind))
				}
			}
		}
	}
}

// P11.1: every list of up to four channels out of few: right ones, wrong ones, and such as share an
// end with another.
func TestListsOfChannels(t *testing.T) {
	few := []api.Channel{{From: 0, Out: 0, To: 1, In: 3}, {From: 0, Out: 0, To: 2, In: 3}, {From: 2, Out: 0, To: 1, In: 3},
		{From: 1, Out: 0, To: 0, In: 3}, {From: 1, Out: 1, To: 0, In: 4}, {From: 0, Out: 0, To: 0, In: 3}, {From: 0, Out: 3, To: 1, In: 3},
		{From: 0, Out: 0, To: 1, In: 0}, {From: -1, Out: 0, To: 1, In: 3}, {From: 0, Out: 0, To: 4, In: 3}}
	parts := greatest()
	var all func(list []api.Channel)
	all = func(list []api.Channel) {
		c := parts
		c.Channels = list
		if want := first(faults(c)); want == 0 {
			right(t, c, fmt.Sprint(list))
		} else {
			wrong(t, c, want, fmt.Sprint(list))
		}
		if len(list) == 4 {
			return
		}
		for _, ch := range few {
			all(append(slices.Clip(list), ch))
		}
	}
	all(nil)
}
