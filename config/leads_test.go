package config_test

import (
	"math"
	"slices"
	"testing"

	"septum/api"
	"septum/config"
)

// windows makes a configuration of nothing but windows of so many ticks each.
func windows(ticks ...int) api.Config {
	var c api.Config
	for i, n := range ticks {
		c.Windows = append(c.Windows, api.Window{Part: i % 4, Ticks: n})
	}
	return c
}

// P11.2: Frame is how many ticks all windows take.
func TestFrame(t *testing.T) {
	for _, l := range []struct {
		c    api.Config
		want int
	}{
		{bare(1), 1}, {bare(4), 10}, {line(), 6}, {greatest(), 1600}, {api.Config{}, 0},
		{windows(1), 1}, {windows(100), 100}, {windows(1, 100, 3), 104}, {windows(7, 7, 7), 21},
		{windows(0), 0}, {windows(-1), 0}, {windows(101), 0}, {windows(0, 5, -1, 6, 101, 7), 18},
		{windows(-5, 5), 5}, {windows(100, 101, 99), 199}, {windows(50, math.MaxInt, 50, math.MinInt), 100},
	} {
		if got := config.Frame(l.c); got != l.want {
			t.Errorf("Frame of %v: %d, want %d", l.c.Windows, got, l.want)
		}
	}
	for n := -300; n < 300; n++ {
		want := 0
		if n >= 1 && n <= 100 {
			want = n
		}
		if got := config.Frame(windows(n)); got != want {
			t.Errorf("Frame of %d ticks: %d", n, got)
		}
		if got := config.Frame(windows(9, n, 1)); got != want+10 {
			t.Errorf("Frame of 9, %d, 1 ticks: %d", n, got)
		}
	}
	for _, n := range far {
		if got := config.Frame(windows(n, 3, n, n)); got != 3 {
			t.Errorf("Frame of %d, 3, %d, %d ticks: %d", n, n, n, got)
		}
	}
}

// P11.2: Frame counts the windows of a configuration with which something is wrong, too: of more
// than there may be, and of partitions that aren't there.
func TestFrameOfWrongOnes(t *testing.T) {
	c := windows(slices.Repeat([]int{100}, 17)...)
	if got := config.Frame(c); got != 1700 {
		t.Errorf("17 windows: %d", got)
	}
	for _, n := range append([]int{-1, 4}, far...) {
		c = api.Config{Windows: []api.Window{{Part: n, Ticks: 5}, {Part: 0, Ticks: 6}}}
		if got := config.Frame(c); got != 11 {
			t.Errorf("a window of partition %d: %d", n, got)
		}
	}
	for _, a := range turns() {
		c, want := greatest(), 0
		a.do(&c)
		for _, w := range c.Windows {
			if w.Ticks >= 1 && w.Ticks <= 100 {
				want += w.Ticks
			}
		}
		if got := config.Frame(c); got != want {
			t.Errorf("%s: %d, want %d", a.name, got, want)
		}
	}
}

// P11.2: Frame is at most 2^31 - 1, however many windows there are.
func TestFrameOfMany(t *testing.T) {
	const most = 1<<31 - 1
	const full = most / 100
	c := api.Config{Windows: make([]api.Window, full+3)}
	for i := range full {
		c.Windows[i].Ticks = 100
	}
	for _, l := range []struct{ a, b, c, want int }{
		{0, 0, 0, full * 100}, {46, 0, 0, most - 1}, {46, 1, 0, most}, {47, 0, 0, most}, {47, 0, 101, most}, {0, -1, 47, most},
		{47, 1, 0, most}, {48, 0, 0, most}, {46, 2, 0, most}, {100, 100, 100, most}, {48, 0, -1, most}, {46, 100, 1, most}, {46, 0, 1, most},
	} {
		c.Windows[full].Ticks, c.Windows[full+1].Ticks, c.Windows[full+2].Ticks = l.a, l.b, l.c
		if got := config.Frame(c); got != l.want {
			t.Errorf("behind %d windows of 100 ticks %d, %d and %d: %d, want %d", full, l.a, l.b, l.c, got, l.want)
		}
	}
	wrong(t, api.Config{Parts: bare(1).Parts, Windows: c.Windows}, 6, "many windows")
}

// leads fails the test, unless Leads of these partitions is want.
func leads(t *testing.T, c api.Config, from, to int, want bool) {
	t.Helper()
	if got := config.Leads(c, from, to); got != want {
		t.Errorf("Leads of %d, %d by %v: %t", from, to, c.Channels, got)
	}
}

// P11.2: the chapter's example, a ring, both directions, and no channel.
func TestLeads(t *testing.T) {
	for from := range 4 {
		for to := range 4 {
			leads(t, ringOf(4), from, to, true)
			leads(t, greatest(), from, to, true)
			leads(t, bare(4), from, to, from == to)
			if from < 3 && to < 3 {
				leads(t, line(), from, to, from <= to)
				leads(t, ringOf(3), from, to, true)
			}
			if from < 2 && to < 2 {
				leads(t, ringOf(2), from, to, true)
			}
		}
	}
	leads(t, line(), 0, 2, true)
	leads(t, line(), 2, 0, false)
}

// P11.2: every choice of channels between four partitions, in both orders, and with each of them
// twice: as the closure of their ways says.
func TestLeadsOfEveryChoice(t *testing.T) {
	for choice := range 1 << 12 {
		var list []api.Channel
		var way [4][4]bool
		for n := range 12 {
			from, to := n/3, n%3
			if to >= from {
				to++
			}
			if choice>>n&1 != 0 {
				list = append(list, api.Channel{From: from, Out: n, To: to, In: n})
				way[from][to] = true
			}
		}
		for by := range 4 {
			way[by][by] = true
			for from := range 4 {
				for to := range 4 {
					way[from][to] = way[from][to] || way[from][by] && way[by][to]
				}
			}
		}
		back := slices.Clone(list)
		slices.Reverse(back)
		for _, l := range [][]api.Channel{list, back, append(slices.Clip(list), back...)} {
			c := api.Config{Parts: bare(4).Parts, Channels: l}
			for from := range 4 {
				for to := range 4 {
					leads(t, c, from, to, way[from][to])
				}
			}
		}
	}
}

// P11.2: a channel's objects, partitions and windows make no difference.
func TestLeadsAsksChannelsAlone(t *testing.T) {
	for _, n := range append([]int{-1, 8}, far...) {
		c := api.Config{Channels: []api.Channel{{From: 0, Out: n, To: 1, In: n}, {From: 1, Out: n, To: 2, In: n}}}
		leads(t, c, 0, 2, true)
		leads(t, c, 2, 0, false)
		leads(t, c, n, 2, n == 2 || n == 0 || n == 1)
	}
}

// P11.2, R1: partitions that aren't there: one leads to itself, and from one to another only where
// channels say so.
func TestLeadsOfWhatIsNot(t *testing.T) {
	for _, n := range append([]int{-1, 3, 4, 5}, far...) {
		for _, c := range []api.Config{{}, bare(1), line(), ringOf(3)} {
			leads(t, c, n, n, true)
			for _, k := range []int{0, 1, 2, n ^ 1, n ^ 1<<40} {
				leads(t, c, n, k, false)
				leads(t, c, k, n, false)
			}
		}
		c := line()
		c.Channels = append(c.Channels, api.Channel{From: 2, Out: 6, To: n, In: 7}, api.Channel{From: n, Out: 6, To: n ^ 1<<40, In: 7})
		leads(t, c, 0, n, true)
		leads(t, c, 0, n^1<<40, true)
		leads(t, c, n, 0, false)
		leads(t, c, n^1<<40, n, false)
		leads(t, c, n, n^1<<41, false)
	}
}

// P11.2, R1: a channel from a partition to itself leads nowhere else, and Leads ends.
func TestLeadsToThemselves(t *testing.T) {
	c := api.Config{Channels: []api.Channel{{From: 0, To: 0}, {From: 1, To: 1}, {From: 0, To: 0}, {From: 1, To: 2}, {From: 2, To: 1}}}
	for from := range 4 {
		for to := range 4 {
			leads(t, c, from, to, from == to || from+to == 3 && from*to == 2)
		}
	}
}

// long makes a chain of channels, from 0 to n, in the order in which they lead, or backward.
func long(n int, back bool) api.Config {
	var c api.Config
	for i := range n {
		c.Channels = append(c.Channels, api.Channel{From: i, To: i + 1})
	}
	if back {
		slices.Reverse(c.Channels)
	}
	return c
}

// P11.2, R1: of many channels, in a chain, a ring, and between any two of many, Leads ends soon.
func TestLeadsOfMany(t *testing.T) {
	const n = 200000
	ask := func(c api.Config, from, to int, want bool) {
		t.Helper()
		if got := config.Leads(c, from, to); got != want {
			t.Errorf("Leads of %d, %d: %t", from, to, got)
		}
	}
	for _, back := range []bool{false, true} {
		c := long(n, back)
		ask(c, 0, n, true)
		ask(c, n, 0, false)
		ask(c, 1, 0, false)
		ask(c, 0, n+1, false)
		c.Channels = append(c.Channels, api.Channel{From: n, To: 0})
		ask(c, n/2, n/2-1, true)
		ask(c, 0, -1, false)
	}
	var c api.Config
	for from := range 400 {
		for to := range 400 {
			c.Channels = append(c.Channels, api.Channel{From: from, To: to})
		}
	}
	ask(c, 0, 399, true)
	ask(c, 399, 0, true)
	ask(c, 0, 400, false)
}

// P11.2: Leads of a configuration with which something is wrong: its channels as they stand.
func TestLeadsOfWrongOnes(t *testing.T) {
	for _, a := range turns() {
		c := greatest()
		a.do(&c)
		for from := -1; from < 6; from++ {
			reached := reach(c.Channels, from)
			for to := -1; to < 6; to++ {
				leads(t, c, from, to, slices.Contains(reached, to))
			}
		}
	}
	for _, l := range []struct {
		turn     string
		from, to int
		want     bool
	}{
		{"no partition", 0, 3, true}, {"five partitions", 4, 0, false}, {"five partitions", 4, 4, true}, {"no window", 3, 2, true},
		{"nine channels", 2, 1, true}, {"From of channel 0", -1, 1, true}, {"From of channel 0", -1, 0, true}, {"From of channel 0", 0, -1, false},
	} {
		leads(t, two(t, l.turn), l.from, l.to, l.want)
	}
}

// reach answers all partitions to which channels lead from one, itself among them: it goes through
// all channels till none of them adds another one.
func reach(list []api.Channel, from int) []int {
	reached := []int{from}
	for again := true; again; {
		again = false
		for _, ch := range list {
			if slices.Contains(reached, ch.From) && !slices.Contains(reached, ch.To) {
				reached, again = append(reached, ch.To), true
			}
		}
	}
	return reached
}
