package config_test

import (
	"fmt"
	"slices"
	"testing"

	"septum/api"
)

// P11.1, 9: at most MaxChan channels.
func TestCountOfChannels(t *testing.T) {
	for n := range 9 {
		c := greatest()
		c.Channels = c.Channels[:n]
		right(t, c, fmt.Sprint(n, " channels"))
	}
	// The ninth one is as right as all others.
	c := greatest()
	c.Channels = append(c.Channels, api.Channel{From: 0, Out: 2, To: 1, In: 5})
	wrong(t, c, 9, "nine channels")
	right(t, api.Config{Parts: c.Parts, Windows: c.Windows, Channels: c.Channels[1:]}, "the last eight of them")
	for _, n := range []int{10, 16, 256, 257, 264, 1<<16 + 1} {
		c.Channels = make([]api.Channel, n)
		wrong(t, c, 9, fmt.Sprint(n, " channels"))
	}
	c = bare(1)
	c.Channels = make([]api.Channel, 9)
	wrong(t, c, 9, "nine channels of one partition")
}

// channels answers what a configuration is with each of its channels turned, one at a time.
func channels(make func() api.Config, turn func(*api.Channel)) map[string]api.Config {
	all := map[string]api.Config{}
	for i := range make().Channels {
		c := make()
		turn(&c.Channels[i])
		all[fmt.Sprint("channel ", i)] = c
	}
	return all
}

// P11.1, 10: channels of partitions and of objects that aren't there.
func TestChannelsOfWhatIsNot(t *testing.T) {
	none := func(first int) []int { return append([]int{-1, first, first + 1, first + 7}, far...) }
	turns := map[string]func(*api.Channel, int){
		"From": func(ch *api.Channel, n int) { ch.From = n },
		"To":   func(ch *api.Channel, n int) { ch.To = n },
		"both": func(ch *api.Channel, n int) { ch.From, ch.To = n, n },
	}
	for field, turn := range turns {
		for _, n := range none(4) {
			for name, c := range channels(greatest, func(ch *api.Channel) { turn(ch, n) }) {
				wrong(t, c, 10, fmt.Sprint(name, ": ", field, " ", n))
			}
		}
	}
	turns = map[string]func(*api.Channel, int){
		"Out":  func(ch *api.Channel, n int) { ch.Out = n },
		"In":   func(ch *api.Channel, n int) { ch.In = n },
		"both": func(ch *api.Channel, n int) { ch.Out, ch.In = n, n },
	}
	for field, turn := range turns {
		for _, n := range none(8) {
			for name, c := range channels(greatest, func(ch *api.Channel) { turn(ch, n) }) {
				wrong(t, c, 10, fmt.Sprint(name, ": ", field, " ", n))
			}
		}
	}
}

// P11.1, 10: the objects of each end's own partition count, even if the other one has more.
func TestChannelsOfFewObjects(t *testing.T) {
	few := func() api.Config {
		c := every(2)
		c.Parts[1].Threads = c.Parts[1].Threads[:1]
		c.Parts[1].Threads[0].Caps = 0
		c.Parts[1].Objects = []api.Object{{Kind: 7, Size: 1}, {Kind: 6, Size: 1}}
		return c
	}
	for out := -1; out < 9; out++ {
		for in := -1; in < 9; in++ {
			for from := range 2 {
				c := few()
				c.Channels = []api.Channel{{From: from, Out: out, To: 1 - from, In: in}}
				name := fmt.Sprint(c.Channels)
				if from == 0 && out == 6 && in == 0 || from == 1 && out == 1 && in == 7 {
					right(t, c, name)
				} else {
					wrong(t, c, 10, name)
				}
			}
		}
	}
}

// P11.1, 10: a channel leads from an Out to an In, of another partition: all there are of three
// partitions that have an object of each kind.
func TestEveryChannel(t *testing.T) {
	for from := range 3 {
		for to := range 3 {
			for out := range 8 {
				for in := range 8 {
					c := every(3)
					c.Channels = []api.Channel{{From: from, Out: out, To: to, In: in}}
					name := fmt.Sprint(c.Channels)
					if from != to && out == 6 && in == 7 {
						right(t, c, name)
					} else {
						wrong(t, c, 10, name)
					}
				}
			}
		}
	}
}

// P11.1, 10: a channel from a partition to itself, of each one.
func TestChannelsToThemselves(t *testing.T) {
	for name, c := range channels(greatest, func(ch *api.Channel) { ch.To = ch.From }) {
		wrong(t, c, 10, name)
	}
	for name, c := range channels(greatest, func(ch *api.Channel) { ch.From = ch.To }) {
		wrong(t, c, 10, name)
	}
	c := every(1)
	c.Channels = []api.Channel{{From: 0, Out: 6, To: 0, In: 7}}
	wrong(t, c, 10, "one partition alone")
}

// P11.1, 11: an end belongs to one channel alone: any two of the greatest configuration's channels,
// of which the later one has an end of the other.
func TestEndsOfTwo(t *testing.T) {
	for i := range 8 {
		for k := range i {
			c := greatest()
			a, b := &c.Channels[k], &c.Channels[i]
			name := fmt.Sprint("channels ", k, " and ", i)
			*b = *a
			wrong(t, c, 11, name+" are the same")
			*b = api.Channel{From: a.From, Out: a.Out, To: (a.From + 1) % 4, In: 5}
			wrong(t, c, 11, name+" have one Out")
			*b = api.Channel{From: a.From, Out: 2, To: (a.From + 1) % 4, In: 5}
			right(t, c, name+" have a partition, but no Out")
			*b = api.Channel{From: (a.To + 1) % 4, Out: 2, To: a.To, In: a.In}
			wrong(t, c, 11, name+" have one In")
			*b = api.Channel{From: (a.To + 1) % 4, Out: 2, To: a.To, In: 5}
			right(t, c, name+" have a partition, but no In")
			*b = api.Channel{From: a.From, Out: 2, To: a.To, In: 5}
			right(t, c, name+" have both partitions, but no end")
		}
	}
}

// P11.1, 11: ends of the same number are others in other partitions, and so is a channel's way
// back; where one channel has an end of one, and an end of another, it is wrong.
func TestEndsOfOthers(t *testing.T) {
	c := ringOf(4)
	for range 4 {
		c.Channels = append(c.Channels[1:], c.Channels[0])
		right(t, c, "a ring, turned")
	}
	slices.Reverse(c.Channels)
	right(t, c, "a ring, backward")
	c = every(3)
	c.Channels = []api.Channel{{From: 0, Out: 6, To: 1, In: 7}, {From: 2, Out: 6, To: 0, In: 7}}
	right(t, c, "from 0 to 1, from 2 to 0")
	for _, ch := range []api.Channel{{From: 0, Out: 6, To: 2, In: 7}, {From: 1, Out: 6, To: 0, In: 7}, {From: 2, Out: 6, To: 1, In: 7}} {
		c.Channels = append(c.Channels[:2], ch)
		wrong(t, c, 11, fmt.Sprint("with ", ch))
	}
	c.Channels = append(c.Channels[:2], api.Channel{From: 1, Out: 6, To: 2, In: 7})
	right(t, c, "with one that has ends of its own")
}

// P11.1: of 10 and 11 the first channel with which something is wrong counts, and it is the later
// one of two.
func TestFirstWrongChannel(t *testing.T) {
	same, none := api.Channel{From: 0, Out: 0, To: 1, In: 3}, api.Channel{From: 0, Out: 0, To: 9, In: 3}
	noIn := api.Channel{From: 0, Out: 0, To: 1, In: 0}
	fine := []api.Channel{{From: 1, Out: 0, To: 2, In: 3}, {From: 2, Out: 0, To: 3, In: 3}}
	for _, l := range []struct {
		list []api.Channel
		want int
	}{
		{[]api.Channel{same, same}, 11},
		{[]api.Channel{same, none}, 10},
		{[]api.Channel{none, same}, 10},
		{[]api.Channel{none, none}, 10},
		{[]api.Channel{same, same, none}, 11},
		{[]api.Channel{same, none, same}, 10},
		{[]api.Channel{none, same, same}, 10},
		{[]api.Channel{same, fine[0], none, same}, 10},
		{[]api.Channel{same, fine[0], same, none}, 11},
		{[]api.Channel{fine[0], same, fine[1], noIn}, 10},
		{[]api.Channel{fine[0], same, fine[1], same, noIn}, 11},
		{[]api.Channel{fine[0], fine[1], fine[0], {From: -1}}, 11},
		{[]api.Channel{fine[0], fine[1], {From: -1}, fine[0]}, 10},
		{[]api.Channel{same, {From: 2, Out: 0, To: 1, In: 3}, {From: 1, Out: 7, To: 2, In: 3}}, 11},
		{[]api.Channel{same, {From: 1, Out: 7, To: 2, In: 3}, {From: 2, Out: 0, To: 1, In: 3}}, 10},
	} {
		c := greatest()
		c.Channels = l.list
		wrong(t, c, l.want, fmt.Sprint(l.list))
	}
}
