package hello

import (
	"math"
	"slices"
	"sync"
	"testing"

	"gimmal/api"
	"gimmal/view"
)

// noPlaces are the nearest numbers beside the ring, those that a place's byte
// would hide, and those at which a difference would wrap round.
var noPlaces = []int{-1, api.Ids, -api.Ids, api.Ids + 1, 2 * api.Ids, 1 << 32, math.MinInt, math.MaxInt, math.MinInt + 1, math.MaxInt - 1}

// noCounts are no numbers of ticks after which a node still is a peer.
var noCounts = []int{-1, -2, api.MaxMissed, api.MaxMissed + 1, api.Ids, 1 << 32, math.MinInt, math.MaxInt}

// on answers the place that is steps behind base, around the end too.
func on(base int, steps int) int {
	return (base + steps) % api.Ids
}

// of answers peers of ids, in that order, none of them missed.
func of(ids ...int) []api.Peer {
	var all []api.Peer
	for _, id := range ids {
		all = append(all, api.Peer{Id: id})
	}
	return all
}

// stepped answers a view of id: peers and lost ones by turns, as many as are asked for, the first one first behind id, step apart.
func stepped(id int, first int, step int, heard int, lost int) api.View {
	v := api.View{Id: id}
	for n := 0; len(v.Peers) < heard || len(v.Passive) < lost; n++ {
		place := on(id, first+step*n)
		if len(v.Passive) == lost || n%2 == 0 && len(v.Peers) < heard {
			v.Peers = append(v.Peers, api.Peer{Id: place, Missed: n % api.MaxMissed})
		} else {
			v.Passive = append(v.Passive, place)
		}
	}
	slices.Sort(v.Passive)
	return v
}

func twin(v api.View) api.View {
	return api.View{Id: v.Id, Peers: slices.Clone(v.Peers), Passive: slices.Clone(v.Passive)}
}

func alike(a api.View, b api.View) bool {
	return a.Id == b.Id && slices.Equal(a.Peers, b.Peers) && slices.Equal(a.Passive, b.Passive)
}

// What a node knows of a place: nothing, that it was lost, or (from peer on) that it is a peer, so many ticks missed.
const (
	unknown = iota
	lost
	peer
)

// chart tells of each place of the ring what a node knows of it: another form of a view, without rows.
type chart struct {
	id    int
	of    [api.Ids]int
	known int
}

func drawn(v api.View) *chart {
	c := &chart{id: v.Id, known: len(v.Peers) + len(v.Passive)}
	for _, p := range v.Peers {
		c.of[p.Id] = peer + p.Missed
	}
	for _, id := range v.Passive {
		c.of[id] = lost
	}
	return c
}

// meet makes somebody unknown a peer, while there is room.
func (c *chart) meet(id int) {
	if id != c.id && c.of[id] == unknown && c.known < api.MaxList {
		c.of[id] = peer
		c.known++
	}
}

// view goes around the ring twice: from the node on for peers, from 0 on for the lost ones.
func (c *chart) view() api.View {
	v := api.View{Id: c.id}
	for steps := range api.Ids {
		if place := on(c.id, steps); c.of[place] >= peer {
			v.Peers = append(v.Peers, api.Peer{Id: place, Missed: c.of[place] - peer})
		}
	}
	for place := range api.Ids {
		if c.of[place] == lost {
			v.Passive = append(v.Passive, place)
		}
	}
	return v
}

// greeted is what is to be answered, by the chart.
func greeted(v api.View, from int, ids []int) api.View {
	c := drawn(v)
	if c.of[from] != unknown {
		c.of[from] = peer
	}
	c.meet(from)
	for _, id := range ids {
		c.meet(id)
	}
	return c.view()
}

// takes holds an answer against a view that is told by hand.
func takes(t *testing.T, v api.View, from int, ids []int, want api.View) {
	t.Helper()
	got, e := Take(v, from, ids)
	if !alike(got, want) || e != api.OK {
		t.Errorf("P10.1: Take(%v, %d, %v): %v, want %v; %d", v, from, ids, got, want, e)
	}
	if !view.May(got) {
		t.Errorf("P10.1: Take(%v, %d, %v): %v, which may not be", v, from, ids, got)
	}
}

// holds holds an answer against the chart's.
func holds(t *testing.T, v api.View, from int, ids ...int) {
	t.Helper()
	takes(t, v, from, ids, greeted(v, from, ids))
}

func refuses(t *testing.T, v api.View, from int, ids ...int) {
	t.Helper()
	if got, e := Take(v, from, ids); !alike(got, api.View{}) || e != api.ErrHelloForm {
		t.Errorf("P10.1, R2: Take(%v, %d, %v): %v, %d", v, from, ids, got, e)
	}
}

// mayNot holds a view that may not be against greetings that may be, and some that may not.
func mayNot(t *testing.T, v api.View) {
	t.Helper()
	for _, from := range []int{0, 5, 20, 77, 255, v.Id, -1, api.Ids} {
		refuses(t, v, from)
		refuses(t, v, from, 6, 200)
	}
}

func TestSomeGreetings(t *testing.T) {
	none := api.View{Id: 10}
	takes(t, none, 20, nil, api.View{Id: 10, Peers: of(20)})
	takes(t, none, 20, []int{}, api.View{Id: 10, Peers: of(20)})
	takes(t, api.View{Id: 10, Peers: []api.Peer{}, Passive: []int{}}, 20, nil, api.View{Id: 10, Peers: of(20)})
	takes(t, none, 5, []int{20, 200, 9, 11}, api.View{Id: 10, Peers: of(11, 20, 200, 5, 9)})
	// Who greets is heard now; who is only named is not.
	some := api.View{Id: 10, Peers: []api.Peer{{Id: 20, Missed: 2}, {Id: 5, Missed: 1}}, Passive: []int{6, 200}}
	takes(t, some, 20, nil, api.View{Id: 10, Peers: []api.Peer{{Id: 20}, {Id: 5, Missed: 1}}, Passive: []int{6, 200}})
	takes(t, some, 20, []int{5, 20}, api.View{Id: 10, Peers: []api.Peer{{Id: 20}, {Id: 5, Missed: 1}}, Passive: []int{6, 200}})
	// Who was lost is found by its own greeting, not by its name in another one's.
	takes(t, some, 6, nil, api.View{Id: 10, Peers: []api.Peer{{Id: 20, Missed: 2}, {Id: 5, Missed: 1}, {Id: 6}}, Passive: []int{200}})
	takes(t, some, 6, []int{6, 200}, api.View{Id: 10, Peers: []api.Peer{{Id: 20, Missed: 2}, {Id: 5, Missed: 1}, {Id: 6}}, Passive: []int{200}})
	takes(t, some, 15, []int{6, 200}, api.View{Id: 10, Peers: []api.Peer{{Id: 15}, {Id: 20, Missed: 2}, {Id: 5, Missed: 1}}, Passive: []int{6, 200}})
	// The node itself may be named, and one may be named more than once.
	takes(t, none, 20, []int{10, 30, 30, 20, 10, 30}, api.View{Id: 10, Peers: of(20, 30)})
}

// TestFromEachPlace: the one who greets is unknown, a peer, or lost, with few that are known, and with as many as may be.
func TestFromEachPlace(t *testing.T) {
	for _, id := range []int{0, 10, 128, 255} {
		for _, v := range []api.View{
			{Id: id},
			stepped(id, 1, 1, 2, 2),
			stepped(id, 240, 1, api.MaxList/2, api.MaxList/2-1),
			stepped(id, 3, 16, api.MaxList/2, api.MaxList/2),
			stepped(id, 15, 16, api.MaxList, 0),
			stepped(id, 15, 16, 0, api.MaxList),
		} {
			for from := range api.Ids {
				if from == id {
					refuses(t, v, from)
					continue
				}
				holds(t, v, from)
				holds(t, v, from, from)
				holds(t, v, from, id)
			}
		}
	}
}

// TestEachIsNamed: the one who is named is the node itself, the one who greets, unknown, a peer, or lost.
func TestEachIsNamed(t *testing.T) {
	for _, id := range []int{0, 10, 128, 255} {
		from := on(id, 4)
		for _, v := range []api.View{
			{Id: id},
			stepped(id, 3, 16, 7, 7),
			stepped(id, 3, 16, 8, 7),
			stepped(id, 3, 16, 8, 8),
			stepped(id, 4, 16, 8, 7),
			stepped(id, 4, 16, 0, 16),
		} {
			for named := range api.Ids {
				holds(t, v, from, named)
				holds(t, v, from, named, named)
				holds(t, v, from, named, on(id, 5), on(id, 6))
				holds(t, v, from, on(id, 6), named, on(id, 5))
			}
		}
	}
}

// TestHowManyMayBe: all numbers of peers, of lost ones and of new names, so that each number of them is left out.
func TestHowManyMayBe(t *testing.T) {
	for heard := range api.MaxList + 1 {
		for gone := range api.MaxList + 1 - heard {
			v := stepped(10, 3, 7, heard, gone)
			for many := range api.MaxList + 1 {
				var up, down []int
				for n := range many {
					up = append(up, on(10, 5+7*n))
					down = append(down, on(10, 250-7*n))
				}
				for _, from := range []int{on(10, 3), on(10, 10), on(10, 4), on(10, 255)} {
					holds(t, v, from, up...)
					holds(t, v, from, down...)
				}
			}
		}
	}
}

// TestFirstNamedFirst: the last room is taken by whoever is named first, near or far.
func TestFirstNamedFirst(t *testing.T) {
	v := stepped(10, 20, 1, 7, 7)
	takes(t, v, 11, []int{200, 15}, greeted(v, 11, []int{200}))
	takes(t, v, 11, []int{15, 200}, greeted(v, 11, []int{15}))
	// Those who are known already, and the node itself, take none of it.
	takes(t, v, 11, []int{10, 11, v.Peers[0].Id, v.Passive[0], 200, 200, 15}, greeted(v, 11, []int{200}))
	// Who greets goes ahead of those that it names.
	v = stepped(10, 20, 1, 8, 7)
	takes(t, v, 200, []int{15}, greeted(v, 200, nil))
	if got, e := Take(v, 200, []int{15}); !slices.Contains(got.Peers, api.Peer{Id: 200}) || e != api.OK {
		t.Errorf("P10.1: %v, %d", got, e)
	}
}

// TestFull: nobody new comes in, and whoever greets has changed its own list at most.
func TestFull(t *testing.T) {
	v := stepped(10, 20, 1, 8, 8)
	takes(t, v, 200, []int{201, 202}, v)
	takes(t, v, 200, []int{200}, v)
	for at := range v.Peers {
		want := twin(v)
		want.Peers[at].Missed = 0
		takes(t, v, v.Peers[at].Id, []int{200, 201}, want)
	}
	for at, from := range v.Passive {
		got, e := Take(v, from, []int{200, 201})
		left := slices.Delete(slices.Clone(v.Passive), at, at+1)
		if e != api.OK || len(got.Peers) != 9 || !slices.Contains(got.Peers, api.Peer{Id: from}) || !slices.Equal(got.Passive, left) {
			t.Errorf("P10.1: Take(%v, %d): %v, %d", v, from, got, e)
		}
	}
}

// TestManyNames: MaxList names are the most, however many of them are known, or the same.
func TestManyNames(t *testing.T) {
	v := stepped(10, 20, 1, 2, 2)
	for _, place := range []int{10, 11, 20, 21, 77} {
		names := slices.Repeat([]int{place}, api.MaxList)
		holds(t, v, 11, names...)
		refuses(t, v, 11, append(names, place)...)
	}
	refuses(t, v, 11, make([]int, 1<<16)...)
	refuses(t, v, 10, make([]int, 1<<16)...)
}

func TestNoPlaces(t *testing.T) {
	v := stepped(10, 20, 1, 2, 2)
	full := stepped(10, 20, 1, 8, 8)
	for _, n := range noPlaces {
		for _, some := range []api.View{{Id: 10}, v, full} {
			refuses(t, some, n)
			refuses(t, some, n, 30)
			refuses(t, some, n, n)
			refuses(t, some, 77, n)
			refuses(t, some, 20, n)
			for at := range api.MaxList {
				names := slices.Repeat([]int{30}, api.MaxList)
				names[at] = n
				refuses(t, some, 77, names...)
			}
		}
		mayNot(t, api.View{Id: n})
		mayNot(t, api.View{Id: n, Peers: of(30), Passive: []int{40}})
		mayNot(t, api.View{Id: 10, Peers: of(n)})
		mayNot(t, api.View{Id: 10, Peers: of(30, n)})
		mayNot(t, api.View{Id: 10, Passive: []int{n}})
	}
}

func TestViewsThatMayNotBe(t *testing.T) {
	mayNot(t, api.View{Id: 10, Peers: of(10)})
	mayNot(t, api.View{Id: 10, Peers: of(5, 20)})
	mayNot(t, api.View{Id: 10, Peers: of(20, 20)})
	mayNot(t, api.View{Id: 10, Passive: []int{10}})
	mayNot(t, api.View{Id: 10, Passive: []int{20, 5}})
	mayNot(t, api.View{Id: 10, Passive: []int{20, 20}})
	mayNot(t, api.View{Id: 10, Peers: of(20), Passive: []int{20}})
	mayNot(t, api.View{Id: 10, Peers: make([]api.Peer, 1<<16), Passive: make([]int, 1<<16)})
	mayNot(t, stepped(10, 3, 7, api.MaxList+1, 0))
	mayNot(t, stepped(10, 3, 7, 0, api.MaxList+1))
	mayNot(t, stepped(10, 3, 7, 9, 8))
	for _, missed := range noCounts {
		mayNot(t, api.View{Id: 10, Peers: []api.Peer{{Id: 20, Missed: missed}}})
		mayNot(t, api.View{Id: 10, Peers: []api.Peer{{Id: 20}, {Id: 5, Missed: missed}}, Passive: []int{7}})
	}
}

// TestLostAndFound: whoever is lost is named in vain, and back by one greeting, as if it had never been away.
func TestLostAndFound(t *testing.T) {
	v := stepped(10, 20, 1, 0, api.MaxList)
	for _, id := range slices.Clone(v.Passive) {
		takes(t, v, id, v.Passive, greeted(v, id, nil))
		v, _ = Take(v, id, v.Passive)
	}
	if len(v.Peers) != api.MaxList || len(v.Passive) != 0 {
		t.Errorf("P10.1: %v", v)
	}
}

// clobber writes over all of a list, and over its spare room.
func clobber(v api.View) {
	heard, lost := v.Peers[:cap(v.Peers)], v.Passive[:cap(v.Passive)]
	for at := range heard {
		heard[at] = api.Peer{Id: -9, Missed: -9}
	}
	for at := range lost {
		lost[at] = -9
	}
}

// TestWhatIsHandedInStays looks at the lists, at their spare room, and at what the answer is made of.
func TestWhatIsHandedInStays(t *testing.T) {
	for _, v := range []api.View{
		{Id: 10},
		stepped(10, 20, 1, 1, 1),
		stepped(10, 20, 1, 4, 0),
		stepped(10, 20, 1, 0, 4),
		stepped(10, 20, 1, 8, 8),
	} {
		for _, from := range []int{20, 21, 77} {
			for _, names := range [][]int{nil, {20, 21}, {78, 9, 20}} {
				stays(t, v, from, names)
			}
		}
	}
}

func stays(t *testing.T, v api.View, from int, names []int) {
	t.Helper()
	heard := append(slices.Clone(v.Peers), of(90, 91, 92)...)
	gone := append(slices.Clone(v.Passive), 93, 94, 95)
	ids := append(slices.Clone(names), 96, 97, 98)
	given := api.View{Id: v.Id, Peers: heard[:len(v.Peers)], Passive: gone[:len(v.Passive)]}
	want := greeted(v, from, names)
	got, e := Take(given, from, ids[:len(names)])
	again, f := Take(given, from, ids[:len(names)])
	clobber(got)
	if e != api.OK || f != api.OK || !alike(again, want) {
		t.Errorf("R4: Take(%v, %d, %v): %v, want %v; %d, %d", v, from, names, again, want, e, f)
	}
	if !slices.Equal(heard, append(slices.Clone(v.Peers), of(90, 91, 92)...)) ||
		!slices.Equal(gone, append(slices.Clone(v.Passive), 93, 94, 95)) ||
		!slices.Equal(ids, append(slices.Clone(names), 96, 97, 98)) {
		t.Errorf("R4: Take(%v, %d, %v): what is handed in became %v, %v, %v", v, from, names, heard, gone, ids)
	}
}

func TestManyCallAtOneTime(t *testing.T) {
	v := stepped(10, 3, 16, 7, 7)
	names := []int{20, 5, 19, 200}
	var all sync.WaitGroup
	for range 8 {
		all.Add(1)
		go func() {
			defer all.Done()
			for from := range api.Ids {
				if from != v.Id {
					holds(t, v, from, names...)
				}
			}
		}()
	}
	all.Wait()
}
