package age

import (
	"math"
	"slices"
	"sync"
	"testing"

	"gimmal/api"
	"gimmal/hello"
	"gimmal/view"
)

// noPlaces are the nearest numbers beside the ring, those that a place's byte
// would hide, and those at which a difference would wrap round.
var noPlaces = []int{-1, api.Ids, -api.Ids, api.Ids + 1, 2 * api.Ids, 1 << 32, math.MinInt, math.MaxInt, math.MinInt + 1, math.MaxInt - 1}

// noCounts are no numbers of ticks after which a node still is a peer.
var noCounts = []int{-1, -2, api.MaxMissed, api.MaxMissed + 1, api.Ids, 1 << 32, math.MinInt, math.MaxInt}

// on answers the place that is steps behind base, around the end too.
func on(base int, steps int) int {
	return (base + steps) % api.Ids
}

// of answers peers of ids, in that order, each missed so many times.
func of(missed int, ids ...int) []api.Peer {
	var all []api.Peer
	for _, id := range ids {
		all = append(all, api.Peer{Id: id, Missed: missed})
	}
	return all
}

// stepped answers a view of id: peers and lost ones by turns, as many as are asked for, the first one first behind id,
// step apart; shift turns which of the peers was missed how often.
func stepped(id int, first int, step int, heard int, lost int, shift int) api.View {
	v := api.View{Id: id}
	for n := 0; len(v.Peers) < heard || len(v.Passive) < lost; n++ {
		place := on(id, first+step*n)
		if len(v.Passive) == lost || n%2 == 0 && len(v.Peers) < heard {
			missed := (len(v.Peers) + shift) % api.MaxMissed
			v.Peers = append(v.Peers, api.Peer{Id: place, Missed: missed})
		} else {
			v.Passive = append(v.Passive, place)
		}
	}
	slices.Sort(v.Passive)
	return v
}

func alike(a api.View, b api.View) bool {
	return a.Id == b.Id && slices.Equal(a.Peers, b.Peers) && slices.Equal(a.Passive, b.Passive)
}

// What a node knows of a place: nothing, that it was lost, or (from peer on) that it is a peer, so many ticks missed.
const (
	unknown = iota
	lost
	peer
)

// ticked is what is to be answered, by a chart of the ring, without rows: it tells of each place what the node knows.
// The chart is gone around twice: from the node on for peers, from 0 on for the lost ones.
func ticked(v api.View) (api.View, []int) {
	var chart [api.Ids]int
	for _, id := range v.Passive {
		chart[id] = lost
	}
	for _, p := range v.Peers {
		chart[p.Id] = peer + p.Missed + 1
		if p.Missed+1 == api.MaxMissed {
			chart[p.Id] = lost
		}
	}
	out := api.View{Id: v.Id}
	var greet []int
	for steps := range api.Ids {
		if place := on(v.Id, steps); chart[place] >= peer {
			out.Peers = append(out.Peers, api.Peer{Id: place, Missed: chart[place] - peer})
			greet = append(greet, place)
		}
	}
	for place := range api.Ids {
		if chart[place] == lost {
			out.Passive = append(out.Passive, place)
			greet = append(greet, place)
		}
	}
	return out, greet
}

// ticks holds an answer against one that is told by hand.
func ticks(t *testing.T, v api.View, want api.View, greet ...int) {
	t.Helper()
	got, ids, e := Tick(v)
	if !alike(got, want) || !slices.Equal(ids, greet) || e != api.OK {
		t.Errorf("P11.1: Tick(%v): %v, %v, want %v, %v; %d", v, got, ids, want, greet, e)
	}
	if !view.May(got) {
		t.Errorf("P11.1: Tick(%v): %v, which may not be", v, got)
	}
}

// holds holds an answer against the chart's.
func holds(t *testing.T, v api.View) {
	t.Helper()
	want, greet := ticked(v)
	ticks(t, v, want, greet...)
}

func refuses(t *testing.T, v api.View) {
	t.Helper()
	if got, ids, e := Tick(v); !alike(got, api.View{}) || len(ids) != 0 || e != api.ErrAgeForm {
		t.Errorf("P11.1, R2: Tick(%v): %v, %v, %d", v, got, ids, e)
	}
}

func TestSomeTicks(t *testing.T) {
	ticks(t, api.View{}, api.View{})
	ticks(t, api.View{Id: 10, Peers: []api.Peer{}, Passive: []int{}}, api.View{Id: 10})
	ticks(t, api.View{Id: 10, Peers: of(0, 20)}, api.View{Id: 10, Peers: of(1, 20)}, 20)
	ticks(t, api.View{Id: 10, Peers: of(1, 20)}, api.View{Id: 10, Peers: of(2, 20)}, 20)
	ticks(t, api.View{Id: 10, Peers: of(2, 20)}, api.View{Id: 10, Passive: []int{20}}, 20)
	ticks(t, api.View{Id: 10, Passive: []int{20}}, api.View{Id: 10, Passive: []int{20}}, 20)
	// Peers are greeted by distance, the lost ones by number, behind all peers, near or far.
	ticks(t, api.View{Id: 10, Peers: of(0, 20, 200, 5), Passive: []int{6, 11}},
		api.View{Id: 10, Peers: of(1, 20, 200, 5), Passive: []int{6, 11}}, 20, 200, 5, 6, 11)
	// Who is lost now has its place among those that were lost ahead of it, at the front, between them, at the end.
	ticks(t, api.View{Id: 10, Peers: []api.Peer{{Id: 20, Missed: 2}, {Id: 30, Missed: 1}, {Id: 200, Missed: 2}, {Id: 5, Missed: 2}, {Id: 9}}, Passive: []int{6, 150}},
		api.View{Id: 10, Peers: []api.Peer{{Id: 30, Missed: 2}, {Id: 9, Missed: 1}}, Passive: []int{5, 6, 20, 150, 200}}, 30, 9, 5, 6, 20, 150, 200)
}

// TestAllAreLost: they are told by number, where they stood by distance.
func TestAllAreLost(t *testing.T) {
	ticks(t, api.View{Id: 100, Peers: of(2, 200, 255, 0, 50)}, api.View{Id: 100, Passive: []int{0, 50, 200, 255}}, 0, 50, 200, 255)
	for id := range api.Ids {
		v := stepped(id, 3, 16, api.MaxList, 0, 0)
		for at := range v.Peers {
			v.Peers[at].Missed = api.MaxMissed - 1
		}
		got, ids, e := Tick(v)
		if len(got.Peers) != 0 || len(got.Passive) != api.MaxList || !slices.IsSorted(got.Passive) || !slices.Equal(ids, got.Passive) || e != api.OK {
			t.Errorf("P11.1: Tick(%v): %v, %v, %d", v, got, ids, e)
		}
		holds(t, v)
	}
}

// TestEachPlace: one alone, with one peer, with one lost, with as many as may be, close to each other and far.
func TestEachPlace(t *testing.T) {
	for id := range api.Ids {
		holds(t, api.View{Id: id})
		for shift := range api.MaxMissed {
			for _, step := range []int{1, 16} {
				holds(t, stepped(id, 1, step, 1, 0, shift))
				holds(t, stepped(id, 1, step, 0, 1, shift))
				holds(t, stepped(id, 15, step, api.MaxList, 0, shift))
				holds(t, stepped(id, 15, step, 0, api.MaxList, shift))
				holds(t, stepped(id, 15, step, api.MaxList/2, api.MaxList/2, shift))
			}
			holds(t, stepped(id, 240, 1, api.MaxList/2, api.MaxList/2, shift))
		}
		if t.Failed() {
			return
		}
	}
}

// TestEachPair holds a peer that is lost now beside one that was, both anywhere.
func TestEachPair(t *testing.T) {
	for _, id := range []int{0, 10, 255} {
		for heard := range api.Ids {
			for gone := range api.Ids {
				v := api.View{Id: id, Peers: of(api.MaxMissed-1, heard), Passive: []int{gone}}
				if heard == id || gone == id || heard == gone {
					refuses(t, v)
				} else {
					holds(t, v)
				}
			}
		}
	}
}

// TestEachCount: some peers beside two lost ones, each of them missed 0 to 2 times, in all ways.
func TestEachCount(t *testing.T) {
	const many = 6
	ways := 1
	for range many {
		ways *= api.MaxMissed
	}
	for way := range ways {
		v := stepped(200, 5, 40, many, 0, 0)
		v.Passive = []int{7, 199}
		for at := range v.Peers {
			v.Peers[at].Missed = way % api.MaxMissed
			way /= api.MaxMissed
		}
		holds(t, v)
	}
}

// TestHowManyMayBe holds all numbers of peers and of lost ones against their sum.
func TestHowManyMayBe(t *testing.T) {
	for heard := range api.MaxList + 2 {
		for gone := range api.MaxList + 2 {
			for shift := range api.MaxMissed {
				v := stepped(10, 3, 7, heard, gone, shift)
				if heard+gone <= api.MaxList {
					holds(t, v)
				} else {
					refuses(t, v)
				}
			}
		}
	}
}

func TestNoPlaces(t *testing.T) {
	for _, n := range noPlaces {
		refuses(t, api.View{Id: n})
		refuses(t, api.View{Id: n, Peers: of(2, 30), Passive: []int{40}})
		for _, missed := range []int{0, 1, 2} {
			refuses(t, api.View{Id: 10, Peers: of(missed, n)})
			refuses(t, api.View{Id: 10, Peers: of(missed, 20, n)})
			refuses(t, api.View{Id: 10, Peers: of(missed, 20), Passive: []int{n}})
		}
		refuses(t, api.View{Id: 10, Passive: []int{n}})
		refuses(t, api.View{Id: 10, Passive: []int{20, n}})
	}
}

func TestViewsThatMayNotBe(t *testing.T) {
	for _, missed := range []int{0, 1, 2} {
		refuses(t, api.View{Id: 10, Peers: of(missed, 10)})
		refuses(t, api.View{Id: 10, Peers: of(missed, 20, 10)})
		refuses(t, api.View{Id: 10, Peers: of(missed, 5, 20)})
		refuses(t, api.View{Id: 10, Peers: of(missed, 20, 20)})
		refuses(t, api.View{Id: 10, Peers: of(missed, 20), Passive: []int{20}})
		refuses(t, api.View{Id: 10, Peers: of(missed, 20), Passive: []int{10}})
	}
	refuses(t, api.View{Id: 10, Passive: []int{10}})
	refuses(t, api.View{Id: 10, Passive: []int{20, 5}})
	refuses(t, api.View{Id: 10, Passive: []int{20, 20}})
	for _, missed := range noCounts {
		refuses(t, api.View{Id: 10, Peers: of(missed, 20)})
		refuses(t, api.View{Id: 10, Peers: []api.Peer{{Id: 20}, {Id: 5, Missed: missed}}, Passive: []int{7}})
	}
}

func TestLongLists(t *testing.T) {
	refuses(t, api.View{Id: 10, Peers: make([]api.Peer, 1<<16)})
	refuses(t, api.View{Id: 10, Passive: make([]int, 1<<16)})
	refuses(t, api.View{Id: 10, Peers: make([]api.Peer, 1<<16), Passive: make([]int, 1<<16)})
}

// known answers all that a view names, rising.
func known(v api.View) []int {
	all := slices.Clone(v.Passive)
	for _, p := range v.Peers {
		all = append(all, p.Id)
	}
	slices.Sort(all)
	return all
}

// TestKnownStaysKnown: however long nobody is heard, all are lost after MaxMissed ticks, and known, and greeted, from then on too.
func TestKnownStaysKnown(t *testing.T) {
	v := stepped(77, 3, 15, 10, 6, 0)
	all := known(v)
	for n := range 3 * api.MaxMissed {
		next, ids, e := Tick(v)
		slices.Sort(ids)
		if e != api.OK || !slices.Equal(known(next), all) || !slices.Equal(ids, all) {
			t.Fatalf("T2, P11.1: Tick(%v): %v, %v, %d", v, next, ids, e)
		}
		if n+1 >= api.MaxMissed && len(next.Peers) != 0 {
			t.Errorf("P11.1: still heard after %d ticks: %v", n+1, next)
		}
		v = next
	}
}

// TestHeardInTime: who greets between two ticks stays, who does not is lost, and back by one greeting.
func TestHeardInTime(t *testing.T) {
	v := api.View{Id: 10, Peers: of(0, 20, 5)}
	for range 2 * api.MaxMissed {
		v, _, _ = Tick(v)
		v, _ = hello.Take(v, 20, nil)
	}
	if want := (api.View{Id: 10, Peers: of(0, 20), Passive: []int{5}}); !alike(v, want) {
		t.Errorf("P11.1: %v, want %v", v, want)
	}
	v, _ = hello.Take(v, 5, nil)
	ticks(t, v, api.View{Id: 10, Peers: of(1, 20, 5)}, 20, 5)
}

// clobber writes over all of a list, and over its spare room.
func clobber[T any](all []T, with T) {
	all = all[:cap(all)]
	for at := range all {
		all[at] = with
	}
}

// TestWhatIsHandedInStays looks at the lists, at their spare room, and at what the answers are made of.
func TestWhatIsHandedInStays(t *testing.T) {
	for shift := range api.MaxMissed {
		for _, v := range []api.View{
			{Id: 10},
			stepped(10, 20, 1, 1, 1, shift),
			stepped(10, 20, 1, 4, 0, shift),
			stepped(10, 20, 1, 0, 4, shift),
			stepped(10, 20, 1, 8, 8, shift),
		} {
			stays(t, v)
		}
	}
}

func stays(t *testing.T, v api.View) {
	t.Helper()
	spare, more := of(0, 90, 91, 92), []int{93, 94, 95}
	heard := append(slices.Clone(v.Peers), spare...)
	gone := append(slices.Clone(v.Passive), more...)
	given := api.View{Id: v.Id, Peers: heard[:len(v.Peers)], Passive: gone[:len(v.Passive)]}
	want, greet := ticked(v)
	got, ids, e := Tick(given)
	again, others, f := Tick(given)
	// Each list of the first answer is written over by itself, so that one that shares memory with another shows.
	clobber(ids, -9)
	if !alike(got, want) {
		t.Errorf("R4: Tick(%v): the view shares memory with whom to greet: %v", v, got)
	}
	clobber(got.Peers, api.Peer{Id: -8, Missed: -8})
	clobber(got.Passive, -8)
	if slices.Contains(ids, -8) {
		t.Errorf("R4: Tick(%v): whom to greet shares memory with the view: %v", v, ids)
	}
	if e != api.OK || f != api.OK || !alike(again, want) || !slices.Equal(others, greet) {
		t.Errorf("R4: Tick(%v): %v, %v, want %v, %v; %d, %d", v, again, others, want, greet, e, f)
	}
	if !slices.Equal(heard, append(slices.Clone(v.Peers), spare...)) || !slices.Equal(gone, append(slices.Clone(v.Passive), more...)) {
		t.Errorf("R4: Tick(%v): what is handed in became %v, %v", v, heard, gone)
	}
}

func TestManyCallAtOneTime(t *testing.T) {
	v := stepped(10, 3, 16, api.MaxList/2, api.MaxList/2, 0)
	var all sync.WaitGroup
	for range 8 {
		all.Add(1)
		go func() {
			defer all.Done()
			for range 100 {
				holds(t, v)
			}
		}()
	}
	all.Wait()
}
