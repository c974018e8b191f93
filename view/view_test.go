package view

import (
	"math"
	"slices"
	"sync"
	"testing"

	"gimmal/api"
)

// noPlaces are the nearest numbers beside the ring, those that a place's byte
// would hide, and those at which a difference would wrap round.
var noPlaces = []int{-1, api.Ids, -api.Ids, api.Ids + 1, 2 * api.Ids, 1 << 32, math.MinInt, math.MaxInt, math.MinInt + 1, math.MaxInt - 1}

// noCounts are no numbers of ticks after which a node still is a peer.
var noCounts = []int{-1, -2, api.MaxMissed, api.MaxMissed + 1, api.Ids, 1 << 32, math.MinInt, math.MaxInt}

// on answers the place that is steps behind base, around the end too.
func on(base int, steps int) int {
	return (base + steps) % api.Ids
}

// of answers peers of ids, in that order, none of them missed.
func of(ids ...int) []api.Peer {
	var all []api.Peer
	for _, id := range ids {
		all = append(all, api.Peer{Id: id})
	}
	return all
}

// stepped answers a view of id: peers and lost ones by turns, as many as are asked for, the first one first behind id, step apart.
func stepped(id int, first int, step int, heard int, lost int) api.View {
	v := api.View{Id: id}
	for n := 0; len(v.Peers) < heard || len(v.Passive) < lost; n++ {
		place := on(id, first+step*n)
		if len(v.Passive) == lost || n%2 == 0 && len(v.Peers) < heard {
			v.Peers = append(v.Peers, api.Peer{Id: place, Missed: n % api.MaxMissed})
		} else {
			v.Passive = append(v.Passive, place)
		}
	}
	slices.Sort(v.Passive)
	return v
}

// isIn: is a place the node itself, or a peer?
func isIn(v api.View, place int) bool {
	return place == v.Id || slices.ContainsFunc(v.Peers, func(p api.Peer) bool { return p.Id == place })
}

// meet goes from a place on, by steps of one, upwards or downwards, and tells the first of the node and its peers.
func meet(v api.View, place int, step int) int {
	for !isIn(v, place) {
		place = on(place+api.Ids, step)
	}
	return place
}

// holds checks all calls on a view that may be, the owner of each key among them, against a walk on the ring.
func holds(t *testing.T, v api.View) {
	t.Helper()
	if !May(v) {
		t.Errorf("P9.1: May(%v): false", v)
	}
	if got, e := Succ(v); got != meet(v, on(v.Id, 1), 1) || e != api.OK {
		t.Errorf("P9.1: Succ(%v): %d, %d", v, got, e)
	}
	if got, e := Pred(v); got != meet(v, on(v.Id, api.Ids-1), -1) || e != api.OK {
		t.Errorf("P9.1: Pred(%v): %d, %d", v, got, e)
	}
	for key := range api.Ids {
		if got, e := Owner(v, key); got != meet(v, key, 1) || e != api.OK {
			t.Errorf("P9.1: Owner(%v, %d): %d, %d", v, key, got, e)
		}
	}
	for _, key := range noPlaces {
		ownerRefuses(t, v, key)
	}
}

func ownerRefuses(t *testing.T, v api.View, key int) {
	t.Helper()
	if got, e := Owner(v, key); got != 0 || e != api.ErrViewForm {
		t.Errorf("P9.1, R2: Owner(%v, %d): %d, %d", v, key, got, e)
	}
}

// mayNot holds a view that may not be against all calls.
func mayNot(t *testing.T, v api.View) {
	t.Helper()
	if May(v) {
		t.Errorf("P9.1: May(%v): true", v)
	}
	if got, e := Succ(v); got != 0 || e != api.ErrViewForm {
		t.Errorf("P9.1, R2: Succ(%v): %d, %d", v, got, e)
	}
	if got, e := Pred(v); got != 0 || e != api.ErrViewForm {
		t.Errorf("P9.1, R2: Pred(%v): %d, %d", v, got, e)
	}
	for _, key := range []int{0, 10, 20, 255, v.Id, -1, api.Ids} {
		ownerRefuses(t, v, key)
	}
}

// answers holds a view against what is told of it by hand.
func answers(t *testing.T, v api.View, succ int, pred int, key int, owner int) {
	t.Helper()
	a, e := Succ(v)
	b, f := Pred(v)
	c, g := Owner(v, key)
	if a != succ || b != pred || c != owner || e != api.OK || f != api.OK || g != api.OK {
		t.Errorf("P9.1: %v, %d: %d, %d, %d, want %d, %d, %d; %d, %d, %d", v, key, a, b, c, succ, pred, owner, e, f, g)
	}
}

func TestSomeViews(t *testing.T) {
	answers(t, api.View{}, 0, 0, 7, 0)
	answers(t, api.View{Id: 10, Peers: []api.Peer{}, Passive: []int{}}, 10, 10, 11, 10)
	answers(t, api.View{Id: 10, Passive: []int{5, 20}}, 10, 10, 20, 10)
	answers(t, api.View{Id: 10, Peers: of(20)}, 20, 20, 21, 10)
	answers(t, api.View{Id: 10, Peers: of(20, 200, 5)}, 20, 5, 201, 5)
	answers(t, api.View{Id: 10, Peers: of(20, 200, 5)}, 20, 5, 6, 10)
	answers(t, api.View{Id: 10, Peers: of(20, 200, 5)}, 20, 5, 200, 200)
	// Whoever was lost owns nothing, and follows nobody.
	answers(t, api.View{Id: 10, Peers: of(20, 5), Passive: []int{6, 15, 200}}, 20, 5, 11, 20)
	answers(t, api.View{Id: 10, Peers: of(20, 5), Passive: []int{6, 15, 200}}, 20, 5, 200, 5)
	// Nor does it matter how many ticks ago a peer was heard.
	answers(t, api.View{Id: 255, Peers: []api.Peer{{Id: 0, Missed: 2}, {Id: 254, Missed: 1}}}, 0, 254, 255, 255)
}

// TestEachPlace: one alone, with one peer, with one lost, with as many as may be, close to each other and far.
func TestEachPlace(t *testing.T) {
	for id := range api.Ids {
		holds(t, api.View{Id: id})
		for _, step := range []int{1, 16} {
			holds(t, stepped(id, 1, step, 1, 0))
			holds(t, stepped(id, 1, step, 0, 1))
			holds(t, stepped(id, 15, step, api.MaxList, 0))
			holds(t, stepped(id, 15, step, 0, api.MaxList))
			holds(t, stepped(id, 15, step, api.MaxList/2, api.MaxList/2))
		}
		holds(t, stepped(id, 240, 1, api.MaxList/2, api.MaxList/2))
		if t.Failed() {
			return
		}
	}
}

// TestHowManyMayBe holds all numbers of peers and of lost ones, each by themselves within bounds, against their sum.
func TestHowManyMayBe(t *testing.T) {
	for heard := range api.MaxList + 2 {
		for lost := range api.MaxList + 2 {
			v := stepped(10, 3, 7, heard, lost)
			if heard+lost <= api.MaxList {
				holds(t, v)
			} else {
				mayNot(t, v)
			}
		}
	}
}

// TestOneIsPeerOrPassive holds each pair of a peer and a lost one against what may be.
func TestOneIsPeerOrPassive(t *testing.T) {
	for _, id := range []int{0, 10, 255} {
		for heard := range api.Ids {
			for lost := range api.Ids {
				v := api.View{Id: id, Peers: of(heard), Passive: []int{lost}}
				want := heard != id && lost != id && heard != lost
				if got := May(v); got != want {
					t.Errorf("P9.1: May(%v): %v", v, got)
				}
			}
		}
	}
}

// TestPassiveIsNeitherItselfNorAPeer puts one that may not be at each place of the lost ones, and takes each peer.
func TestPassiveIsNeitherItselfNorAPeer(t *testing.T) {
	for _, id := range []int{0, 10, 128, 255} {
		mayNot(t, api.View{Id: id, Passive: []int{id}})
		v := stepped(id, 3, 16, api.MaxList/2, api.MaxList/2)
		for at := range v.Passive {
			for _, other := range ids(v) {
				wrong := slices.Clone(v.Passive)
				wrong[at] = other
				slices.Sort(wrong)
				mayNot(t, api.View{Id: id, Peers: v.Peers, Passive: wrong})
			}
		}
	}
}

func TestNoPlaces(t *testing.T) {
	for _, n := range noPlaces {
		mayNot(t, api.View{Id: n})
		mayNot(t, api.View{Id: n, Peers: of(20)})
		mayNot(t, api.View{Id: n, Passive: []int{20}})
		mayNot(t, api.View{Id: 10, Peers: of(n)})
		mayNot(t, api.View{Id: 10, Peers: of(20, n)})
		mayNot(t, api.View{Id: 10, Passive: []int{n}})
		mayNot(t, api.View{Id: 10, Peers: of(20), Passive: []int{n}})
		for at := range api.MaxList / 2 {
			v := stepped(10, 3, 16, api.MaxList/2, api.MaxList/2)
			v.Peers[at].Id = n
			mayNot(t, v)
			v = stepped(10, 3, 16, api.MaxList/2, api.MaxList/2)
			v.Passive[at] = n
			slices.Sort(v.Passive)
			mayNot(t, v)
		}
	}
}

func TestNoPeers(t *testing.T) {
	mayNot(t, api.View{Id: 10, Peers: of(10)})
	mayNot(t, api.View{Id: 10, Peers: of(20, 10)})
	mayNot(t, api.View{Id: 10, Peers: of(5, 20)})
	mayNot(t, api.View{Id: 10, Peers: of(20, 20)})
	for _, missed := range noCounts {
		mayNot(t, api.View{Id: 10, Peers: []api.Peer{{Id: 20, Missed: missed}}})
		mayNot(t, api.View{Id: 10, Peers: []api.Peer{{Id: 20}, {Id: 5, Missed: missed}}, Passive: []int{7}})
	}
}

// TestNoPassive: they rise by number, not by distance from the node.
func TestNoPassive(t *testing.T) {
	holds(t, api.View{Id: 10, Passive: []int{5, 20}})
	mayNot(t, api.View{Id: 10, Passive: []int{20, 5}})
	mayNot(t, api.View{Id: 10, Passive: []int{20, 20}})
	mayNot(t, api.View{Id: 10, Peers: of(30), Passive: []int{5, 20, 7}})
}

func TestLongLists(t *testing.T) {
	mayNot(t, api.View{Id: 10, Peers: make([]api.Peer, 1<<16)})
	mayNot(t, api.View{Id: 10, Passive: make([]int, 1<<16)})
	mayNot(t, api.View{Id: 10, Peers: make([]api.Peer, 1<<16), Passive: make([]int, 1<<16)})
}

// TestWhatIsHandedInStays looks at the lists, and at their spare room.
func TestWhatIsHandedInStays(t *testing.T) {
	for _, count := range []int{0, 2} {
		heard := of(20, 5, 77, 78)
		lost := []int{6, 200, 77, 78}
		holds(t, api.View{Id: 10, Peers: heard[:count], Passive: lost[:count]})
		if !slices.Equal(heard, of(20, 5, 77, 78)) || !slices.Equal(lost, []int{6, 200, 77, 78}) {
			t.Errorf("R4: the lists, or their spare room, became %v, %v", heard, lost)
		}
	}
}

func TestManyCallAtOneTime(t *testing.T) {
	v := stepped(10, 3, 16, api.MaxList/2, api.MaxList/2)
	var all sync.WaitGroup
	for range 8 {
		all.Add(1)
		go func() {
			defer all.Done()
			holds(t, v)
		}()
	}
	all.Wait()
}
