package peers

import (
	"math"
	"slices"
	"sync"
	"testing"

	"gimmal/api"
)

// noPlaces are the nearest numbers beside the ring, those that a place's byte
// would hide, and those at which a difference would wrap round.
var noPlaces = []int{-1, api.Ids, -api.Ids, api.Ids + 1, 2 * api.Ids, 1 << 32, math.MinInt, math.MaxInt, math.MinInt + 1, math.MaxInt - 1}

// noCounts are no numbers of ticks after which a node still is a peer.
var noCounts = []int{-1, -2, api.MaxMissed, api.MaxMissed + 1, api.Ids, 1 << 32, math.MinInt, math.MaxInt}

// on answers the place that is steps behind base, around the end too.
func on(base int, steps int) int {
	return (base + steps) % api.Ids
}

// of answers peers of ids, in that order, none of them missed.
func of(ids ...int) []api.Peer {
	var all []api.Peer
	for _, id := range ids {
		all = append(all, api.Peer{Id: id})
	}
	return all
}

// stepped answers count peers of base, the first one first behind it, step apart, each missed as often as none other beside it.
func stepped(base int, first int, step int, count int) []api.Peer {
	var all []api.Peer
	for n := range count {
		all = append(all, api.Peer{Id: on(base, first+step*n), Missed: n % api.MaxMissed})
	}
	return all
}

// walk goes once around, from the place behind base on, and tells the peers that it meets, the last one of an id.
func walk(base int, ps []api.Peer) []api.Peer {
	var met []api.Peer
	for step := 1; step < api.Ids; step++ {
		for at := len(ps) - 1; at >= 0; at-- {
			if ps[at].Id == on(base, step) {
				met = append(met, ps[at])
				break
			}
		}
	}
	return met
}

func may(t *testing.T, base int, ps []api.Peer) {
	t.Helper()
	if !May(base, ps) {
		t.Errorf("P7.1: May(%d, %v): false", base, ps)
	}
}

func heard(t *testing.T, base int, ps []api.Peer, id int, want []api.Peer) {
	t.Helper()
	if got, e := Heard(base, ps, id); !slices.Equal(got, want) || e != api.OK {
		t.Errorf("P7.1: Heard(%d, %v, %d): %v, %d, want %v", base, ps, id, got, e, want)
	}
}

func heardRefuses(t *testing.T, base int, ps []api.Peer, id int, want api.Errno) {
	t.Helper()
	if got, e := Heard(base, ps, id); len(got) != 0 || e != want {
		t.Errorf("P7.1, R2: Heard(%d, %v, %d): %v, %d, want %d", base, ps, id, got, e, want)
	}
}

func ages(t *testing.T, base int, ps []api.Peer, left []api.Peer, lost []int) {
	t.Helper()
	if a, b, e := Age(base, ps); !slices.Equal(a, left) || !slices.Equal(b, lost) || e != api.OK {
		t.Errorf("P7.2: Age(%d, %v): %v, %v, %d, want %v, %v", base, ps, a, b, e, left, lost)
	}
}

// mayNot holds peers that may not be against all calls.
func mayNot(t *testing.T, base int, ps []api.Peer) {
	t.Helper()
	if May(base, ps) {
		t.Errorf("P7.1: May(%d, %v): true", base, ps)
	}
	for _, id := range []int{0, 10, 20, 77, 255, base, -1} {
		heardRefuses(t, base, ps, id, api.ErrPeersForm)
	}
	if a, b, e := Age(base, ps); len(a)+len(b) != 0 || e != api.ErrPeersForm {
		t.Errorf("P7.2, R2: Age(%d, %v): %v, %v, %d", base, ps, a, b, e)
	}
}

func TestSomePeersMayBe(t *testing.T) {
	may(t, 0, nil)
	may(t, 255, []api.Peer{})
	may(t, 10, of(11))
	may(t, 10, of(9))
	may(t, 10, of(11, 255, 0, 9))
	may(t, 0, of(1, 255))
	may(t, 255, of(0, 254))
	may(t, 128, []api.Peer{{Id: 200}, {Id: 0, Missed: 2}, {Id: 127, Missed: 1}})
}

func TestPeersMayBeAtEachPlace(t *testing.T) {
	for base := range api.Ids {
		may(t, base, nil)
		may(t, base, stepped(base, 1, 1, api.MaxList))
		may(t, base, stepped(base, 240, 1, api.MaxList))
		may(t, base, stepped(base, 15, 16, api.MaxList))
		for id := range api.Ids {
			if got, want := May(base, of(id)), id != base; got != want {
				t.Errorf("P7.1: May(%d, of %d): %v", base, id, got)
			}
		}
	}
}

// TestTwoPeersMayBe holds all pairs against where a walk from base meets them.
func TestTwoPeersMayBe(t *testing.T) {
	for _, base := range []int{0, 1, 100, 254, 255} {
		for first := range api.Ids {
			for second := range api.Ids {
				ps := of(first, second)
				if got, want := May(base, ps), slices.Equal(walk(base, ps), ps); got != want {
					t.Errorf("P7.1: May(%d, %v): %v", base, ps, got)
				}
			}
		}
	}
}

func TestHeardOfSomePeers(t *testing.T) {
	heard(t, 10, nil, 11, of(11))
	heard(t, 10, []api.Peer{}, 9, of(9))
	heard(t, 10, of(20), 15, of(15, 20))
	heard(t, 10, of(20), 21, of(20, 21))
	heard(t, 10, of(20), 5, of(20, 5))
	heard(t, 10, of(20, 5), 255, of(20, 255, 5))
	heard(t, 10, of(20, 5), 0, of(20, 0, 5))
	heard(t, 10, of(20, 5), 9, of(20, 5, 9))
	heard(t, 255, of(254), 0, of(0, 254))
	heard(t, 0, of(1), 255, of(1, 255))
	heard(t, 10, of(20, 5), 5, of(20, 5))
}

// TestHeardAgain: it alone is as if never missed, the others stay as they were.
func TestHeardAgain(t *testing.T) {
	ps := []api.Peer{{Id: 20, Missed: 1}, {Id: 30, Missed: 2}, {Id: 5, Missed: 2}}
	heard(t, 10, ps, 20, []api.Peer{{Id: 20}, {Id: 30, Missed: 2}, {Id: 5, Missed: 2}})
	heard(t, 10, ps, 30, []api.Peer{{Id: 20, Missed: 1}, {Id: 30}, {Id: 5, Missed: 2}})
	heard(t, 10, ps, 5, []api.Peer{{Id: 20, Missed: 1}, {Id: 30, Missed: 2}, {Id: 5}})
	heard(t, 10, ps, 40, []api.Peer{{Id: 20, Missed: 1}, {Id: 30, Missed: 2}, {Id: 40}, {Id: 5, Missed: 2}})
}

func TestHeardOfEachPlace(t *testing.T) {
	for base := range api.Ids {
		for _, ps := range [][]api.Peer{
			nil,
			stepped(base, 1, 1, 3),
			stepped(base, 253, 1, 3),
			stepped(base, 2, 17, api.MaxList-1),
		} {
			for id := range api.Ids {
				if id == base {
					heardRefuses(t, base, ps, id, api.ErrPeersForm)
				} else {
					heard(t, base, ps, id, walk(base, append(slices.Clone(ps), api.Peer{Id: id})))
				}
			}
		}
		if t.Failed() {
			return
		}
	}
}

// TestHeardOfAsManyAsMayBe: none is new there; whoever is there already is heard still.
func TestHeardOfAsManyAsMayBe(t *testing.T) {
	for _, base := range []int{0, 10, 128, 255} {
		ps := stepped(base, 3, 16, api.MaxList)
		heard(t, base, ps[:15], ps[15].Id, append(slices.Clone(ps[:15]), api.Peer{Id: ps[15].Id}))
		for id := range api.Ids {
			at := slices.IndexFunc(ps, func(p api.Peer) bool { return p.Id == id })
			if id == base {
				heardRefuses(t, base, ps, id, api.ErrPeersForm)
			} else if at < 0 {
				heardRefuses(t, base, ps, id, api.ErrPeersFull)
			} else {
				want := slices.Clone(ps)
				want[at].Missed = 0
				heard(t, base, ps, id, want)
			}
		}
		// What is no place is told ahead of the list's being full.
		for _, n := range noPlaces {
			heardRefuses(t, base, ps, n, api.ErrPeersForm)
		}
	}
}

func TestAgeOfSomePeers(t *testing.T) {
	ages(t, 10, nil, nil, nil)
	ages(t, 10, []api.Peer{}, nil, nil)
	ages(t, 10, of(20), []api.Peer{{Id: 20, Missed: 1}}, nil)
	ages(t, 10, []api.Peer{{Id: 20, Missed: 1}}, []api.Peer{{Id: 20, Missed: 2}}, nil)
	ages(t, 10, []api.Peer{{Id: 20, Missed: 2}}, nil, []int{20})
	ages(t, 10,
		[]api.Peer{{Id: 20, Missed: 2}, {Id: 30}, {Id: 200, Missed: 2}, {Id: 0, Missed: 1}, {Id: 5, Missed: 2}},
		[]api.Peer{{Id: 30, Missed: 1}, {Id: 0, Missed: 2}}, []int{20, 200, 5})
}

// TestAgeLosesInTheirRow: by distance from base, not by number.
func TestAgeLosesInTheirRow(t *testing.T) {
	for base := range api.Ids {
		var ps, left []api.Peer
		var lost []int
		for n := range api.MaxList {
			p := api.Peer{Id: on(base, 4+16*n), Missed: (n * n) % api.MaxMissed}
			ps = append(ps, p)
			if p.Missed == 2 {
				lost = append(lost, p.Id)
			} else {
				left = append(left, api.Peer{Id: p.Id, Missed: p.Missed + 1})
			}
		}
		ages(t, base, ps, left, lost)
		for at := range ps {
			ps[at].Missed = 2
		}
		ages(t, base, ps, nil, ids(ps))
	}
}

func ids(ps []api.Peer) []int {
	var all []int
	for _, p := range ps {
		all = append(all, p.Id)
	}
	return all
}

// TestAgeUntilAllAreLost: whoever is not heard any more is a peer for MaxMissed ticks, the last one left out.
func TestAgeUntilAllAreLost(t *testing.T) {
	ps := of(20, 200, 3)
	for tick := 1; tick < api.MaxMissed; tick++ {
		left, lost, e := Age(10, ps)
		if len(left) != 3 || len(lost) != 0 || e != api.OK || !May(10, left) {
			t.Fatalf("P7.2: tick %d: %v, %v, %d", tick, left, lost, e)
		}
		ps = left
	}
	ages(t, 10, ps, nil, []int{20, 200, 3})
	again, _ := Heard(10, ps, 200)
	ages(t, 10, again, []api.Peer{{Id: 200, Missed: 1}}, []int{20, 3})
}

func TestNoPlaces(t *testing.T) {
	for _, n := range noPlaces {
		mayNot(t, n, nil)
		mayNot(t, n, []api.Peer{})
		mayNot(t, n, of(20))
		mayNot(t, n, of(n))
		mayNot(t, 10, of(n))
		mayNot(t, 10, of(n, 20))
		mayNot(t, 10, of(20, n))
		mayNot(t, 10, of(20, n, 5))
		heardRefuses(t, 10, nil, n, api.ErrPeersForm)
		heardRefuses(t, 10, of(20), n, api.ErrPeersForm)
		heardRefuses(t, n, nil, n, api.ErrPeersForm)
		for at := range api.MaxList {
			ps := stepped(10, 3, 16, api.MaxList)
			ps[at].Id = n
			mayNot(t, 10, ps)
		}
	}
}

func TestNoPeersByTheirOrder(t *testing.T) {
	mayNot(t, 10, of(5, 20))
	mayNot(t, 10, of(20, 20))
	mayNot(t, 10, of(0, 255))
	mayNot(t, 10, of(5, 9, 20))
	mayNot(t, 0, of(255, 1))
	for _, base := range []int{0, 10, 255} {
		for at := range api.MaxList - 1 {
			ps := stepped(base, 3, 16, api.MaxList)
			ps[at], ps[at+1] = ps[at+1], ps[at]
			mayNot(t, base, ps)
			ps[at].Id = ps[at+1].Id
			mayNot(t, base, ps)
		}
	}
}

func TestNoPeerIsBase(t *testing.T) {
	for base := range api.Ids {
		mayNot(t, base, of(base))
		mayNot(t, base, of(base, on(base, 1)))
		mayNot(t, base, of(on(base, 1), base))
		mayNot(t, base, of(on(base, 1), base, on(base, 2)))
		heardRefuses(t, base, nil, base, api.ErrPeersForm)
		heardRefuses(t, base, of(on(base, 7)), base, api.ErrPeersForm)
	}
}

func TestNoPeersByTheirLength(t *testing.T) {
	for _, count := range []int{api.MaxList + 1, 2 * api.MaxList, api.Ids - 1} {
		mayNot(t, 10, stepped(10, 1, 1, count))
	}
	if a, b, e := Age(0, make([]api.Peer, 1<<16)); len(a)+len(b) != 0 || e != api.ErrPeersForm {
		t.Errorf("P7.2: a long list: %d, %d, %d", len(a), len(b), e)
	}
}

func TestNoPeersByWhatTheyMissed(t *testing.T) {
	for _, missed := range noCounts {
		mayNot(t, 10, []api.Peer{{Id: 20, Missed: missed}})
		for at := range api.MaxList {
			ps := stepped(10, 3, 16, api.MaxList)
			ps[at].Missed = missed
			mayNot(t, 10, ps)
		}
	}
}

// clobber writes over a list and its spare room.
func clobber(ps []api.Peer) {
	ps = ps[:cap(ps)]
	for at := range ps {
		ps[at] = api.Peer{Id: -9, Missed: -9}
	}
}

// TestHeardLeavesWhatIsHandedIn takes new ones ahead, between and behind, and each that is there, heard just now or not.
func TestHeardLeavesWhatIsHandedIn(t *testing.T) {
	for _, id := range []int{15, 20, 25, 30, 35, 5, 9} {
		whole := []api.Peer{{Id: 20, Missed: 2}, {Id: 30}, {Id: 5, Missed: 1}, {Id: 77}, {Id: 78}}
		old := slices.Clone(whole)
		first, _ := Heard(10, whole[:3], id)
		second, _ := Heard(10, whole[:3], id)
		want := slices.Clone(second)
		if !slices.Equal(whole, old) {
			t.Errorf("R4: %d: the list, or its spare room, became %v", id, whole)
		}
		clobber(first)
		if !slices.Equal(whole, old) || !slices.Equal(second, want) {
			t.Errorf("R4: %d: an answer shares memory: %v, %v", id, whole, second)
		}
		clobber(whole)
		if !slices.Equal(second, want) {
			t.Errorf("R4: %d: an answer shares memory with what was handed in: %v", id, second)
		}
	}
}

func TestAgeLeavesWhatIsHandedIn(t *testing.T) {
	for lastMissed := range api.MaxMissed {
		whole := []api.Peer{{Id: 20, Missed: 1}, {Id: 30, Missed: lastMissed}, {Id: 5}, {Id: 77}, {Id: 78}}
		old := slices.Clone(whole)
		first, _, _ := Age(10, whole[:3])
		second, _, _ := Age(10, whole[:3])
		want := slices.Clone(second)
		if !slices.Equal(whole, old) {
			t.Errorf("R4: the list, or its spare room, became %v", whole)
		}
		clobber(first)
		if !slices.Equal(whole, old) || !slices.Equal(second, want) {
			t.Errorf("R4: an answer shares memory: %v, %v", whole, second)
		}
		clobber(whole)
		if !slices.Equal(second, want) {
			t.Errorf("R4: an answer shares memory with what was handed in: %v", second)
		}
	}
}

// TestAnEmptyListsSpareRoomStays: an empty list of some room is handed in.
func TestAnEmptyListsSpareRoomStays(t *testing.T) {
	whole := of(20, 30)
	heard(t, 10, whole[:0], 25, of(25))
	ages(t, 10, whole[:0], nil, nil)
	if !slices.Equal(whole, of(20, 30)) {
		t.Errorf("R4: the spare room became %v", whole)
	}
}

func TestManyCallAtOneTime(t *testing.T) {
	ps := stepped(10, 3, 16, api.MaxList-1)
	var all sync.WaitGroup
	for range 8 {
		all.Add(1)
		go func() {
			defer all.Done()
			for step := 1; step < api.Ids; step++ {
				id := on(10, step)
				want := walk(10, append(slices.Clone(ps), api.Peer{Id: id}))
				if got, e := Heard(10, ps, id); !slices.Equal(got, want) || e != api.OK || !May(10, got) {
					t.Errorf("R5: Heard(10, %v, %d): %v, %d", ps, id, got, e)
				}
				if left, lost, e := Age(10, ps); len(left) != 10 || len(lost) != 5 || e != api.OK {
					t.Errorf("R5: Age(10, %v): %v, %v, %d", ps, left, lost, e)
				}
			}
		}()
	}
	all.Wait()
}
