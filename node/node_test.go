package node

import (
	"math"
	"slices"
	"sync"
	"testing"

	"gimmal/api"
)

// noPlaces are the nearest numbers beside the ring, those that a place's byte
// would hide, and those at which a difference would wrap round.
var noPlaces = []int{-1, api.Ids, -api.Ids, api.Ids + 1, 2 * api.Ids, 1 << 32, math.MinInt, math.MaxInt, math.MinInt + 1, math.MaxInt - 1}

// noNodes are nodes, up, each with one thing alone that may not be.
func noNodes() []api.Node {
	all := []api.Node{}
	for _, v := range noViews() {
		all = append(all, api.Node{Up: true, View: v})
	}
	for _, is := range noStores() {
		all = append(all, api.Node{Up: true, View: api.View{Id: 10}, Items: is})
	}
	for _, log := range noLogs() {
		all = append(all, api.Node{Up: true, View: api.View{Id: 10}, Log: log})
	}
	return all
}

func noViews() []api.View {
	all := []api.View{
		{Id: 10, Passive: []int{10}},
		{Id: 10, Passive: []int{20, 5}},
		{Id: 10, Passive: []int{20, 20}},
		{Id: 10, Passive: make([]int, 1<<16)},
		{Id: 10, Passive: counted(api.MaxList + 1)},
		{Id: 10, Peers: []api.Peer{{Id: 10}}},
		{Id: 10, Peers: []api.Peer{{Id: 5}, {Id: 20}}},
		{Id: 10, Peers: []api.Peer{{Id: 20}, {Id: 20}}},
		{Id: 10, Peers: []api.Peer{{Id: 20, Missed: api.MaxMissed}}},
		{Id: 10, Peers: []api.Peer{{Id: 20, Missed: -1}}},
		{Id: 10, Peers: make([]api.Peer, 1<<16)},
		{Id: 10, Peers: []api.Peer{{Id: 20}}, Passive: []int{20}},
		{Id: 10, Peers: []api.Peer{{Id: 20}}, Passive: counted(api.MaxList)},
	}
	for _, n := range noPlaces {
		all = append(all, api.View{Id: n}, api.View{Id: n, Passive: []int{20}}, api.View{Id: 10, Passive: []int{n}}, api.View{Id: 10, Peers: []api.Peer{{Id: n}}})
	}
	return all
}

func noStores() [][]api.Item {
	return [][]api.Item{
		{{}},
		{{Key: -1, Version: api.Version{Count: 1}}},
		{{Key: api.Ids, Version: api.Version{Count: 1}}},
		{{Key: 5}},
		{{Key: 5, Version: api.Version{Count: api.MaxCount + 1}}},
		{{Key: 5, Version: api.Version{Count: 1, Writer: -1}}},
		{{Key: 5, Version: api.Version{Count: 1}, Value: 256}},
		{{Key: 5, Version: api.Version{Count: 1}, Value: 1, Gone: true}},
		{of(5), of(5)},
		{of(5), of(4)},
		itemsOf(api.MaxItems + 1),
		make([]api.Item, 1<<16),
	}
}

func noLogs() [][]api.Told {
	all := [][]api.Told{make([]api.Told, api.MaxLog+1), make([]api.Told, 1<<16)}
	for _, t := range noTold() {
		all = append(all, []api.Told{t})
	}
	return all
}

// noTold answers what can't have been told: a number alone is wrong, or there is a value of none.
func noTold() []api.Told {
	all := []api.Told{{Key: 5, Value: 1}, {Key: 5, Value: 255}, {Value: 1}}
	for _, n := range noPlaces {
		all = append(all,
			api.Told{Key: n},
			api.Told{Key: n, Has: true},
			api.Told{Key: n, Has: true, Value: 9},
			api.Told{Key: 5, Has: true, Value: n},
			api.Told{Key: 5, Value: n},
			api.Told{Key: n, Has: true, Value: n})
	}
	return all
}

// counted answers the places from 11 on, as many as are asked for.
func counted(count int) []int {
	var all []int
	for n := range count {
		all = append(all, 11+n)
	}
	return all
}

// of answers an item that may be.
func of(key int) api.Item {
	return api.Item{Key: key, Version: api.Version{Count: 3, Writer: 7}, Value: 9}
}

func itemsOf(count int) []api.Item {
	var all []api.Item
	for n := range count {
		all = append(all, of(3*n))
	}
	return all
}

// whole answers a node of as much as may be: half of whom it knows are peers, half are lost.
func whole() api.Node {
	x := api.Node{Up: true, View: api.View{Id: 10}, Items: itemsOf(api.MaxItems)}
	for n := range api.MaxList / 2 {
		x.View.Peers = append(x.View.Peers, api.Peer{Id: 20 + 2*n, Missed: n % api.MaxMissed})
		x.View.Passive = append(x.View.Passive, 21+2*n)
	}
	for n := range api.MaxLog {
		x.Log = append(x.Log, api.Told{Key: 255 - n, Has: n%2 == 0, Value: (1 - n%2) * 3 * n})
	}
	return x
}

func may(t *testing.T, x api.Node, want bool) {
	t.Helper()
	if got := May(x); got != want {
		t.Errorf("P16.1: May(%v): %v", x, got)
	}
}

// isNew: is a node a new one of id, that knows whom it is told of?
func isNew(x api.Node, id int, known []int) bool {
	return x.Up && x.View.Id == id && slices.Equal(x.View.Passive, known) && len(x.View.Peers) == 0 && len(x.Items) == 0 && len(x.Log) == 0
}

func isZero(x api.Node) bool {
	return !x.Up && x.View.Id == 0 && len(x.View.Passive) == 0 && len(x.View.Peers) == 0 && len(x.Items) == 0 && len(x.Log) == 0
}

func makes(t *testing.T, id int, ids []int, known []int) {
	t.Helper()
	if x, e := New(id, ids); !isNew(x, id, known) || e != api.OK || !May(x) {
		t.Errorf("P16.1: New(%d, %v): %v, %d, not %v", id, ids, x, e, known)
	}
}

func refuses(t *testing.T, id int, ids []int) {
	t.Helper()
	if x, e := New(id, ids); !isZero(x) || e != api.ErrNodeForm {
		t.Errorf("P16.1, R2: New of %d, %d ids: %v, %d", id, len(ids), x, e)
	}
}

// met walks once over the ring, and tells whom ids name beside id.
func met(id int, ids []int) []int {
	var known []int
	for place := range api.Ids {
		if place != id && slices.Contains(ids, place) {
			known = append(known, place)
		}
	}
	return known
}

// holds asks for a new node of places alone: it is made, unless they name too many.
func holds(t *testing.T, id int, ids []int) {
	t.Helper()
	if known := met(id, ids); len(known) <= api.MaxList {
		makes(t, id, ids, known)
	} else {
		refuses(t, id, ids)
	}
}

func TestSomeNewOnes(t *testing.T) {
	makes(t, 0, nil, nil)
	makes(t, 10, []int{}, nil)
	makes(t, 10, []int{10}, nil)
	makes(t, 10, []int{10, 10, 10}, nil)
	makes(t, 10, []int{20, 5}, []int{5, 20})
	makes(t, 11, counted(api.MaxList+1), counted(api.MaxList + 1)[1:])
	makes(t, 10, []int{20, 10, 5, 20, 5, 255, 10, 0}, []int{0, 5, 20, 255})
	// They rise by number, not by distance from the node.
	makes(t, 200, []int{250, 3, 201, 199}, []int{3, 199, 201, 250})
	refuses(t, 10, []int{256})
	refuses(t, 256, []int{10})
	refuses(t, -1, nil)
}

// TestEachPair takes each two places, the numbers beside the ring too.
func TestEachPair(t *testing.T) {
	for id := -2; id < api.Ids+2; id++ {
		for other := -2; other < api.Ids+2; other++ {
			ids := []int{other}
			if min(id, other) < 0 || max(id, other) >= api.Ids {
				refuses(t, id, ids)
			} else {
				holds(t, id, ids)
			}
		}
	}
}

func TestEachTwoThatAreNamed(t *testing.T) {
	for _, id := range []int{0, 10, 255} {
		for first := range api.Ids {
			for second := range api.Ids {
				holds(t, id, []int{first, second})
			}
		}
	}
}

// TestHowManyMayBeNamed: unlike ones count, once each, and not the node itself.
func TestHowManyMayBeNamed(t *testing.T) {
	for count := range 3 * api.MaxList {
		rising := counted(count)
		falling := slices.Clone(rising)
		slices.Reverse(falling)
		for _, ids := range [][]int{rising, falling, slices.Repeat(rising, 7), append(slices.Clone(falling), rising...), slices.Concat([]int{5}, rising, []int{5, 5})} {
			if count <= api.MaxList {
				makes(t, 5, ids, rising)
			} else {
				refuses(t, 5, ids)
			}
			// One of them is the node itself: that makes room for one more.
			holds(t, 11, ids)
		}
	}
}

// TestNoPlaceIsNamed puts one that is no place at each spot: behind as many as may be, too, and behind one too many.
func TestNoPlaceIsNamed(t *testing.T) {
	for _, n := range noPlaces {
		refuses(t, n, nil)
		refuses(t, n, []int{n})
		refuses(t, n, []int{5, 6})
		refuses(t, n, counted(api.MaxList))
		refuses(t, 5, []int{n, n})
		for count := range api.MaxList + 2 {
			for at := range count + 1 {
				refuses(t, 5, slices.Insert(counted(count), at, n))
				refuses(t, 5, slices.Insert(slices.Repeat([]int{30}, count), at, n))
				refuses(t, 5, slices.Insert(slices.Repeat([]int{5}, count), at, n))
			}
		}
	}
}

// TestLongListsOfFew: how long a list is does not tell, nor whether it is long ahead of what it ends with.
func TestLongListsOfFew(t *testing.T) {
	makes(t, 10, make([]int, 1<<20), []int{0})
	makes(t, 0, make([]int, 1<<20), nil)
	many := slices.Repeat(counted(api.MaxList), 1<<14)
	for _, last := range []int{10, 11, 26} {
		makes(t, 10, append(many, last), counted(api.MaxList))
	}
	refuses(t, 10, append(many, 27))
	for _, n := range noPlaces {
		refuses(t, 10, append(many, n))
	}
}

// TestRowsByChance names places over and over, in all rows.
func TestRowsByChance(t *testing.T) {
	for n := range 4000 {
		id := n * 37 % api.Ids
		var ids []int
		for k := range n % 41 {
			ids = append(ids, (id+(n+k)*(k*k+n/7)%(5+n%29))%api.Ids)
		}
		holds(t, id, ids)
	}
}

func TestSomeMayBe(t *testing.T) {
	may(t, api.Node{}, true)
	may(t, api.Node{Up: true}, true)
	may(t, api.Node{Up: true, View: api.View{Id: 10, Peers: []api.Peer{{Id: 20, Missed: 2}, {Id: 5}}, Passive: []int{6, 30}}}, true)
	may(t, api.Node{Up: true, Items: []api.Item{{Version: api.Version{Count: 1}}, {Key: 255, Version: api.Version{Count: api.MaxCount, Writer: 255}, Gone: true}}}, true)
	may(t, api.Node{Up: true, Log: []api.Told{{Key: 255, Has: true, Value: 255}, {}, {}, {Has: true}, {Key: 255}}}, true)
	may(t, whole(), true)
}

// TestEachMayBe: up or not, each place may be a node's, and no other number.
func TestEachMayBe(t *testing.T) {
	for _, up := range []bool{false, true} {
		for id := range api.Ids {
			may(t, api.Node{Up: up, View: api.View{Id: id}}, true)
		}
		for _, n := range noPlaces {
			may(t, api.Node{Up: up, View: api.View{Id: n}}, false)
		}
	}
}

// TestAllThatMayNotBe: by itself, and beside all else that a node may be.
func TestAllThatMayNotBe(t *testing.T) {
	for _, x := range noNodes() {
		may(t, x, false)
		y := whole()
		switch {
		case len(x.Items) > 0:
			y.Items = x.Items
		case len(x.Log) > 0:
			y.Log = x.Log
		default:
			y.View = x.View
		}
		may(t, y, false)
		x.Up, y.Up = false, false
		may(t, x, false)
		may(t, y, false)
	}
}

// TestWhatIsToldMayBe holds each Key against each Value, of one that is there, and of none.
func TestWhatIsToldMayBe(t *testing.T) {
	for key := -1; key <= api.Ids; key++ {
		for value := -1; value <= api.Ids; value++ {
			inside := key >= 0 && key <= 255 && value >= 0 && value <= 255
			may(t, api.Node{Up: true, Log: []api.Told{{Key: key, Has: true, Value: value}}}, inside)
			may(t, api.Node{Up: true, Log: []api.Told{{Key: key, Value: value}}}, inside && value == 0)
		}
	}
}

// TestEachSpotOfTheLog puts one that may not be there.
func TestEachSpotOfTheLog(t *testing.T) {
	for _, count := range []int{1, 2, 3, api.MaxLog} {
		for at := range count {
			for _, told := range noTold() {
				x := api.Node{Up: true, View: api.View{Id: 10}, Log: whole().Log[:count]}
				may(t, x, true)
				x.Log[at] = told
				may(t, x, false)
			}
		}
	}
}

func TestEachLength(t *testing.T) {
	for count := range 2 * api.MaxLog {
		may(t, api.Node{Up: true, Log: make([]api.Told, count)}, count <= api.MaxLog)
		may(t, api.Node{Up: true, Items: itemsOf(count / 2)}, count/2 <= api.MaxItems)
		may(t, api.Node{Up: true, View: api.View{Id: 10, Passive: counted(count)}}, count <= api.MaxList)
	}
}

// TestNotUp: one thing alone beside the Id, that may be while the node is up, may not be there.
func TestNotUp(t *testing.T) {
	x := whole()
	for _, y := range []api.Node{
		{View: api.View{Id: 10, Peers: x.View.Peers}},
		{View: api.View{Id: 10, Passive: x.View.Passive}},
		{View: api.View{Id: 10, Peers: x.View.Peers[:1]}},
		{View: api.View{Id: 10, Passive: []int{0}}},
		{View: api.View{Id: 10}, Items: x.Items},
		{View: api.View{Id: 10}, Items: x.Items[:1]},
		{View: api.View{Id: 10}, Log: x.Log},
		{View: api.View{Id: 10}, Log: x.Log[:1]},
		{View: api.View{Id: 10}, Log: make([]api.Told, 1)},
		x,
	} {
		y.Up = true
		may(t, y, true)
		y.Up = false
		may(t, y, false)
	}
}

// TestAnEmptyListIsNone: an empty one and nil are one, its spare room does not tell.
func TestAnEmptyListIsNone(t *testing.T) {
	x := whole()
	for _, up := range []bool{false, true} {
		may(t, api.Node{Up: up, View: api.View{Id: 10, Peers: []api.Peer{}, Passive: []int{}}, Items: []api.Item{}, Log: []api.Told{}}, true)
		may(t, api.Node{Up: up, View: api.View{Id: 10, Peers: x.View.Peers[:0], Passive: x.View.Passive[:0]}, Items: x.Items[:0], Log: x.Log[:0]}, true)
	}
}

// TestWhatIsHandedInStays looks at the list, and at its spare room, in what New answers too.
func TestWhatIsHandedInStays(t *testing.T) {
	for _, all := range [][]int{{5, 20, 30, 77, 78}, {30, 20, 5, 77, 78}, {5, 5, 10, 77, 78}} {
		ids := slices.Clone(all)
		first, _ := New(10, ids[:3])
		second, _ := New(10, ids[:3])
		known := slices.Clone(second.View.Passive)
		room := first.View.Passive[:cap(first.View.Passive)]
		for at := range room {
			room[at] = -9
		}
		if !slices.Equal(ids, all) {
			t.Errorf("R4: the list, or its spare room, became %v", ids)
		}
		for at := range ids {
			ids[at] = -8
		}
		if !slices.Equal(second.View.Passive, known) {
			t.Errorf("R4: what was answered became %v", second.View.Passive)
		}
	}
}

func TestMayLeavesWhatIsHandedIn(t *testing.T) {
	x, old := whole(), whole()
	for count := range api.MaxList / 2 {
		May(api.Node{Up: true, View: api.View{Id: 10, Peers: x.View.Peers[:count], Passive: x.View.Passive[:count]}, Items: x.Items[:count], Log: x.Log[:count]})
		May(api.Node{View: api.View{Id: 10, Peers: x.View.Peers[:count], Passive: x.View.Passive[:count]}, Items: x.Items[:count], Log: x.Log[:count]})
	}
	if !slices.Equal(x.View.Peers, old.View.Peers) || !slices.Equal(x.View.Passive, old.View.Passive) || !slices.Equal(x.Items, old.Items) || !slices.Equal(x.Log, old.Log) {
		t.Errorf("R4: what was handed in became %v", x)
	}
}

func TestManyCallAtOneTime(t *testing.T) {
	x, ids := whole(), counted(api.MaxList)
	var all sync.WaitGroup
	for range 8 {
		all.Add(1)
		go func() {
			defer all.Done()
			for id := range api.Ids {
				may(t, x, true)
				holds(t, id, ids)
				refuses(t, id, counted(api.MaxList+2))
			}
		}()
	}
	all.Wait()
}
