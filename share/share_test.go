package share

import (
	"math"
	"slices"
	"sync"
	"testing"

	"gimmal/api"
	"gimmal/msg"
)

// noPlaces are the nearest numbers beside the places, those that a byte would
// hide, and those at which a sum would wrap round.
var noPlaces = []int{-1, 256, -256, 257, 512, 1 << 32, math.MinInt, math.MaxInt, math.MinInt + 1, math.MaxInt - 1}

// of answers an item that may be.
func of(key int, count int, writer int, value int) api.Item {
	return api.Item{Key: key, Version: api.Version{Count: count, Writer: writer}, Value: value}
}

func gone(key int, count int, writer int) api.Item {
	return api.Item{Key: key, Version: api.Version{Count: count, Writer: writer}, Gone: true}
}

// among answers a node of place id that hears the others, which are told by distance from it.
func among(id int, others []int, is ...api.Item) api.Node {
	x := api.Node{Up: true, View: api.View{Id: id}, Items: is}
	for at, other := range others {
		x.View.Peers = append(x.View.Peers, api.Peer{Id: other, Missed: at % api.MaxMissed})
	}
	return x
}

// brings answers the message of an item.
func brings(from int, to int, i api.Item) api.Msg {
	return api.Msg{Kind: api.KindItem, From: from, To: to, Item: i}
}

// stored answers items of as many keys as are asked for, from a first one on, each so far from the one ahead of it.
func stored(first int, step int, many int) []api.Item {
	var all []api.Item
	for n := range many {
		all = append(all, of(first+step*n, 1+n, 10*n, 255-n))
	}
	return all
}

// whole answers a node with something in each of its lists: it owns 4, 10 and 250; 20 owns 15, and 240 owns 239.
func whole() api.Node {
	return api.Node{
		Up:    true,
		View:  api.View{Id: 10, Peers: []api.Peer{{Id: 20, Missed: 2}, {Id: 240, Missed: 1}}, Passive: []int{6, 30}},
		Items: []api.Item{of(4, 3, 7, 9), gone(10, 2, 99), of(15, 1, 10, 0), gone(239, 65535, 255), of(250, 1, 0, 255)},
		Log:   []api.Told{{Key: 5, Has: true, Value: 9}, {Key: 8}},
	}
}

// shared are whole's messages.
func shared() []api.Msg {
	return []api.Msg{
		brings(10, 20, of(4, 3, 7, 9)),
		brings(10, 20, gone(10, 2, 99)),
		brings(10, 20, of(15, 1, 10, 0)),
		brings(10, 240, gone(239, 65535, 255)),
		brings(10, 20, of(250, 1, 0, 255)),
	}
}

// noNodes are nodes that can't share, each for one thing alone.
func noNodes() []api.Node {
	held := []api.Item{of(5, 3, 7, 9)}
	all := []api.Node{
		{},
		{View: api.View{Id: 10}},
		{View: api.View{Id: 10, Passive: []int{20}}},
		{View: api.View{Id: 10, Peers: []api.Peer{{Id: 20}}}},
		{View: api.View{Id: 10}, Items: held},
		{View: api.View{Id: 10}, Log: []api.Told{{Key: 5}}},
		{Up: true, View: api.View{Id: 10, Passive: []int{10}}, Items: held},
		{Up: true, View: api.View{Id: 10, Passive: []int{20, 5}}, Items: held},
		{Up: true, View: api.View{Id: 10, Passive: make([]int, 1<<16)}, Items: held},
		{Up: true, View: api.View{Id: 10}, Log: make([]api.Told, api.MaxLog+1), Items: held},
		{Up: true, View: api.View{Id: 10}, Log: []api.Told{{Key: 256}}, Items: held},
		{Up: true, View: api.View{Id: 10}, Log: []api.Told{{Key: 5, Value: 1}}, Items: held},
		{Up: true, View: api.View{Id: 10}, Log: []api.Told{{Key: 5, Has: true, Value: -1}}, Items: held},
		{Up: true, View: api.View{Id: 10, Peers: []api.Peer{{Id: 20}}, Passive: []int{20}}, Items: held},
		{Up: true, View: api.View{Id: 10, Peers: []api.Peer{{Id: 20, Missed: api.MaxMissed}}}, Items: held},
		{Up: true, View: api.View{Id: 10, Peers: []api.Peer{{Id: 20, Missed: -1}}}, Items: held},
		{Up: true, View: api.View{Id: 10, Peers: make([]api.Peer, 1<<16)}, Items: held},
		among(10, []int{10}, held...),
		among(10, []int{5, 20}, held...),
		among(10, []int{20, 20}, held...),
		among(10, []int{20}, api.Item{}),
		among(10, []int{20}, of(5, 0, 7, 9)),
		among(10, []int{20}, of(5, api.MaxCount+1, 7, 9)),
		among(10, []int{20}, of(5, 3, 256, 9)),
		among(10, []int{20}, of(5, 3, 7, 256)),
		among(10, []int{20}, api.Item{Key: 5, Version: api.Version{Count: 3}, Value: 1, Gone: true}),
		among(10, []int{20}, of(5, 3, 7, 9), of(5, 3, 7, 9)),
		among(10, []int{20}, of(5, 3, 7, 9), of(4, 3, 7, 9)),
		among(10, []int{20}, stored(0, 3, api.MaxItems+1)...),
		among(10, []int{20}, make([]api.Item, 1<<16)...),
	}
	for _, n := range noPlaces {
		all = append(all, among(n, nil, held...), among(10, []int{n}, held...), among(10, []int{20}, of(n, 3, 7, 9)))
	}
	// Whoever is down shares nothing, whatever else it holds.
	x := whole()
	x.Up = false
	return append(all, x)
}

func equal(a api.Msg, b api.Msg) bool {
	return a.Kind == b.Kind && a.From == b.From && a.To == b.To && slices.Equal(a.Ids, b.Ids) && a.Key == b.Key && a.Item == b.Item && a.Has == b.Has
}

func mayNotBe(m api.Msg) bool {
	return !msg.May(m)
}

func shares(t *testing.T, x api.Node, want ...api.Msg) {
	t.Helper()
	if got, e := Of(x); !slices.EqualFunc(got, want, equal) || slices.ContainsFunc(got, mayNotBe) || e != api.OK {
		t.Errorf("P18.1: Of(%v): %v, %d, not %v", x, got, e, want)
	}
}

func TestSomeNodes(t *testing.T) {
	shares(t, whole(), shared()...)
	// With nothing to share nobody is sent anything.
	shares(t, among(10, nil))
	shares(t, among(10, []int{20, 30, 5}))
	a, b, c := of(9, 1, 10, 0), of(10, 2, 20, 255), gone(11, 3, 5)
	shares(t, among(10, []int{20}, a, b, c), brings(10, 20, a), brings(10, 20, b), brings(10, 20, c))
	shares(t, among(10, []int{20, 30, 9}, a, b, c), brings(10, 9, a), brings(10, 20, b), brings(10, 20, c))
	shares(t, among(0, []int{9, 10, 11}, a, b, c), brings(0, 9, a), brings(0, 10, b), brings(0, 11, c))
	shares(t, among(200, []int{255}, a, b, c), brings(200, 255, a), brings(200, 255, b), brings(200, 255, c))
}

// TestAlone: whoever hears nobody sends nothing, even if it knows some that it lost.
func TestAlone(t *testing.T) {
	for id := range 256 {
		x := among(id, nil, stored(0, 17, api.MaxItems)...)
		shares(t, x)
		x.View.Passive = []int{(id + 1) % 256}
		shares(t, x)
		x.Log = whole().Log
		shares(t, x)
	}
}

// TestEachKeyOfTwo: whatever it is that one of two holds, the other one gets it.
func TestEachKeyOfTwo(t *testing.T) {
	for key := range 256 {
		for _, i := range []api.Item{of(key, 1, 0, 0), of(key, api.MaxCount, 255, 255), gone(key, 7, 10)} {
			for _, ids := range [][]int{{10, 20}, {20, 10}, {0, 255}, {255, 0}, {0, 128}} {
				shares(t, among(ids[0], ids[1:], i), brings(ids[0], ids[1], i))
			}
		}
	}
}

// ownerOfThree tells which of 40, 120 and 220 a key is up to: what is behind 220 is 40's.
func ownerOfThree(key int) int {
	switch {
	case key > 40 && key <= 120:
		return 120
	case key > 120 && key <= 220:
		return 220
	}
	return 40
}

// TestEachKeyOfThree: the owner by hand, and its successor, if it is the node itself.
func TestEachKeyOfThree(t *testing.T) {
	for key := range 256 {
		i := of(key, 3, 7, 9)
		owner := ownerOfThree(key)
		for at, id := range []int{40, 120, 220} {
			others := [][]int{{120, 220}, {220, 40}, {40, 120}}[at]
			to := owner
			if owner == id {
				to = others[0]
			}
			shares(t, among(id, others, i), brings(id, to, i))
			// Whom it lost owns nothing, wherever that is: even if it were the key's own place.
			x := among(id, others, i)
			for _, lost := range []int{key, (key + 1) % 256} {
				if lost != 40 && lost != 120 && lost != 220 {
					x.View.Passive = []int{lost}
					shares(t, x, brings(id, to, i))
				}
			}
		}
	}
}

// TestFullLists: as many peers, and as many items, as there may be, from each place.
func TestFullLists(t *testing.T) {
	for id := range 256 {
		var others []int
		for n := range api.MaxList {
			others = append(others, (id+15*(n+1))%256)
		}
		is := stored(0, 17, api.MaxItems)
		var want []api.Msg
		for _, i := range is {
			// Each peer's part is the fifteen places up to it; beyond the last one it is the node's own part.
			far := (i.Key - id + 256) % 256
			at := (far + 14) / 15
			if far == 0 || at > api.MaxList {
				at = 1
			}
			want = append(want, brings(id, others[at-1], i))
		}
		shares(t, among(id, others, is...), want...)
	}
}

func TestNodesThatCannotShare(t *testing.T) {
	for k, x := range noNodes() {
		if got, e := Of(x); len(got) != 0 || e != api.ErrShareForm {
			t.Errorf("P18.1, R2: node %d: %v, %d", k, got, e)
		}
	}
}

// roomy answers whole's lists with spare room behind them.
func roomy() api.Node {
	x := whole()
	x.View.Peers = append(x.View.Peers, api.Peer{Id: 77}, api.Peer{Id: 78})[:2]
	x.View.Passive = append(x.View.Passive, 77, 78)[:2]
	x.Items = append(x.Items, of(77, 7, 7, 7), of(78, 7, 7, 7))[:5]
	x.Log = append(x.Log, api.Told{Key: 77}, api.Told{Key: 78})[:2]
	return x
}

func even(a api.Node, b api.Node) bool {
	return a.Up == b.Up && a.View.Id == b.View.Id && slices.Equal(a.View.Peers, b.View.Peers) && slices.Equal(a.View.Passive, b.View.Passive) && slices.Equal(a.Items, b.Items) && slices.Equal(a.Log, b.Log)
}

// allOf tells all that a node's lists hold, their spare room too.
func allOf(x api.Node) api.Node {
	x.View.Peers = slices.Clone(x.View.Peers[:cap(x.View.Peers)])
	x.View.Passive = slices.Clone(x.View.Passive[:cap(x.View.Passive)])
	x.Items = slices.Clone(x.Items[:cap(x.Items)])
	x.Log = slices.Clone(x.Log[:cap(x.Log)])
	return x
}

func TestWhatIsHandedInStays(t *testing.T) {
	x := roomy()
	old := allOf(x)
	first, _ := Of(x)
	second, _ := Of(x)
	clear(first[:cap(first)])
	if !even(allOf(x), old) {
		t.Errorf("R4: the node, or its spare room, became %v", allOf(x))
	}
	clear(x.View.Peers)
	clear(x.Items)
	if !slices.EqualFunc(second, shared(), equal) {
		t.Errorf("R4: what was answered became %v", second)
	}
}

func TestManyCallAtOneTime(t *testing.T) {
	x, alone := whole(), among(10, nil, of(5, 3, 7, 9))
	var all sync.WaitGroup
	for range 8 {
		all.Add(1)
		go func() {
			defer all.Done()
			for range 256 {
				shares(t, x, shared()...)
				shares(t, alone)
			}
		}()
	}
	all.Wait()
}
