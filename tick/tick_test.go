package tick

import (
	"math"
	"slices"
	"sync"
	"testing"

	"gimmal/api"
	"gimmal/msg"
	"gimmal/node"
)

// noPlaces are the nearest numbers beside the places, those that a byte would
// hide, and those at which a sum would wrap round.
var noPlaces = []int{-1, 256, -256, 257, 512, 1 << 32, math.MinInt, math.MaxInt, math.MinInt + 1, math.MaxInt - 1}

// of answers an item that may be.
func of(key int, count int, writer int, value int) api.Item {
	return api.Item{Key: key, Version: api.Version{Count: count, Writer: writer}, Value: value}
}

func gone(key int, count int, writer int) api.Item {
	return api.Item{Key: key, Version: api.Version{Count: count, Writer: writer}, Gone: true}
}

// among answers a node of place id that just heard the others, which are told by distance from it.
func among(id int, others []int, is ...api.Item) api.Node {
	x := api.Node{Up: true, View: api.View{Id: id}, Items: is}
	for _, other := range others {
		x.View.Peers = append(x.View.Peers, api.Peer{Id: other})
	}
	return x
}

// later answers a node behind a tick by which nobody is lost.
func later(x api.Node) api.Node {
	x.View.Peers = slices.Clone(x.View.Peers)
	for at := range x.View.Peers {
		x.View.Peers[at].Missed++
	}
	return x
}

// greets answers the message of a greeting.
func greets(from int, to int, ids ...int) api.Msg {
	return api.Msg{Kind: api.KindHello, From: from, To: to, Ids: ids}
}

// brings answers the message of an item.
func brings(from int, to int, i api.Item) api.Msg {
	return api.Msg{Kind: api.KindItem, From: from, To: to, Item: i}
}

// whole answers a node with something in each of its lists: with the next tick it loses 20 and 250.
func whole() api.Node {
	return api.Node{
		Up:    true,
		View:  api.View{Id: 10, Peers: []api.Peer{{Id: 20, Missed: 2}, {Id: 100, Missed: 0}, {Id: 240, Missed: 1}, {Id: 250, Missed: 2}, {Id: 5, Missed: 0}}, Passive: []int{6, 30, 251}},
		Items: []api.Item{of(4, 3, 7, 9), gone(10, 2, 99), of(15, 1, 10, 0), gone(239, 65535, 255), of(245, 1, 0, 255)},
		Log:   []api.Told{{Key: 5, Has: true, Value: 9}, {Key: 8}},
	}
}

// behind is whole behind its turn.
func behind() api.Node {
	x := whole()
	x.View.Peers = []api.Peer{{Id: 100, Missed: 1}, {Id: 240, Missed: 2}, {Id: 5, Missed: 1}}
	x.View.Passive = []int{6, 20, 30, 250, 251}
	return x
}

// sent are whole's messages: 5 and 100 get what 250 and 20 owned ahead of the tick.
func sent() []api.Msg {
	return []api.Msg{
		greets(10, 100, 100, 240, 5),
		greets(10, 240, 100, 240, 5),
		greets(10, 5, 100, 240, 5),
		greets(10, 6, 100, 240, 5),
		greets(10, 20, 100, 240, 5),
		greets(10, 30, 100, 240, 5),
		greets(10, 250, 100, 240, 5),
		greets(10, 251, 100, 240, 5),
		brings(10, 5, of(4, 3, 7, 9)),
		brings(10, 100, gone(10, 2, 99)),
		brings(10, 100, of(15, 1, 10, 0)),
		brings(10, 240, gone(239, 65535, 255)),
		brings(10, 5, of(245, 1, 0, 255)),
	}
}

func equal(a api.Msg, b api.Msg) bool {
	return a.Kind == b.Kind && a.From == b.From && a.To == b.To && slices.Equal(a.Ids, b.Ids) && a.Key == b.Key && a.Item == b.Item && a.Has == b.Has
}

func even(a api.Node, b api.Node) bool {
	return a.Up == b.Up && a.View.Id == b.View.Id && slices.Equal(a.View.Peers, b.View.Peers) && slices.Equal(a.View.Passive, b.View.Passive) && slices.Equal(a.Items, b.Items) && slices.Equal(a.Log, b.Log)
}

func mayNotBe(m api.Msg) bool {
	return !msg.May(m)
}

func steps(t *testing.T, x api.Node, want api.Node, ms ...api.Msg) {
	t.Helper()
	got, all, e := Step(x)
	if !even(got, want) || !node.May(got) {
		t.Errorf("P19.1: Step(%v): the node %v, not %v", x, got, want)
	}
	if !slices.EqualFunc(all, ms, equal) || slices.ContainsFunc(all, mayNotBe) {
		t.Errorf("P19.1: Step(%v): the messages %v, not %v", x, all, ms)
	}
	if e != api.OK {
		t.Errorf("P19.1: Step(%v): %d", x, e)
	}
}

func TestSomeNodes(t *testing.T) {
	steps(t, whole(), behind(), sent()...)
	a, b := of(9, 1, 10, 0), gone(15, 3, 5)
	x := among(10, []int{20}, a, b)
	steps(t, x, later(x), greets(10, 20, 20), brings(10, 20, a), brings(10, 20, b))
	x = among(10, []int{20, 9}, a, b)
	steps(t, x, later(x), greets(10, 20, 20, 9), greets(10, 9, 20, 9), brings(10, 9, a), brings(10, 20, b))
	// With nothing to share there is still whom to greet.
	x = among(0, []int{1, 255})
	steps(t, x, later(x), greets(0, 1, 1, 255), greets(0, 255, 1, 255))
}

// TestAlone: whoever knows nobody sends nothing; whoever lost all greets those, and names nobody.
func TestAlone(t *testing.T) {
	for id := range 256 {
		x := among(id, nil, of(3, 1, 0, 0), gone(200, 2, 9))
		x.Log = whole().Log
		steps(t, x, x)
		low, high := (id+1)%256, (id+255)%256
		if low > high {
			low, high = high, low
		}
		x.View.Passive = []int{low, high}
		steps(t, x, x, greets(id, low), greets(id, high))
	}
}

// TestThreeTicks: a peer that is not heard is greeted as a peer twice, then as one that is lost; from then on the item stays.
func TestThreeTicks(t *testing.T) {
	for other := range 256 {
		if other == 10 {
			continue
		}
		i := of(other, 1, 0, 0)
		x := among(10, []int{other}, i)
		for missed := 1; missed < api.MaxMissed; missed++ {
			steps(t, x, later(x), greets(10, other, other), brings(10, other, i))
			x = later(x)
		}
		lost := among(10, nil, i)
		lost.View.Passive = []int{other}
		steps(t, x, lost, greets(10, other))
		steps(t, lost, lost, greets(10, other))
	}
}

// TestWhoIsLostOwnsNothing: the item goes by the view behind the tick, wherever its key is.
func TestWhoIsLostOwnsNothing(t *testing.T) {
	for key := range 256 {
		i := of(key, 3, 7, 9)
		x := among(40, []int{120, 220}, i)
		x.View.Peers[0].Missed = api.MaxMissed - 1
		want := among(40, []int{220}, i)
		want.View.Peers[0].Missed = 1
		want.View.Passive = []int{120}
		steps(t, x, want, greets(40, 220, 220), greets(40, 120, 220), brings(40, 220, i))
		x = among(40, []int{120, 220}, i)
		x.View.Peers[1].Missed = api.MaxMissed - 1
		want = among(40, []int{120}, i)
		want.View.Peers[0].Missed = 1
		want.View.Passive = []int{220}
		steps(t, x, want, greets(40, 120, 120), greets(40, 220, 120), brings(40, 120, i))
	}
}

// TestFullLists: as many known ones, of which some are lost, as many items, as much told as there may be, from each place.
func TestFullLists(t *testing.T) {
	for id := range 256 {
		for lost := range api.MaxList + 1 {
			x, want, ms := full(id, lost)
			steps(t, x, want, ms...)
		}
	}
}

// full answers a node of sixteen peers, fifteen places from each other, that loses the first ones of them; what it is
// behind its turn; and what it sends.
func full(id int, lost int) (api.Node, api.Node, []api.Msg) {
	x := api.Node{Up: true, View: api.View{Id: id}, Log: make([]api.Told, api.MaxLog)}
	var left, away []int
	for n := range api.MaxList {
		other := (id + 15*(n+1)) % 256
		x.Items = append(x.Items, of(17*n, 1+n, 10*n, 255-n))
		if n < lost {
			away = append(away, other)
			x.View.Peers = append(x.View.Peers, api.Peer{Id: other, Missed: api.MaxMissed - 1})
			continue
		}
		left = append(left, other)
		x.View.Peers = append(x.View.Peers, api.Peer{Id: other, Missed: n % (api.MaxMissed - 1)})
	}
	slices.Sort(away)
	want := later(x)
	want.View.Peers = want.View.Peers[lost:]
	want.View.Passive = away
	var ms []api.Msg
	for _, other := range append(slices.Clone(left), away...) {
		ms = append(ms, greets(id, other, left...))
	}
	for _, i := range x.Items {
		if len(left) > 0 {
			ms = append(ms, brings(id, left[ownerOf(i.Key, id, lost)], i))
		}
	}
	return x, want, ms
}

// ownerOf tells whose a key is, as its number among those that are left: each has the fifteen places up to it, the
// first one also those of whoever is lost. What is behind the last one is the node's own: it goes to its successor.
func ownerOf(key int, id int, lost int) int {
	far := (key - id + 256) % 256
	at := (far+14)/15 - 1 - lost
	if far == 0 || far > 15*api.MaxList || at < 0 {
		return 0
	}
	return at
}

// noNodes are nodes that have no turn, each for one thing alone.
func noNodes() []api.Node {
	held := []api.Item{of(5, 3, 7, 9)}
	all := []api.Node{
		{},
		{View: api.View{Id: 10}},
		{View: api.View{Id: 10, Passive: []int{20}}},
		{View: api.View{Id: 10, Peers: []api.Peer{{Id: 20}}}},
		{View: api.View{Id: 10}, Items: held},
		{View: api.View{Id: 10}, Log: []api.Told{{Key: 5}}},
		{Up: true, View: api.View{Id: 10, Passive: []int{10}}, Items: held},
		{Up: true, View: api.View{Id: 10, Passive: []int{20, 5}}, Items: held},
		{Up: true, View: api.View{Id: 10, Passive: make([]int, 1<<16)}, Items: held},
		{Up: true, View: api.View{Id: 10}, Log: make([]api.Told, api.MaxLog+1), Items: held},
		{Up: true, View: api.View{Id: 10}, Log: []api.Told{{Key: 256}}, Items: held},
		{Up: true, View: api.View{Id: 10}, Log: []api.Told{{Key: 5, Value: 1}}, Items: held},
		{Up: true, View: api.View{Id: 10}, Log: []api.Told{{Key: 5, Has: true, Value: -1}}, Items: held},
		{Up: true, View: api.View{Id: 10, Peers: []api.Peer{{Id: 20}}, Passive: []int{20}}, Items: held},
		{Up: true, View: api.View{Id: 10, Peers: []api.Peer{{Id: 20, Missed: api.MaxMissed}}}, Items: held},
		{Up: true, View: api.View{Id: 10, Peers: []api.Peer{{Id: 20, Missed: -1}}}, Items: held},
		{Up: true, View: api.View{Id: 10, Peers: make([]api.Peer, 1<<16)}, Items: held},
		among(10, []int{10}, held...),
		among(10, []int{5, 20}, held...),
		among(10, []int{20, 20}, held...),
		among(10, []int{20}, api.Item{}),
		among(10, []int{20}, of(5, 0, 7, 9)),
		among(10, []int{20}, of(5, api.MaxCount+1, 7, 9)),
		among(10, []int{20}, of(5, 3, 256, 9)),
		among(10, []int{20}, of(5, 3, 7, 256)),
		among(10, []int{20}, api.Item{Key: 5, Version: api.Version{Count: 3}, Value: 1, Gone: true}),
		among(10, []int{20}, of(5, 3, 7, 9), of(5, 3, 7, 9)),
		among(10, []int{20}, of(5, 3, 7, 9), of(4, 3, 7, 9)),
		among(10, []int{20}, make([]api.Item, api.MaxItems+1)...),
		among(10, []int{20}, make([]api.Item, 1<<16)...),
	}
	for _, n := range noPlaces {
		lost := among(10, []int{20}, held...)
		lost.View.Passive = []int{n}
		all = append(all, lost, among(n, nil, held...), among(10, []int{n}, held...), among(10, []int{20}, of(n, 3, 7, 9)))
	}
	// Whoever is down has no turn, whatever else it holds.
	x := whole()
	x.Up = false
	return append(all, x)
}

func TestNodesThatHaveNoTurn(t *testing.T) {
	for k, x := range noNodes() {
		if got, ms, e := Step(x); !even(got, api.Node{}) || len(ms) != 0 || e != api.ErrTickForm {
			t.Errorf("P19.1, R2: node %d: %v, %v, %d", k, got, ms, e)
		}
	}
}

// TestOneTooMany: a peer that is lost finds room among the Passive, as both lists are bounded together.
func TestOneTooMany(t *testing.T) {
	x := among(10, []int{20}, of(5, 3, 7, 9))
	x.View.Peers[0].Missed = api.MaxMissed - 1
	for n := range api.MaxList - 1 {
		x.View.Passive = append(x.View.Passive, 100+n)
	}
	want := among(10, nil, of(5, 3, 7, 9))
	want.View.Passive = append([]int{20}, x.View.Passive...)
	var ms []api.Msg
	for _, to := range want.View.Passive {
		ms = append(ms, greets(10, to))
	}
	steps(t, x, want, ms...)
	x.View.Passive = append(x.View.Passive, 200)
	if got, all, e := Step(x); !even(got, api.Node{}) || len(all) != 0 || e != api.ErrTickForm {
		t.Errorf("P19.1, R2: %v, %v, %d", got, all, e)
	}
}

// roomy answers whole's lists with spare room behind them.
func roomy() api.Node {
	x := whole()
	x.View.Peers = append(x.View.Peers, api.Peer{Id: 77}, api.Peer{Id: 78})[:5]
	x.View.Passive = append(x.View.Passive, 77, 78)[:3]
	x.Items = append(x.Items, of(77, 7, 7, 7), of(78, 7, 7, 7))[:5]
	x.Log = append(x.Log, api.Told{Key: 77}, api.Told{Key: 78})[:2]
	return x
}

// allOf tells all that a node's lists hold, their spare room too.
func allOf(x api.Node) api.Node {
	x.View.Peers = slices.Clone(x.View.Peers[:cap(x.View.Peers)])
	x.View.Passive = slices.Clone(x.View.Passive[:cap(x.View.Passive)])
	x.Items = slices.Clone(x.Items[:cap(x.Items)])
	x.Log = slices.Clone(x.Log[:cap(x.Log)])
	return x
}

// spoil writes over each of a node's lists, the spare room too.
func spoil(x api.Node) {
	clear(x.View.Peers[:cap(x.View.Peers)])
	clear(x.View.Passive[:cap(x.View.Passive)])
	clear(x.Items[:cap(x.Items)])
	clear(x.Log[:cap(x.Log)])
}

// spoilAll writes over each message's list, the spare room too, then over the messages.
func spoilAll(ms []api.Msg) {
	for _, m := range ms {
		clear(m.Ids[:cap(m.Ids)])
	}
	clear(ms[:cap(ms)])
}

func TestWhatIsHandedInStays(t *testing.T) {
	x := roomy()
	old := allOf(x)
	got, ms, _ := Step(x)
	second, others, _ := Step(x)
	spoil(got)
	spoilAll(ms)
	if !even(allOf(x), old) {
		t.Errorf("R4: the node, or its spare room, became %v", allOf(x))
	}
	spoil(x)
	if !even(second, behind()) || !slices.EqualFunc(others, sent(), equal) {
		t.Errorf("R4: what was answered became %v, %v", second, others)
	}
}

// TestNoTwoListsShare: whatever is done to one list of an answer, its spare room too, the others stay.
func TestNoTwoListsShare(t *testing.T) {
	for at := range sent() {
		got, ms, _ := Step(roomy())
		clear(ms[at].Ids[:cap(ms[at].Ids)])
		ms[at] = sent()[at]
		if !even(got, behind()) || !slices.EqualFunc(ms, sent(), equal) {
			t.Errorf("R4: by message %d: %v, %v", at, got, ms)
		}
	}
	got, ms, _ := Step(roomy())
	spoil(got)
	if !slices.EqualFunc(ms, sent(), equal) {
		t.Errorf("R4: by the node: %v", ms)
	}
	got, ms, _ = Step(roomy())
	if spoilAll(ms); !even(got, behind()) {
		t.Errorf("R4: by the messages: %v", got)
	}
}

// TestEmptyListsShareNothing: an empty list that has spare room leaves none of it in an answer.
func TestEmptyListsShareNothing(t *testing.T) {
	x := api.Node{Up: true, View: api.View{Id: 10, Peers: []api.Peer{{Id: 77}}[:0], Passive: []int{77}[:0]}, Items: []api.Item{of(77, 7, 7, 7)}[:0], Log: []api.Told{{Key: 77}}[:0]}
	got, ms, e := Step(x)
	if !even(got, api.Node{Up: true, View: api.View{Id: 10}}) || len(ms) != 0 || e != api.OK {
		t.Errorf("P19.1: %v, %v, %d", got, ms, e)
	}
	old := allOf(x)
	spoil(got)
	if all := allOf(x); !even(all, old) {
		t.Errorf("R4: the spare room became %v", all)
	}
}

func TestManyCallAtOneTime(t *testing.T) {
	x, alone := whole(), among(10, nil, of(5, 3, 7, 9))
	var all sync.WaitGroup
	for range 8 {
		all.Add(1)
		go func() {
			defer all.Done()
			for range 256 {
				steps(t, x, behind(), sent()...)
				steps(t, alone, alone)
			}
		}()
	}
	all.Wait()
}
