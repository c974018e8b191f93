package take

import (
	"math"
	"slices"
	"sync"
	"testing"

	"gimmal/api"
	"gimmal/node"
)

// noBytes and noCounts are the nearest numbers beside what may be, those that one
// byte, or two, would hide, and those at which a difference would wrap round.
var (
	noBytes  = []int{-1, 256, -256, 257, 512, 1 << 32, math.MinInt, math.MaxInt, math.MinInt + 1, math.MaxInt - 1}
	noCounts = []int{0, -1, api.MaxCount + 1, api.MaxCount + 2, 1<<32 + 1, math.MinInt, math.MaxInt}
)

// of answers an item that may be.
func of(key int, count int, writer int, value int) api.Item {
	return api.Item{Key: key, Version: api.Version{Count: count, Writer: writer}, Value: value}
}

func gone(key int, count int, writer int) api.Item {
	return api.Item{Key: key, Version: api.Version{Count: count, Writer: writer}, Gone: true}
}

func holding(is ...api.Item) api.Node {
	return api.Node{Up: true, View: api.View{Id: 10}, Items: is}
}

// stored answers items of the keys 0, 3, 6, as many as are asked for, all of one count.
func stored(many int, count int) []api.Item {
	var all []api.Item
	for n := range many {
		all = append(all, of(3*n, count, 200, n))
	}
	return all
}

// rising answers items of one key, each better than those ahead of it.
func rising(key int) []api.Item {
	var all []api.Item
	for _, count := range []int{1, 2, 256, api.MaxCount - 1, api.MaxCount} {
		for _, writer := range []int{0, 9, 10, 11, 255} {
			for _, value := range []int{0, 1, 254, 255} {
				all = append(all, of(key, count, writer, value))
			}
			all = append(all, gone(key, count, writer))
		}
	}
	return all
}

// whole answers a node with something in each of its lists.
func whole() api.Node {
	return api.Node{
		Up:    true,
		View:  api.View{Id: 10, Peers: []api.Peer{{Id: 20, Missed: 2}, {Id: 5, Missed: 1}}, Passive: []int{6, 30}},
		Items: []api.Item{of(5, 3, 7, 9), gone(8, 2, 99), of(250, 1, 10, 0)},
		Log:   []api.Told{{Key: 5, Has: true, Value: 9}, {Key: 8}},
	}
}

// noNodes are nodes that can't take an item, each for one thing alone.
func noNodes() []api.Node {
	all := []api.Node{
		{},
		{View: api.View{Id: 10}},
		{View: api.View{Id: 10, Passive: []int{20}}},
		{View: api.View{Id: 10}, Items: []api.Item{of(5, 3, 7, 9)}},
		{View: api.View{Id: 10}, Log: []api.Told{{Key: 5}}},
		{Up: true, View: api.View{Id: 10, Passive: []int{10}}},
		{Up: true, View: api.View{Id: 10, Passive: []int{20, 5}}},
		{Up: true, View: api.View{Id: 10, Passive: make([]int, 1<<16)}},
		{Up: true, View: api.View{Id: 10, Peers: []api.Peer{{Id: 10}}}},
		{Up: true, View: api.View{Id: 10, Peers: []api.Peer{{Id: 5}, {Id: 20}}}},
		{Up: true, View: api.View{Id: 10, Peers: []api.Peer{{Id: 20, Missed: api.MaxMissed}}}},
		{Up: true, View: api.View{Id: 10, Peers: []api.Peer{{Id: 20}}, Passive: []int{20}}},
		{Up: true, View: api.View{Id: 10}, Log: make([]api.Told, api.MaxLog+1)},
		{Up: true, View: api.View{Id: 10}, Log: []api.Told{{Key: 256}}},
		{Up: true, View: api.View{Id: 10}, Log: []api.Told{{Key: 5, Value: 1}}},
		{Up: true, View: api.View{Id: 10}, Log: []api.Told{{Key: 5, Has: true, Value: -1}}},
		holding(api.Item{}),
		holding(of(5, 0, 7, 9)),
		holding(of(5, api.MaxCount+1, 7, 9)),
		holding(of(5, 3, 256, 9)),
		holding(of(5, 3, 7, 256)),
		holding(of(256, 3, 7, 9)),
		holding(api.Item{Key: 5, Version: api.Version{Count: 3}, Value: 1, Gone: true}),
		holding(of(5, 3, 7, 9), of(5, 3, 7, 9)),
		holding(of(5, 3, 7, 9), of(4, 3, 7, 9)),
		holding(stored(api.MaxItems+1, 3)...),
		holding(make([]api.Item, 1<<16)...),
	}
	for _, n := range noBytes {
		all = append(all, api.Node{Up: true, View: api.View{Id: n}})
	}
	// Whoever is down holds nothing, so it is no node; and it takes nothing either.
	x := whole()
	x.Up = false
	return append(all, x)
}

// noItems are items that may not be, each for one thing alone, but the first ones.
func noItems() []api.Item {
	all := []api.Item{{}, {Gone: true}, {Key: 5, Value: 9}}
	for _, n := range noBytes {
		all = append(all, of(n, 1, 7, 9), of(5, 1, n, 9), of(5, 1, 7, n), gone(n, 1, 7), gone(5, 1, n))
	}
	for _, n := range noCounts {
		all = append(all, of(5, n, 7, 9), gone(5, n, 7))
	}
	for value := 1; value <= 255; value++ {
		i := gone(5, 1, 7)
		i.Value = value
		all = append(all, i)
	}
	return all
}

func even(a api.Node, b api.Node) bool {
	return a.Up == b.Up && a.View.Id == b.View.Id && slices.Equal(a.View.Peers, b.View.Peers) && slices.Equal(a.View.Passive, b.View.Passive) && slices.Equal(a.Items, b.Items) && slices.Equal(a.Log, b.Log)
}

// with tells the node with other items.
func with(x api.Node, is ...api.Item) api.Node {
	x.Items = is
	return x
}

func takes(t *testing.T, x api.Node, i api.Item, want api.Node) {
	t.Helper()
	if got, e := Item(x, i); !even(got, want) || e != api.OK || !node.May(got) {
		t.Errorf("P20.1: Item(%v, %v): %v, %d, not %v", x, i, got, e, want)
	}
}

func refuses(t *testing.T, x api.Node, i api.Item) {
	t.Helper()
	if got, e := Item(x, i); !even(got, api.Node{}) || e != api.ErrTakeForm {
		t.Errorf("P20.1, R2: Item(%v, %v): %v, %d, not %d", x, i, got, e, api.ErrTakeForm)
	}
}

func TestSomeItems(t *testing.T) {
	none := holding()
	takes(t, none, of(5, 3, 7, 9), holding(of(5, 3, 7, 9)))
	takes(t, none, of(0, 1, 0, 0), holding(of(0, 1, 0, 0)))
	takes(t, none, of(255, api.MaxCount, 255, 255), holding(of(255, api.MaxCount, 255, 255)))
	// One that is gone is held too, though nothing was there: it keeps elder ones out.
	takes(t, none, gone(5, 3, 7), holding(gone(5, 3, 7)))
	x := whole()
	a, b, c := x.Items[0], x.Items[1], x.Items[2]
	takes(t, x, of(5, 4, 0, 1), with(x, of(5, 4, 0, 1), b, c))
	takes(t, x, of(5, 3, 8, 1), with(x, of(5, 3, 8, 1), b, c))
	takes(t, x, of(5, 3, 7, 10), with(x, of(5, 3, 7, 10), b, c))
	takes(t, x, gone(5, 3, 7), with(x, gone(5, 3, 7), b, c))
	takes(t, x, of(8, 3, 0, 1), with(x, a, of(8, 3, 0, 1), c))
	// What is not better changes nothing, be it the node's own, or another's.
	takes(t, x, of(5, 2, 255, 255), x)
	takes(t, x, of(5, 3, 6, 255), x)
	takes(t, x, of(5, 3, 7, 8), x)
	takes(t, x, of(5, 3, 7, 9), x)
	takes(t, x, gone(5, 2, 255), x)
	takes(t, x, of(8, 2, 99, 255), x)
	takes(t, x, of(8, 2, 98, 1), x)
	takes(t, x, gone(8, 2, 99), x)
	takes(t, x, of(0, 1, 7, 4), with(x, of(0, 1, 7, 4), a, b, c))
	takes(t, x, of(7, 1, 7, 4), with(x, a, of(7, 1, 7, 4), b, c))
	takes(t, x, gone(255, 1, 7), with(x, a, b, c, gone(255, 1, 7)))
}

// TestEachKey takes one of each key: it is nothing to the node whose key it is, nor who wrote it.
func TestEachKey(t *testing.T) {
	x := whole()
	for key := range 256 {
		rest := slices.DeleteFunc(slices.Clone(x.Items), func(i api.Item) bool { return i.Key == key })
		at := 0
		for at < len(rest) && rest[at].Key < key {
			at++
		}
		for _, i := range []api.Item{of(key, 4, 255-key, key), gone(key, 4, key)} {
			takes(t, x, i, with(x, slices.Insert(slices.Clone(rest), at, i)...))
		}
	}
}

// TestTheBetterOneIsHeld holds all of one key against each other, whichever of them came first (T4).
func TestTheBetterOneIsHeld(t *testing.T) {
	all := rising(5)
	for m, held := range all {
		for n, i := range all {
			want := all[max(m, n)]
			takes(t, holding(held), i, holding(want))
			takes(t, with(whole(), held, gone(8, 2, 99)), i, with(whole(), want, gone(8, 2, 99)))
		}
	}
}

// TestEachPlaceTakes: whoever the node is, and whomever it knows, an item's version stays as it came.
func TestEachPlaceTakes(t *testing.T) {
	for id := range 256 {
		x := api.Node{Up: true, View: api.View{Id: id, Peers: []api.Peer{{Id: (id + 1) % 256, Missed: 2}}, Passive: []int{(id + 2) % 256}}}
		for _, i := range []api.Item{of(id, 1, id, 3), of(255-id, 7, 255-id, 0), gone(id, 2, 0)} {
			takes(t, x, i, with(x, i))
		}
	}
}

// TestFullStores: of a key that is there one is taken, of another one none, and that is no fault.
func TestFullStores(t *testing.T) {
	for many := range api.MaxItems + 1 {
		x := holding(stored(many, 3)...)
		for key := range 256 {
			at, there := key/3, key%3 == 0 && key/3 < many
			for _, i := range []api.Item{of(key, 4, 7, 7), gone(key, 4, 7)} {
				want := stored(many, 3)
				switch {
				case there:
					want[at] = i
				case many < api.MaxItems:
					want = slices.Insert(want, min((key+2)/3, many), i)
				}
				takes(t, x, i, holding(want...))
			}
		}
	}
}

// TestAFullNodeStaysWhole: all that it is besides its items stays too, and so does what is gone.
func TestAFullNodeStaysWhole(t *testing.T) {
	x := with(whole(), stored(api.MaxItems, 3)...)
	x.Items[4] = gone(12, 1, 0)
	for key := range 256 {
		if key%3 != 0 || key >= 3*api.MaxItems {
			takes(t, x, of(key, api.MaxCount, 255, 255), x)
			takes(t, x, gone(key, api.MaxCount, 255), x)
		}
	}
	x.Log = make([]api.Told, api.MaxLog)
	takes(t, x, of(1, 4, 7, 7), x)
}

// TestInWhicheverOrder: nodes that have taken the same items hold the same (T4), and no item once more changes that.
func TestInWhicheverOrder(t *testing.T) {
	all := []api.Item{of(5, 1, 7, 9), of(5, 2, 7, 9), gone(5, 2, 7), of(5, 2, 6, 255), of(8, 1, 0, 0), of(8, 1, 0, 1), gone(3, 1, 1)}
	want := holding(gone(3, 1, 1), gone(5, 2, 7), of(8, 1, 0, 1))
	each(all, func(in []api.Item) {
		x := holding()
		for _, i := range in {
			var e api.Errno
			if x, e = Item(x, i); e != api.OK {
				t.Fatalf("P20.1: Item of %v: %d", i, e)
			}
		}
		if !even(x, want) {
			t.Fatalf("P20.1, T4: behind %v: %v", in, x)
		}
	})
	for _, i := range all {
		takes(t, want, i, want)
	}
}

// each calls do with the items in each of their orders.
func each(all []api.Item, do func([]api.Item)) {
	var from func(at int)
	from = func(at int) {
		if at == len(all) {
			do(all)
			return
		}
		for n := at; n < len(all); n++ {
			all[at], all[n] = all[n], all[at]
			from(at + 1)
			all[at], all[n] = all[n], all[at]
		}
	}
	from(0)
}

func TestNodesThatCannotTake(t *testing.T) {
	for _, x := range noNodes() {
		for _, i := range []api.Item{of(5, 3, 7, 9), of(0, 1, 0, 0), gone(255, api.MaxCount, 255)} {
			refuses(t, x, i)
		}
	}
	for id := range 256 {
		refuses(t, api.Node{View: api.View{Id: id}}, of(5, 3, 7, 9))
	}
}

// TestItemsThatMayNotBe: they are told ahead of a store that is full, and of an item that is newer (R6).
func TestItemsThatMayNotBe(t *testing.T) {
	nodes := []api.Node{holding(), whole(), holding(of(5, api.MaxCount, 255, 255)), holding(stored(api.MaxItems, 3)...)}
	for _, i := range noItems() {
		for _, x := range append(nodes, noNodes()...) {
			refuses(t, x, i)
		}
	}
}

// roomy answers whole's lists with spare room behind them.
func roomy() api.Node {
	x := whole()
	x.View.Peers = append(x.View.Peers, api.Peer{Id: 77}, api.Peer{Id: 78})[:2]
	x.View.Passive = append(x.View.Passive, 77, 78)[:2]
	x.Items = append(x.Items, of(77, 7, 7, 7), of(78, 7, 7, 7))[:3]
	x.Log = append(x.Log, api.Told{Key: 77}, api.Told{Key: 78})[:2]
	return x
}

// bare answers roomy's with each list empty, its spare room alone left.
func bare() api.Node {
	x := roomy()
	x.View.Peers, x.View.Passive, x.Items, x.Log = x.View.Peers[:0], x.View.Passive[:0], x.Items[:0], x.Log[:0]
	return x
}

// crowded answers roomy's with no room for a key more in its store, though there is in memory.
func crowded() api.Node {
	x := roomy()
	x.Items = append(stored(api.MaxItems, 3), of(77, 7, 7, 7))[:api.MaxItems]
	return x
}

// allOf tells all that a node's lists hold, their spare room too.
func allOf(x api.Node) api.Node {
	x.View.Peers = slices.Clone(x.View.Peers[:cap(x.View.Peers)])
	x.View.Passive = slices.Clone(x.View.Passive[:cap(x.View.Passive)])
	x.Items = slices.Clone(x.Items[:cap(x.Items)])
	x.Log = slices.Clone(x.Log[:cap(x.Log)])
	return x
}

// spoil writes over all of a node's lists, their spare room too.
func spoil(x api.Node) {
	for at := range cap(x.View.Peers) {
		x.View.Peers[:cap(x.View.Peers)][at] = api.Peer{Id: -9}
	}
	for at := range cap(x.View.Passive) {
		x.View.Passive[:cap(x.View.Passive)][at] = -9
	}
	for at := range cap(x.Items) {
		x.Items[:cap(x.Items)][at] = api.Item{Key: -9}
	}
	for at := range cap(x.Log) {
		x.Log[:cap(x.Log)][at] = api.Told{Key: -9}
	}
}

// TestWhatIsHandedInStays takes a better one, one that is worse, a new one, one for which there is no room, and none.
func TestWhatIsHandedInStays(t *testing.T) {
	for _, i := range []api.Item{of(5, 4, 0, 0), of(5, 1, 0, 0), of(1, 1, 1, 1), of(255, 1, 1, 1), gone(3, 9, 0), {}} {
		for _, x := range []api.Node{roomy(), bare(), crowded()} {
			old := allOf(x)
			first, _ := Item(x, i)
			second, _ := Item(x, i)
			want := allOf(second)
			spoil(first)
			if !even(allOf(x), old) {
				t.Errorf("R4: %v: the node, or its spare room, became %v", i, allOf(x))
			}
			spoil(x)
			if !even(allOf(second), want) {
				t.Errorf("R4: %v: what was answered became %v", i, second)
			}
		}
	}
}

func TestManyCallAtOneTime(t *testing.T) {
	x, full := whole(), holding(stored(api.MaxItems, 3)...)
	var all sync.WaitGroup
	for range 8 {
		all.Add(1)
		go func() {
			defer all.Done()
			for value := range 256 {
				takes(t, x, of(5, 4, 7, value), with(x, of(5, 4, 7, value), x.Items[1], x.Items[2]))
				takes(t, x, of(5, 2, 7, value), x)
				takes(t, full, of(1, 4, 7, value), full)
				refuses(t, x, of(5, 0, 7, value))
			}
		}()
	}
	all.Wait()
}
