package write

import (
	"math"
	"slices"
	"sync"
	"testing"

	"gimmal/api"
	"gimmal/node"
)

// noBytes are the nearest numbers beside a key's and a value's, those that a
// byte would hide, and those at which a sum would wrap round.
var noBytes = []int{-1, 256, -256, 257, 512, 1 << 32, math.MinInt, math.MaxInt, math.MinInt + 1, math.MaxInt - 1}

// of answers an item that may be.
func of(key int, count int, writer int, value int) api.Item {
	return api.Item{Key: key, Version: api.Version{Count: count, Writer: writer}, Value: value}
}

func gone(key int, count int, writer int) api.Item {
	return api.Item{Key: key, Version: api.Version{Count: count, Writer: writer}, Gone: true}
}

func holding(is ...api.Item) api.Node {
	return api.Node{Up: true, View: api.View{Id: 10}, Items: is}
}

// stored answers items of the keys 0, 3, 6, as many as are asked for, all of one count.
func stored(many int, count int) []api.Item {
	var all []api.Item
	for n := range many {
		all = append(all, of(3*n, count, 200, n))
	}
	return all
}

// whole answers a node with something in each of its lists.
func whole() api.Node {
	return api.Node{
		Up:    true,
		View:  api.View{Id: 10, Peers: []api.Peer{{Id: 20, Missed: 2}, {Id: 5, Missed: 1}}, Passive: []int{6, 30}},
		Items: []api.Item{of(5, 3, 7, 9), gone(8, 2, 99), of(250, 1, 10, 0)},
		Log:   []api.Told{{Key: 5, Has: true, Value: 9}, {Key: 8}},
	}
}

// noNodes are nodes that can't be written to, each for one thing alone.
func noNodes() []api.Node {
	all := []api.Node{
		{},
		{View: api.View{Id: 10}},
		{View: api.View{Id: 10, Passive: []int{20}}},
		{View: api.View{Id: 10}, Items: []api.Item{of(5, 3, 7, 9)}},
		{View: api.View{Id: 10}, Log: []api.Told{{Key: 5}}},
		{Up: true, View: api.View{Id: 10, Passive: []int{10}}},
		{Up: true, View: api.View{Id: 10, Passive: []int{20, 5}}},
		{Up: true, View: api.View{Id: 10, Passive: make([]int, 1<<16)}},
		{Up: true, View: api.View{Id: 10, Peers: []api.Peer{{Id: 10}}}},
		{Up: true, View: api.View{Id: 10, Peers: []api.Peer{{Id: 5}, {Id: 20}}}},
		{Up: true, View: api.View{Id: 10, Peers: []api.Peer{{Id: 20, Missed: api.MaxMissed}}}},
		{Up: true, View: api.View{Id: 10, Peers: []api.Peer{{Id: 20}}, Passive: []int{20}}},
		{Up: true, View: api.View{Id: 10}, Log: make([]api.Told, api.MaxLog+1)},
		{Up: true, View: api.View{Id: 10}, Log: []api.Told{{Key: 256}}},
		{Up: true, View: api.View{Id: 10}, Log: []api.Told{{Key: 5, Value: 1}}},
		{Up: true, View: api.View{Id: 10}, Log: []api.Told{{Key: 5, Has: true, Value: -1}}},
		holding(api.Item{}),
		holding(of(5, 0, 7, 9)),
		holding(of(5, api.MaxCount+1, 7, 9)),
		holding(of(5, math.MaxInt, 7, 9)),
		holding(of(5, 3, 256, 9)),
		holding(of(5, 3, 7, 256)),
		holding(of(256, 3, 7, 9)),
		holding(api.Item{Key: 5, Version: api.Version{Count: 3}, Value: 1, Gone: true}),
		holding(of(5, 3, 7, 9), of(5, 3, 7, 9)),
		holding(of(5, 3, 7, 9), of(4, 3, 7, 9)),
		holding(stored(api.MaxItems+1, 3)...),
		holding(make([]api.Item, 1<<16)...),
	}
	for _, n := range noBytes {
		all = append(all, api.Node{Up: true, View: api.View{Id: n}})
	}
	// Whoever is down has no item to write, whatever else it holds.
	x := whole()
	x.Up = false
	return append(all, x)
}

func even(a api.Node, b api.Node) bool {
	return a.Up == b.Up && a.View.Id == b.View.Id && slices.Equal(a.View.Peers, b.View.Peers) && slices.Equal(a.View.Passive, b.View.Passive) && slices.Equal(a.Items, b.Items) && slices.Equal(a.Log, b.Log)
}

// with tells the node with other items.
func with(x api.Node, is ...api.Item) api.Node {
	x.Items = is
	return x
}

func puts(t *testing.T, x api.Node, key int, value int, want api.Node) {
	t.Helper()
	if got, e := Put(x, key, value); !even(got, want) || e != api.OK || !node.May(got) {
		t.Errorf("P17.1: Put(%v, %d, %d): %v, %d, not %v", x, key, value, got, e, want)
	}
}

func drops(t *testing.T, x api.Node, key int, want api.Node) {
	t.Helper()
	if got, e := Drop(x, key); !even(got, want) || e != api.OK || !node.May(got) {
		t.Errorf("P17.1: Drop(%v, %d): %v, %d, not %v", x, key, got, e, want)
	}
}

func refusesPut(t *testing.T, x api.Node, key int, value int, want api.Errno) {
	t.Helper()
	if got, e := Put(x, key, value); !even(got, api.Node{}) || e != want {
		t.Errorf("P17.1, R2: Put of %d, %d: %v, %d, not %d", key, value, got, e, want)
	}
}

func refusesDrop(t *testing.T, x api.Node, key int, want api.Errno) {
	t.Helper()
	if got, e := Drop(x, key); !even(got, api.Node{}) || e != want {
		t.Errorf("P17.1, R2: Drop of %d: %v, %d, not %d", key, got, e, want)
	}
}

func refusesBoth(t *testing.T, x api.Node, key int, want api.Errno) {
	t.Helper()
	refusesPut(t, x, key, 0, want)
	refusesPut(t, x, key, 255, want)
	refusesDrop(t, x, key, want)
}

func TestSomeWrites(t *testing.T) {
	none := holding()
	puts(t, none, 5, 9, holding(of(5, 1, 10, 9)))
	puts(t, none, 0, 0, holding(of(0, 1, 10, 0)))
	puts(t, none, 255, 255, holding(of(255, 1, 10, 255)))
	drops(t, none, 5, holding(gone(5, 1, 10)))
	x := whole()
	puts(t, x, 5, 4, with(x, of(5, 4, 10, 4), gone(8, 2, 99), of(250, 1, 10, 0)))
	drops(t, x, 5, with(x, gone(5, 4, 10), gone(8, 2, 99), of(250, 1, 10, 0)))
	// What is gone comes back, and goes once more, newer each time.
	puts(t, x, 8, 4, with(x, of(5, 3, 7, 9), of(8, 3, 10, 4), of(250, 1, 10, 0)))
	drops(t, x, 8, with(x, of(5, 3, 7, 9), gone(8, 3, 10), of(250, 1, 10, 0)))
	// The same value, by the same writer, is one more write.
	puts(t, x, 250, 0, with(x, of(5, 3, 7, 9), gone(8, 2, 99), of(250, 2, 10, 0)))
	puts(t, x, 0, 4, with(x, of(0, 1, 10, 4), of(5, 3, 7, 9), gone(8, 2, 99), of(250, 1, 10, 0)))
	puts(t, x, 7, 4, with(x, of(5, 3, 7, 9), of(7, 1, 10, 4), gone(8, 2, 99), of(250, 1, 10, 0)))
	drops(t, x, 255, with(x, of(5, 3, 7, 9), gone(8, 2, 99), of(250, 1, 10, 0), gone(255, 1, 10)))
}

// TestEachKey writes each key into a store of some, ahead of, between and behind them.
func TestEachKey(t *testing.T) {
	x := whole()
	for key := range 256 {
		var rest []api.Item
		count := 1
		for _, i := range x.Items {
			if i.Key == key {
				count = i.Version.Count + 1
			} else {
				rest = append(rest, i)
			}
		}
		at := 0
		for at < len(rest) && rest[at].Key < key {
			at++
		}
		puts(t, x, key, 255-key, with(x, slices.Insert(slices.Clone(rest), at, of(key, count, 10, 255-key))...))
		drops(t, x, key, with(x, slices.Insert(slices.Clone(rest), at, gone(key, count, 10))...))
	}
}

// TestEachWriter: it is the node's own Id, be it less or greater than that of the item that was held.
func TestEachWriter(t *testing.T) {
	for id := range 256 {
		for _, writer := range []int{0, id, 255 - id, 255} {
			for _, held := range []api.Item{of(5, 3, writer, 255), gone(5, 3, writer)} {
				x := api.Node{Up: true, View: api.View{Id: id}, Items: []api.Item{held}}
				for _, value := range []int{0, 1, 254, 255} {
					puts(t, x, 5, value, with(x, of(5, 4, id, value)))
				}
				drops(t, x, 5, with(x, gone(5, 4, id)))
			}
		}
	}
}

// TestEachCount writes on from each, up to the greatest, which no write follows.
func TestEachCount(t *testing.T) {
	for count := 1; count < api.MaxCount; count++ {
		x := holding(of(5, count, 200, 9))
		puts(t, x, 5, 7, holding(of(5, count+1, 10, 7)))
		drops(t, x, 5, holding(gone(5, count+1, 10)))
	}
	for _, last := range []api.Item{of(5, api.MaxCount, 200, 9), of(5, api.MaxCount, 0, 0), of(5, api.MaxCount, 10, 0), gone(5, api.MaxCount, 10)} {
		refusesBoth(t, holding(last), 5, api.ErrWriteFull)
		// Another key's is its own.
		puts(t, holding(last), 6, 7, holding(last, of(6, 1, 10, 7)))
		drops(t, holding(last), 4, holding(gone(4, 1, 10), last))
	}
}

// TestFullStores: of a key that is there one may be written, of another one none, dropped or not.
func TestFullStores(t *testing.T) {
	for many := range api.MaxItems + 1 {
		x := holding(stored(many, 3)...)
		for key := range 256 {
			at, there := key/3, key%3 == 0 && key/3 < many
			switch {
			case there:
				want := stored(many, 3)
				want[at] = of(key, 4, 10, 7)
				puts(t, x, key, 7, holding(want...))
				want[at] = gone(key, 4, 10)
				drops(t, x, key, holding(want...))
			case many == api.MaxItems:
				refusesBoth(t, x, key, api.ErrWriteFull)
			default:
				at = min((key+2)/3, many)
				puts(t, x, key, 7, holding(slices.Insert(stored(many, 3), at, of(key, 1, 10, 7))...))
				drops(t, x, key, holding(slices.Insert(stored(many, 3), at, gone(key, 1, 10))...))
			}
		}
	}
	last := holding(stored(api.MaxItems, api.MaxCount)...)
	for key := range 256 {
		refusesBoth(t, last, key, api.ErrWriteFull)
	}
}

// TestGoneOnesTakeRoom: what was dropped is held, so that its elder ones do not come back.
func TestGoneOnesTakeRoom(t *testing.T) {
	x := holding()
	for key := range api.MaxItems {
		y, e := Drop(x, key)
		if e != api.OK || len(y.Items) != key+1 {
			t.Fatalf("P17.1: Drop(%v, %d): %v, %d", x, key, y, e)
		}
		x = y
	}
	refusesBoth(t, x, api.MaxItems, api.ErrWriteFull)
	puts(t, x, 0, 9, with(x, append([]api.Item{of(0, 2, 10, 9)}, x.Items[1:]...)...))
}

func TestNodesThatCannotWrite(t *testing.T) {
	for _, x := range noNodes() {
		for _, key := range []int{0, 5, 255} {
			refusesBoth(t, x, key, api.ErrWriteForm)
		}
		for _, n := range noBytes {
			refusesBoth(t, x, n, api.ErrWriteForm)
			refusesPut(t, x, 5, n, api.ErrWriteForm)
		}
	}
}

// TestNoKeysNoValues: they are told ahead of what is full (R6), be it the count, the store or both.
func TestNoKeysNoValues(t *testing.T) {
	for _, x := range []api.Node{holding(), whole(), holding(of(5, api.MaxCount, 10, 9)), holding(stored(api.MaxItems, 3)...), holding(stored(api.MaxItems, api.MaxCount)...)} {
		for _, n := range noBytes {
			refusesBoth(t, x, n, api.ErrWriteForm)
			for _, other := range []int{0, 5, 6, 255, -1, 256, n} {
				refusesPut(t, x, n, other, api.ErrWriteForm)
				refusesPut(t, x, other, n, api.ErrWriteForm)
			}
		}
	}
}

// TestEachKeyAgainstEachValue asks which of them may be written.
func TestEachKeyAgainstEachValue(t *testing.T) {
	x := holding()
	for key := -2; key < 258; key++ {
		for value := -2; value < 258; value++ {
			if min(key, value) < 0 || max(key, value) > 255 {
				refusesPut(t, x, key, value, api.ErrWriteForm)
			} else {
				puts(t, x, key, value, holding(of(key, 1, 10, value)))
			}
		}
	}
}

// TestOneAfterAnother: each write is of what the one ahead of it left.
func TestOneAfterAnother(t *testing.T) {
	x := whole()
	for count := 4; count < 300; count++ {
		var e api.Errno
		want := of(5, count, 10, count%256)
		if count%3 == 0 {
			want = gone(5, count, 10)
			x, e = Drop(x, 5)
		} else {
			x, e = Put(x, 5, count%256)
		}
		if e != api.OK || !even(x, with(whole(), want, gone(8, 2, 99), of(250, 1, 10, 0))) {
			t.Fatalf("P17.1: write %d: %v, %d", count, x, e)
		}
	}
}

// roomy answers whole's lists with spare room behind them.
func roomy() api.Node {
	x := whole()
	x.View.Peers = append(x.View.Peers, api.Peer{Id: 77}, api.Peer{Id: 78})[:2]
	x.View.Passive = append(x.View.Passive, 77, 78)[:2]
	x.Items = append(x.Items, of(77, 7, 7, 7), of(78, 7, 7, 7))[:3]
	x.Log = append(x.Log, api.Told{Key: 77}, api.Told{Key: 78})[:2]
	return x
}

// allOf tells all that a node's lists hold, their spare room too.
func allOf(x api.Node) api.Node {
	x.View.Peers = slices.Clone(x.View.Peers[:cap(x.View.Peers)])
	x.View.Passive = slices.Clone(x.View.Passive[:cap(x.View.Passive)])
	x.Items = slices.Clone(x.Items[:cap(x.Items)])
	x.Log = slices.Clone(x.Log[:cap(x.Log)])
	return x
}

// spoil writes over all of a node's lists, their spare room too.
func spoil(x api.Node) {
	for at := range cap(x.View.Peers) {
		x.View.Peers[:cap(x.View.Peers)][at] = api.Peer{Id: -9}
	}
	for at := range cap(x.View.Passive) {
		x.View.Passive[:cap(x.View.Passive)][at] = -9
	}
	for at := range cap(x.Items) {
		x.Items[:cap(x.Items)][at] = api.Item{Key: -9}
	}
	for at := range cap(x.Log) {
		x.Log[:cap(x.Log)][at] = api.Told{Key: -9}
	}
}

// bare answers roomy's with each list empty, its spare room alone left.
func bare() api.Node {
	x := roomy()
	x.View.Peers, x.View.Passive, x.Items, x.Log = x.View.Peers[:0], x.View.Passive[:0], x.Items[:0], x.Log[:0]
	return x
}

func TestWhatIsHandedInStays(t *testing.T) {
	write := []func(api.Node) (api.Node, api.Errno){
		func(x api.Node) (api.Node, api.Errno) { return Put(x, 5, 1) },
		func(x api.Node) (api.Node, api.Errno) { return Put(x, 6, 1) },
		func(x api.Node) (api.Node, api.Errno) { return Put(x, 255, 1) },
		func(x api.Node) (api.Node, api.Errno) { return Drop(x, 8) },
		func(x api.Node) (api.Node, api.Errno) { return Drop(x, 0) },
		func(x api.Node) (api.Node, api.Errno) { return Drop(x, 256) },
	}
	for k, do := range write {
		for _, x := range []api.Node{roomy(), bare()} {
			old := allOf(x)
			first, _ := do(x)
			second, _ := do(x)
			want := allOf(second)
			spoil(first)
			if !even(allOf(x), old) {
				t.Errorf("R4: write %d: the node, or its spare room, became %v", k, allOf(x))
			}
			spoil(x)
			if !even(allOf(second), want) {
				t.Errorf("R4: write %d: what was answered became %v", k, second)
			}
		}
	}
}

func TestManyCallAtOneTime(t *testing.T) {
	x, full := whole(), holding(stored(api.MaxItems, 3)...)
	var all sync.WaitGroup
	for range 8 {
		all.Add(1)
		go func() {
			defer all.Done()
			for value := range 256 {
				puts(t, x, 5, value, with(x, of(5, 4, 10, value), gone(8, 2, 99), of(250, 1, 10, 0)))
				drops(t, x, 5, with(x, gone(5, 4, 10), gone(8, 2, 99), of(250, 1, 10, 0)))
				refusesBoth(t, full, 1, api.ErrWriteFull)
			}
		}()
	}
	all.Wait()
}
