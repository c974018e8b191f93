package queue

import (
	"math"
	"slices"
	"sync"
	"testing"

	"gimmal/api"
)

// noPlaces are the nearest numbers beside the ring, those that a place's byte
// would hide, and those at which a difference would wrap round.
var noPlaces = []int{-1, api.Ids, -api.Ids, api.Ids + 1, 1 << 32, math.MinInt, math.MaxInt}

// someCounts are short queues, and those beside the longest one.
var someCounts = []int{0, 1, 2, 3, 4, 5, 7, 16, 17, 255, 256, 257, api.MaxPackets - 1, api.MaxPackets}

// msgOf answers a message that may be, another one for each number, of each Kind in turn.
func msgOf(n int) api.Msg {
	kind, low, high := n%4, n/4%api.Ids, n/1024
	m := api.Msg{Kind: kind, From: low, To: (low + 1 + high) % api.Ids}
	switch kind {
	case api.KindHello:
		for far := range n / 4 % (api.MaxList + 1) {
			m.Ids = append(m.Ids, (low+far*far)%api.Ids)
		}
	case api.KindItem:
		m.Item = api.Item{Key: low, Version: api.Version{Count: n + 1, Writer: low}, Value: 255 - low}
	case api.KindAsk:
		m.Key = 255 - low
	case api.KindTell:
		m.Key = low
		if low%2 == 0 {
			m.Has, m.Item = true, api.Item{Key: low, Version: api.Version{Count: n + 1}, Gone: true}
		}
	}
	return m
}

// msgsOf answers that many messages, from a number on.
func msgsOf(first int, count int) []api.Msg {
	var all []api.Msg
	for n := range count {
		all = append(all, msgOf(first+n))
	}
	return all
}

// badMsgs answers messages that may not be: of each Kind, by each thing that it has.
func badMsgs() []api.Msg {
	one := api.Item{Key: 5, Version: api.Version{Count: 1}}
	all := []api.Msg{
		{},
		{Kind: -1, To: 1}, {Kind: 4, To: 1}, {Kind: math.MaxInt, To: 1}, {Kind: math.MinInt, To: 1},
		{From: 5, To: 5}, {Kind: api.KindAsk, From: 255, To: 255},
		{To: 1, Key: 1}, {To: 1, Has: true}, {To: 1, Item: one},
		{To: 1, Ids: make([]int, api.MaxList+1)}, {To: 1, Ids: make([]int, 1<<16)},
		{Kind: api.KindItem, To: 1}, {Kind: api.KindItem, To: 1, Item: one, Key: 5},
		{Kind: api.KindItem, To: 1, Item: one, Has: true}, {Kind: api.KindItem, To: 1, Item: one, Ids: []int{1}},
		{Kind: api.KindItem, To: 1, Item: api.Item{Version: api.Version{Count: 1}, Value: 1, Gone: true}},
		{Kind: api.KindItem, To: 1, Item: api.Item{Version: api.Version{Count: api.MaxCount + 1}}},
		{Kind: api.KindAsk, To: 1, Item: one}, {Kind: api.KindAsk, To: 1, Has: true}, {Kind: api.KindAsk, To: 1, Ids: []int{1}},
		{Kind: api.KindTell, To: 1, Key: 5, Item: one}, {Kind: api.KindTell, To: 1, Key: 5, Has: true},
		{Kind: api.KindTell, To: 1, Key: 4, Item: one, Has: true}, {Kind: api.KindTell, To: 1, Key: 5, Ids: []int{1}},
	}
	for _, n := range noPlaces {
		all = append(all,
			api.Msg{From: n, To: 1}, api.Msg{From: 1, To: n}, api.Msg{To: 1, Ids: []int{n}}, api.Msg{To: 1, Ids: []int{3, n, 3}},
			api.Msg{Kind: api.KindAsk, To: 1, Key: n}, api.Msg{Kind: api.KindTell, To: 1, Key: n})
	}
	return all
}

func equal(a api.Msg, b api.Msg) bool {
	return a.Kind == b.Kind && a.From == b.From && a.To == b.To && slices.Equal(a.Ids, b.Ids) && a.Key == b.Key && a.Item == b.Item && a.Has == b.Has
}

func same(a []api.Msg, b []api.Msg) bool {
	return slices.EqualFunc(a, b, equal)
}

func may(t *testing.T, ms []api.Msg, want bool) {
	t.Helper()
	if got := May(ms); got != want {
		t.Errorf("P14.1: May of %d: %v", len(ms), got)
	}
}

func adds(t *testing.T, ms []api.Msg, m api.Msg, want []api.Msg) {
	t.Helper()
	if got, errno := Add(ms, m); !same(got, want) || errno != api.OK {
		t.Errorf("P14.1: Add(%v, %v): %v, %d, not %v", ms, m, got, errno, want)
	}
}

func addRefuses(t *testing.T, ms []api.Msg, m api.Msg, want api.Errno) {
	t.Helper()
	if got, errno := Add(ms, m); len(got) != 0 || errno != want {
		t.Errorf("P14.1, R2: Add to %d, %v: %d of them, %d, not %d", len(ms), m, len(got), errno, want)
	}
}

func takes(t *testing.T, ms []api.Msg, pick int, want api.Msg, left []api.Msg) {
	t.Helper()
	if m, got, errno := Take(ms, pick); !equal(m, want) || !same(got, left) || errno != api.OK {
		t.Errorf("P14.1: Take(%v, %d): %v, %v, %d, not %v, %v", ms, pick, m, got, errno, want, left)
	}
}

func takeRefuses(t *testing.T, ms []api.Msg, pick int) {
	t.Helper()
	if m, left, errno := Take(ms, pick); !equal(m, api.Msg{}) || len(left) != 0 || errno != api.ErrQueueForm {
		t.Errorf("P14.1, R2: Take of %d, %d: %v, %d of them, %d", len(ms), pick, m, len(left), errno)
	}
}

// noQueue holds a list that may not be against all three calls.
func noQueue(t *testing.T, ms []api.Msg) {
	t.Helper()
	may(t, ms, false)
	addRefuses(t, ms, msgOf(1), api.ErrQueueForm)
	addRefuses(t, ms, api.Msg{}, api.ErrQueueForm)
	for _, pick := range []int{0, len(ms) - 1, len(ms) / 2, -1, len(ms), math.MaxInt} {
		takeRefuses(t, ms, pick)
	}
}

func TestSomeByHand(t *testing.T) {
	hello := api.Msg{From: 10, To: 20, Ids: []int{30, 5, 30}}
	ask := api.Msg{Kind: api.KindAsk, From: 20, To: 10, Key: 7}
	brings := api.Msg{Kind: api.KindItem, From: 0, To: 255, Item: api.Item{Key: 7, Version: api.Version{Count: 1}}}
	adds(t, nil, hello, []api.Msg{hello})
	adds(t, []api.Msg{hello}, ask, []api.Msg{hello, ask})
	adds(t, []api.Msg{hello, ask}, brings, []api.Msg{hello, ask, brings})
	// The one that is there already comes once more.
	adds(t, []api.Msg{hello, ask}, hello, []api.Msg{hello, ask, hello})
	takes(t, []api.Msg{hello}, 0, hello, nil)
	takes(t, []api.Msg{hello, ask, brings}, 0, hello, []api.Msg{ask, brings})
	takes(t, []api.Msg{hello, ask, brings}, 1, ask, []api.Msg{hello, brings})
	takes(t, []api.Msg{hello, ask, brings}, 2, brings, []api.Msg{hello, ask})
	// Of two that are the same, one goes.
	takes(t, []api.Msg{hello, hello, ask}, 1, hello, []api.Msg{hello, ask})
	takeRefuses(t, nil, 0)
	takeRefuses(t, []api.Msg{hello}, 1)
	takeRefuses(t, []api.Msg{hello}, -1)
}

func TestEachLength(t *testing.T) {
	all := msgsOf(0, 3*api.MaxPackets)
	for count := range all {
		ms := all[:count]
		if count > api.MaxPackets {
			noQueue(t, ms)
			continue
		}
		may(t, ms, true)
		if count == api.MaxPackets {
			addRefuses(t, ms, all[count], api.ErrQueueFull)
			addRefuses(t, ms, all[0], api.ErrQueueFull)
			continue
		}
		adds(t, ms, all[count], all[:count+1])
	}
	noQueue(t, make([]api.Msg, 1<<20))
}

// TestEachPick takes each one of a queue, from the first to the last.
func TestEachPick(t *testing.T) {
	for _, count := range someCounts {
		ms := msgsOf(9, count)
		for pick := range ms {
			takes(t, ms, pick, msgOf(9+pick), append(msgsOf(9, pick), msgsOf(10+pick, count-pick-1)...))
		}
	}
}

func TestPicksThatAreNot(t *testing.T) {
	for _, count := range someCounts {
		ms := msgsOf(0, count)
		for _, pick := range []int{-1, -2, -count - 1, count, count + 1, 2*count + 1, api.MaxPackets, 65535, 65536, 1 << 32, -1 << 32, 1<<32 + 1, math.MinInt, math.MinInt + 1, math.MaxInt} {
			takeRefuses(t, ms, pick)
		}
	}
}

// TestMsgsThatMayNotBe are refused by themselves, and at each spot of a queue.
func TestMsgsThatMayNotBe(t *testing.T) {
	for _, bad := range badMsgs() {
		for _, count := range []int{0, 1, 3, api.MaxPackets - 1} {
			addRefuses(t, msgsOf(0, count), bad, api.ErrQueueForm)
		}
		// What is wrong is told ahead of what is full.
		addRefuses(t, msgsOf(0, api.MaxPackets), bad, api.ErrQueueForm)
		for count := 1; count <= 5; count++ {
			for at := range count {
				ms := msgsOf(0, count)
				ms[at] = bad
				noQueue(t, ms)
			}
		}
	}
}

// TestEachSpotIsAsked puts one that may not be at each spot of a full queue.
func TestEachSpotIsAsked(t *testing.T) {
	ms := msgsOf(0, api.MaxPackets)
	for at := range ms {
		old := ms[at]
		ms[at] = api.Msg{Kind: api.KindAsk, From: 1, To: 2, Key: api.Ids}
		noQueue(t, ms)
		ms[at] = old
	}
	may(t, ms, true)
}

// TestWhatIsUnderWay walks on by adding and taking, held against a plain list.
func TestWhatIsUnderWay(t *testing.T) {
	var ms, want []api.Msg
	for n := range 1000 {
		next, errno := Add(ms, msgOf(n))
		if errno != api.OK {
			t.Fatalf("P14.1: Add of number %d: %d", n, errno)
		}
		ms, want = next, append(want, msgOf(n))
		if n%3 == 0 {
			continue
		}
		pick := n * 7 % len(ms)
		m, left, errno := Take(ms, pick)
		if !equal(m, want[pick]) || errno != api.OK {
			t.Fatalf("P14.1: Take of %d, %d: %v, %d", len(ms), pick, m, errno)
		}
		ms, want = left, slices.Delete(want, pick, pick+1)
		if !same(ms, want) || !May(ms) {
			t.Fatalf("P14.1: behind number %d: %v, not %v", n, ms, want)
		}
	}
}

// TestAFullQueueTakesOneMoreBehindATake: there is room again for just one.
func TestAFullQueueTakesOneMoreBehindATake(t *testing.T) {
	full := msgsOf(0, api.MaxPackets)
	for _, pick := range []int{0, 1, 200, api.MaxPackets - 1} {
		_, left, _ := Take(full, pick)
		again, errno := Add(left, msgOf(900))
		if len(again) != api.MaxPackets || !equal(again[api.MaxPackets-1], msgOf(900)) || errno != api.OK {
			t.Errorf("P14.1: %d of them, %d", len(again), errno)
		}
		addRefuses(t, again, msgOf(901), api.ErrQueueFull)
	}
}

// TestAnEmptyListIsNone: an empty one and nil are one, as a queue and as what is named.
func TestAnEmptyListIsNone(t *testing.T) {
	may(t, []api.Msg{}, true)
	adds(t, []api.Msg{}, msgOf(0), msgsOf(0, 1))
	takeRefuses(t, []api.Msg{}, 0)
	for n := range 4 {
		m := msgOf(n)
		m.Ids = []int{-4, 5}[:0]
		may(t, []api.Msg{m}, true)
		adds(t, []api.Msg{m}, m, []api.Msg{msgOf(n), msgOf(n)})
		takes(t, []api.Msg{m, m}, 1, msgOf(n), []api.Msg{msgOf(n)})
	}
}

// clobber writes over all messages, their lists, and the spare room of both.
func clobber(ms []api.Msg) {
	ms = ms[:cap(ms)]
	for at := range ms {
		spoil(ms[at])
		ms[at] = api.Msg{Kind: -9}
	}
}

func spoil(m api.Msg) {
	ids := m.Ids[:cap(m.Ids)]
	for at := range ids {
		ids[at] = -9
	}
}

// shared answers three greetings that name the same three, of one list with spare room, and spare room behind them.
func shared() ([]api.Msg, []int) {
	ids := []int{9, 3, 255, 77, 78}
	greets := api.Msg{From: 1, To: 2, Ids: ids[:3]}
	return []api.Msg{greets, greets, greets, msgOf(2), msgOf(6)}, ids
}

// TestWhatIsHandedInStays looks at messages, at whom they name, and at the spare room of both.
func TestWhatIsHandedInStays(t *testing.T) {
	for pick := range 3 {
		whole, ids := shared()
		old, _ := shared()
		added, _ := Add(whole[:3], whole[0])
		m, left, _ := Take(whole[:3], pick)
		May(whole[:3])
		clobber(added)
		clobber(left)
		spoil(m)
		if !same(whole, old) || !slices.Equal(ids, []int{9, 3, 255, 77, 78}) {
			t.Errorf("R4: what was handed in, or its spare room, became %v, %v", whole, ids)
		}
	}
	empty := msgsOf(0, 2)
	added, _ := Add(empty[:0], msgOf(8))
	clobber(added)
	if !same(empty, msgsOf(0, 2)) {
		t.Errorf("R4: the spare room became %v", empty)
	}
}

// TestAnswersStay when what was handed in changes, or another answer does.
func TestAnswersStay(t *testing.T) {
	want, _ := shared()
	for pick := range 3 {
		whole, ids := shared()
		m := api.Msg{From: 1, To: 2, Ids: ids[:3]}
		first, _ := Add(whole[:3], m)
		second, _ := Add(whole[:3], m)
		one, others, _ := Take(whole[:3], pick)
		two, left, _ := Take(whole[:3], pick)
		clobber(whole)
		clear(ids)
		clobber(first)
		clobber(others)
		spoil(one)
		if !same(second, append(slices.Clone(want[:3]), want[0])) || !equal(two, want[0]) || !same(left, want[:2]) {
			t.Errorf("R4: answers became %v, %v, %v", second, two, left)
		}
	}
}

// TestListsOfOneAnswerShareNone, though those of what is handed in are one.
func TestListsOfOneAnswerShareNone(t *testing.T) {
	want, _ := shared()
	for at := range 4 {
		whole, _ := shared()
		added, _ := Add(whole[:3], whole[0])
		spoil(added[at])
		for other, m := range added {
			if other != at && !equal(m, want[0]) {
				t.Errorf("R4: lists %d and %d of what Add answers are one", at, other)
			}
		}
	}
	for pick := range 3 {
		whole, _ := shared()
		m, left, _ := Take(whole[:3], pick)
		spoil(left[0])
		if !equal(m, want[0]) || !equal(left[1], want[0]) {
			t.Errorf("R4: lists of what Take answers are one: %v, %v", m, left)
		}
		m, left, _ = Take(whole[:3], pick)
		clobber(left)
		if !equal(m, want[0]) {
			t.Errorf("R4: who is taken is in what is left: %v", m)
		}
		m, left, _ = Take(whole[:3], pick)
		spoil(m)
		if !same(left, want[:2]) {
			t.Errorf("R4: what is left is in who is taken: %v", left)
		}
	}
}

func TestManyCallAtOneTime(t *testing.T) {
	ms := msgsOf(0, 40)
	var all sync.WaitGroup
	for range 8 {
		all.Add(1)
		go func() {
			defer all.Done()
			for pick := range ms {
				may(t, ms, true)
				adds(t, ms, msgOf(40), msgsOf(0, 41))
				takes(t, ms, pick, msgOf(pick), append(msgsOf(0, pick), msgsOf(pick+1, 39-pick)...))
				takeRefuses(t, ms, 40+pick)
			}
		}()
	}
	all.Wait()
}
