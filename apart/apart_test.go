package apart

import (
	"slices"
	"testing"

	"gimmal/api"
)

// laid answers a node whose lists have spare room behind them.
func laid() api.Node {
	return api.Node{
		Up:    true,
		View:  api.View{Id: 10, Peers: []api.Peer{{Id: 20, Missed: 2}, {Id: 77}}[:1], Passive: []int{6, 30, 77}[:2]},
		Items: []api.Item{{Key: 5, Version: api.Version{Count: 3, Writer: 7}, Value: 9}, {Key: 77}}[:1],
		Log:   []api.Told{{Key: 5, Has: true, Value: 9}, {Key: 77}}[:1],
	}
}

func even(a api.Node, b api.Node) bool {
	return a.Up == b.Up && a.View.Id == b.View.Id && slices.Equal(a.View.Peers, b.View.Peers) && slices.Equal(a.View.Passive, b.View.Passive) && slices.Equal(a.Items, b.Items) && slices.Equal(a.Log, b.Log)
}

// spoil writes over each list, its spare room too.
func spoil(x api.Node) {
	clear(x.View.Peers[:cap(x.View.Peers)])
	clear(x.View.Passive[:cap(x.View.Passive)])
	clear(x.Items[:cap(x.Items)])
	clear(x.Log[:cap(x.Log)])
}

func TestACopyIsAsTheNodeIs(t *testing.T) {
	if !even(Node(laid()), laid()) || !even(Node(api.Node{}), api.Node{}) {
		t.Errorf("R4: a copy of %v is %v", laid(), Node(laid()))
	}
}

func TestACopySharesNothing(t *testing.T) {
	x := laid()
	first, second := Node(x), Node(x)
	spoil(first)
	if !even(x, laid()) || x.Items[:2][1].Key != 77 || x.Log[:2][1].Key != 77 || x.View.Peers[:2][1].Id != 77 || x.View.Passive[:3][2] != 77 {
		t.Errorf("R4: the node, or its spare room, became %v", x)
	}
	spoil(x)
	if !even(second, laid()) {
		t.Errorf("R4: the copy became %v", second)
	}
}

func TestACopyOfAnEmptyListIsNil(t *testing.T) {
	if got := List([]int{7}[:0]); got != nil {
		t.Errorf("R4: a copy of an empty list is %v, of room for %d", got, cap(got))
	}
}
