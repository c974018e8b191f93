// Package apart makes copies that share no memory with what they are copies of (R4), for the layers that answer a node.
package apart

import "gimmal/api"

// Node answers a copy of one; each of its lists is new, or nil.
func Node(x api.Node) api.Node {
	return api.Node{Up: x.Up, View: View(x.View), Items: List(x.Items), Log: List(x.Log)}
}

// View answers a copy of one; each of its lists is new, or nil.
func View(v api.View) api.View {
	return api.View{Id: v.Id, Peers: List(v.Peers), Passive: List(v.Passive)}
}

// List makes an empty list nil: a clone of it would still lie in the memory that was handed in.
func List[T any](all []T) []T {
	return append([]T(nil), all...)
}
