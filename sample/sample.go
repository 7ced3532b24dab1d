// Package sample makes what tests of several layers need: stamps, and right operations of the four kinds.
package sample

import "cachette/api"

// At answers the stamp of that time and writer.
func At(t int64, w int) api.Stamp {
	return api.Stamp{T: t, W: w}
}

// Make makes the node s.
func Make(s, parent api.Stamp, dir bool, name string) api.Op {
	return api.Op{Kind: 1, At: s, Node: s, Parent: parent, Dir: dir, Name: name}
}

// Move moves a node.
func Move(s, node, parent api.Stamp, name string) api.Op {
	return api.Op{Kind: 2, At: s, Node: node, Parent: parent, Name: name}
}

// Remove removes a node.
func Remove(s, node api.Stamp) api.Op {
	return api.Op{Kind: 3, At: s, Node: node}
}

// Write writes into a node.
func Write(s, node api.Stamp, data string) api.Op {
	return api.Op{Kind: 4, At: s, Node: node, Data: []byte(data)}
}
