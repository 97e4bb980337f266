package fs

import (
	"math"

	"undercroft/api"
	"undercroft/dir"
	"undercroft/file"
)

// root is the number of the directory that all paths go out from.
const root = 1

// lastNext is the highest that Next may be: a number that no node gets any more.
const lastNext = math.MaxInt32

// Check tells whether s may be.
func Check(s State) api.Errno {
	// In this order: each asks only of what those ahead of it let through.
	if numbersMayBe(s) && nodesMayBe(s) && linksMayBe(s) && waysMayBe(s) {
		return api.OK
	}
	return api.ErrState
}

// numbersMayBe tells whether the nodes have numbers that may be, in order, the root's first.
func numbersMayBe(s State) bool {
	if s.Next <= root || s.Next > lastNext || len(s.Nodes) == 0 || len(s.Nodes) > api.MaxInodes {
		return false
	}
	last := root - 1
	for _, n := range s.Nodes {
		if n.Ino <= last || n.Ino >= s.Next {
			return false
		}
		last = n.Ino
	}
	return s.Nodes[0].Ino == root && s.Nodes[0].Dir
}

// nodesMayBe tells whether each node has what its kind may have.
func nodesMayBe(s State) bool {
	for _, n := range s.Nodes {
		if n.Dir && !mayBeDir(n) || !n.Dir && !mayBeFile(n) {
			return false
		}
	}
	return true
}

func mayBeDir(n Node) bool {
	return dir.Check(n.Entries) == api.OK && n.File.Size == 0 && len(n.File.Blocks) == 0
}

func mayBeFile(n Node) bool {
	return len(n.Entries) == 0 && file.Check(n.File) == api.OK
}

// linksMayBe tells whether entries name nodes that are there, each as often as it may be named and says it is.
func linksMayBe(s State) bool {
	links := map[int]int{}
	for _, n := range s.Nodes {
		for _, e := range n.Entries {
			if _, there := place(s.Nodes, e.Ino); !there {
				return false
			}
			links[e.Ino]++
		}
	}
	for _, n := range s.Nodes {
		least, most := mayLink(n)
		if n.Links != links[n.Ino] || n.Links < least || n.Links > most {
			return false
		}
	}
	return true
}

// mayLink tells how many links a node has at least, and at most.
func mayLink(n Node) (int, int) {
	switch {
	case n.Ino == root:
		return 0, 0
	case n.Dir:
		return 1, 1
	}
	return 1, api.MaxLinks
}

// waysMayBe tells whether ways from the root on lead to every node, and none leads too deep.
func waysMayBe(s State) bool {
	reached := map[int]int{}
	reach(s, root, reached)
	return len(reached) == len(s.Nodes) && below(s, root) <= api.MaxDepth
}

// reach counts how many ways lead to each node from ino on. They end: no entry leads to the root, and one alone to any other directory.
func reach(s State, ino int, reached map[int]int) {
	reached[ino]++
	for _, e := range node(s, ino).Entries {
		reach(s, e.Ino, reached)
	}
}

// below tells how many names the longest way on from a node has.
func below(s State, ino int) int {
	longest := 0
	for _, e := range node(s, ino).Entries {
		longest = max(longest, 1+below(s, e.Ino))
	}
	return longest
}
