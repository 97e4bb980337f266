package image

import (
	"bytes"
	"cmp"
	"slices"
	"strings"

	"undercroft/api"
	"undercroft/dir"
	"undercroft/file"
	"undercroft/fs"
	"undercroft/wire"
)

// draft is a state while records make it, and the numbers of nodes that they tell to be gone.
type draft struct {
	fs.State
	gone []int
}

// add takes in the node of a record, behind those that are there.
func (d *draft) add(r wire.Record) api.Errno {
	n, err := readNode(r)
	if err != api.OK {
		return err
	}
	d.Nodes = append(d.Nodes, n)
	return api.OK
}

// drop takes note of a node that is gone.
func (d *draft) drop(r wire.Record) api.Errno {
	if r.Kind != kindGone {
		return api.ErrKind
	}
	if !has(r, goneNums, 0) {
		return api.ErrCount
	}
	d.gone = append(d.gone, r.Nums[0])
	return api.OK
}

// layOver puts the draft's nodes in the place of those of a with their numbers, or where they would stand.
func (d *draft) layOver(a fs.State) api.Errno {
	for _, ino := range d.gone {
		if _, there := place(a.Nodes, ino); !there {
			return api.ErrNone
		}
	}
	// Stable, so that of one number the last stands behind that whose place it takes.
	all := append(d.left(a.Nodes), d.Nodes...)
	slices.SortStableFunc(all, func(m, n fs.Node) int { return cmp.Compare(m.Ino, n.Ino) })
	d.Nodes = lastOfEach(all)
	return api.OK
}

// left is copies of the nodes that are not gone.
func (d *draft) left(nodes []fs.Node) []fs.Node {
	var list []fs.Node
	for _, n := range nodes {
		if !slices.Contains(d.gone, n.Ino) {
			list = append(list, copied(n))
		}
	}
	return list
}

// lastOfEach is, of nodes by their numbers, the last one of each number.
func lastOfEach(nodes []fs.Node) []fs.Node {
	var list []fs.Node
	for i, n := range nodes {
		if i+1 == len(nodes) || nodes[i+1].Ino != n.Ino {
			list = append(list, n)
		}
	}
	return list
}

// finished is the state that was made, if it may be.
func (d *draft) finished() (fs.State, api.Errno) {
	if err := fs.Check(d.State); err != api.OK {
		return fs.State{}, err
	}
	return d.State, api.OK
}

// place finds where the node of a number stands, or would stand, and whether it is there.
func place(nodes []fs.Node, ino int) (int, bool) {
	return slices.BinarySearchFunc(nodes, ino, func(n fs.Node, ino int) int { return cmp.Compare(n.Ino, ino) })
}

// same tells whether two nodes are one, nil and empty lists being one.
func same(m, n fs.Node) bool {
	return m.Ino == n.Ino && m.Dir == n.Dir && m.Links == n.Links && slices.Equal(m.Entries, n.Entries) && sameFile(m.File, n.File)
}

func sameFile(f, g file.File) bool {
	return f.Size == g.Size && slices.EqualFunc(f.Blocks, g.Blocks, func(b, c file.Block) bool {
		return b.Index == c.Index && bytes.Equal(b.Data, c.Data)
	})
}

// copied is n in memory of its own.
func copied(n fs.Node) fs.Node {
	var entries []dir.Entry
	for _, e := range n.Entries {
		entries = append(entries, dir.Entry{Name: strings.Clone(e.Name), Ino: e.Ino})
	}
	var blocks []file.Block
	for _, b := range n.File.Blocks {
		blocks = append(blocks, file.Block{Index: b.Index, Data: bytes.Clone(b.Data)})
	}
	n.Entries, n.File.Blocks = entries, blocks
	return n
}
