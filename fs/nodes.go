package fs

import (
	"cmp"
	"slices"
	"strings"

	"undercroft/api"
	"undercroft/dir"
	"undercroft/file"
	"undercroft/path"
)

// place finds where the node of a number stands, or would stand, and whether it is there.
func place(nodes []Node, ino int) (int, bool) {
	return slices.BinarySearchFunc(nodes, ino, func(n Node, ino int) int { return cmp.Compare(n.Ino, ino) })
}

// node is the one of a number that is there; it moves when others go.
func node(s State, ino int) *Node {
	at, _ := place(s.Nodes, ino)
	return &s.Nodes[at]
}

// copied is s in memory of its own.
func copied(s State) State {
	next := State{Next: s.Next}
	for _, n := range s.Nodes {
		n.Entries = copiedEntries(n.Entries)
		n.File.Blocks = copiedBlocks(n.File.Blocks)
		next.Nodes = append(next.Nodes, n)
	}
	return next
}

func copiedEntries(entries []dir.Entry) []dir.Entry {
	var list []dir.Entry
	for _, e := range entries {
		list = append(list, dir.Entry{Name: strings.Clone(e.Name), Ino: e.Ino})
	}
	return list
}

func copiedBlocks(blocks []file.Block) []file.Block {
	var list []file.Block
	for _, b := range blocks {
		list = append(list, file.Block{Index: b.Index, Data: slices.Clone(b.Data)})
	}
	return list
}

// prepare tells the names of each path of an op, if the state may be.
func prepare(s State, paths ...string) ([][]string, error) {
	if err := Check(s); err != api.OK {
		return nil, refuse(err, nil)
	}
	var split [][]string
	for _, p := range paths {
		names, err := path.Split(p)
		if err != api.OK {
			return nil, refuse(err, []string{p})
		}
		split = append(split, names)
	}
	return split, nil
}

// walk goes from the root on, name by name, and tells the number to which it comes.
func walk(s State, names []string) (int, error) {
	ino := root
	for _, name := range names {
		next, err := enter(s, ino, name)
		if err != nil {
			return 0, refusal{names, err}
		}
		ino = next
	}
	return ino, nil
}

// enter tells the number that a name has in a node.
func enter(s State, ino int, name string) (int, error) {
	from := node(s, ino)
	if !from.Dir {
		return 0, fault{api.ErrNotDir, name}
	}
	next, there, _ := dir.Find(from.Entries, name)
	if !there {
		return 0, fault{api.ErrNoEnt, name}
	}
	return next, nil
}

// cut parts the last name of a path, which has one, from those ahead of it.
func cut(names []string) ([]string, string) {
	last := len(names) - 1
	return names[:last], names[last]
}

// stand tells the directory that a path's last name stands in, or would, and what it names there: 0, which is no number, of nothing.
func stand(s State, names []string) (int, int, error) {
	ahead, name := cut(names)
	in, err := walk(s, ahead)
	if err != nil {
		return 0, 0, err
	}
	ino, err := enter(s, in, name)
	if isMissing(err) {
		return in, 0, nil
	}
	if err != nil {
		return 0, 0, refusal{names, err}
	}
	return in, ino, nil
}

// findFile is the file that names lead to.
func findFile(s State, names []string) (*Node, error) {
	ino, err := walk(s, names)
	if err != nil {
		return nil, err
	}
	found := node(s, ino)
	if found.Dir {
		return nil, refuse(api.ErrIsDir, names)
	}
	return found, nil
}

// findDir is the directory that names lead to.
func findDir(s State, names []string) (*Node, error) {
	ino, err := walk(s, names)
	if err != nil {
		return nil, err
	}
	found := node(s, ino)
	if !found.Dir {
		return nil, refuse(api.ErrNotDir, names)
	}
	return found, nil
}

// enlist lets the last of names stand in a directory, for ino.
func enlist(s State, in int, names []string, ino int) error {
	_, name := cut(names)
	holder := node(s, in)
	entries, err := dir.Add(holder.Entries, dir.Entry{Name: name, Ino: ino})
	if err != api.OK {
		return refuse(err, names)
	}
	holder.Entries = entries
	return nil
}

// strike takes the last of names, which lead to a node, out of its directory.
func strike(s State, names []string) {
	ahead, name := cut(names)
	in, _ := walk(s, ahead)
	holder := node(s, in)
	holder.Entries, _ = dir.Remove(holder.Entries, name)
}

// drop takes one link from a node, which is gone with its last one.
func drop(s *State, ino int) {
	at, _ := place(s.Nodes, ino)
	s.Nodes[at].Links--
	if s.Nodes[at].Links == 0 {
		s.Nodes = slices.Delete(s.Nodes, at, at+1)
	}
}
