package fs

import (
	"slices"

	"undercroft/api"
	"undercroft/file"
)

// vacant tells the directory in which names lead to nothing yet.
func vacant(s State, names []string) (int, error) {
	if len(names) == 0 {
		return 0, refuse(api.ErrExist, names)
	}
	in, there, err := stand(s, names)
	if err != nil {
		return 0, err
	}
	if there != 0 {
		return 0, refuse(api.ErrExist, names)
	}
	return in, nil
}

// makeNode puts a new file, or directory, where names lead to.
func makeNode(s *State, names []string, isDir bool) error {
	in, err := vacant(*s, names)
	if err != nil {
		return err
	}
	if len(s.Nodes) == api.MaxInodes || s.Next == lastNext {
		return refuse(api.ErrNoSpace, names)
	}
	// No node has a higher number, so that the last place is its own.
	s.Nodes = append(s.Nodes, Node{Ino: s.Next, Dir: isDir, Links: 1})
	s.Next++
	return enlist(*s, in, names, s.Next-1)
}

func unlink(s *State, names []string) error {
	// The root is a directory: it needs no word of its own.
	found, err := findFile(*s, names)
	if err != nil {
		return err
	}
	remove(s, names, found.Ino)
	return nil
}

func rmdir(s *State, names []string) error {
	if len(names) == 0 {
		return refuse(api.ErrInval, names)
	}
	found, err := findDir(*s, names)
	if err != nil {
		return err
	}
	if len(found.Entries) > 0 {
		return refuse(api.ErrNotEmpty, names)
	}
	remove(s, names, found.Ino)
	return nil
}

// remove takes names away from ino, which they lead to.
func remove(s *State, names []string, ino int) {
	strike(*s, names)
	drop(s, ino)
}

func link(s *State, from, to []string) error {
	found, err := findFile(*s, from)
	if err != nil {
		return err
	}
	in, err := vacant(*s, to)
	if err != nil {
		return err
	}
	if found.Links == api.MaxLinks {
		return refuse(api.ErrLinks, from)
	}
	found.Links++
	return enlist(*s, in, to, found.Ino)
}

func rename(s *State, from, to []string) error {
	if len(from) == 0 || len(to) == 0 {
		return refuse(api.ErrInval, nil)
	}
	ino, err := walk(*s, from)
	if err != nil {
		return err
	}
	in, there, err := stand(*s, to)
	if err != nil {
		return err
	}
	if node(*s, ino).Dir && isBelow(from, to) {
		return refuse(api.ErrInval, to)
	}
	if there == ino {
		return nil
	}
	if there != 0 {
		if err := clearWay(s, node(*s, ino).Dir, to); err != nil {
			return err
		}
	}
	// Struck out first, the old name leaves room for the new one in a full directory that both stand in.
	strike(*s, from)
	if err := enlist(*s, in, to, ino); err != nil {
		return err
	}
	if len(to)+below(*s, ino) > api.MaxDepth {
		return refuse(api.ErrLong, to)
	}
	return nil
}

// isBelow tells whether a path begins with all names of another one, and goes on.
func isBelow(outer, inner []string) bool {
	return len(outer) < len(inner) && slices.Equal(outer, inner[:len(outer)])
}

// clearWay takes away what names lead to, for a directory or a file that is to stand there: one of its own kind.
func clearWay(s *State, forDir bool, names []string) error {
	if forDir {
		return rmdir(s, names)
	}
	return unlink(s, names)
}

// rewrite puts in a file's place what becomes of it.
func rewrite(s State, names []string, with func(file.File) (file.File, api.Errno)) error {
	found, err := findFile(s, names)
	if err != nil {
		return err
	}
	next, number := with(found.File)
	if number != api.OK {
		return refuse(number, names)
	}
	found.File = next
	return nil
}
