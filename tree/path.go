// Package tree: paths, what makes nodes a tree, and how a tree is changed.
package tree

import (
	"strings"

	"orchard/api"
)

// Root is the path of the node that every tree has.
const Root = "/"

// IsPath tells whether a text is a path.
func IsPath(s string) bool {
	if len(s) > api.MaxPath {
		return false
	}
	if s == Root {
		return true
	}
	names, ok := strings.CutPrefix(s, "/")
	if !ok {
		return false
	}
	for _, name := range strings.Split(names, "/") {
		if !isName(name) {
			return false
		}
	}
	return true
}

func isName(s string) bool {
	if s == "" || s == "." || s == ".." {
		return false
	}
	for i := range len(s) {
		if !isOfName(s[i]) {
			return false
		}
	}
	return true
}

func isOfName(c byte) bool {
	return 'a' <= c && c <= 'z' || '0' <= c && c <= '9' || c == '-' || c == '.'
}

// Parent is the parent of a path but the root.
func Parent(path string) string {
	i := strings.LastIndexByte(path, '/')
	if i == 0 {
		return Root
	}
	return path[:i]
}

// lastName is the last name of a path but the root.
func lastName(path string) string { return path[strings.LastIndexByte(path, '/')+1:] }
