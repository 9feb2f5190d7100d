// Package file: trees as files.
package file

import (
	"slices"

	"orchard/api"
	"orchard/number"
	"orchard/tree"
	"orchard/value"
)

const (
	sign        = "ORCH"
	versionSize = 1
	numberSize  = 8
	countSize   = 4
	headSize    = len(sign) + versionSize + numberSize + countSize
	sumSize     = 4
)

// notePlace is where the note stands among the fields of a node, in a version that has one.
const notePlace = 2

// schemas are those of a node, by the file's version. There is no version 0.
var schemas = [api.Newest + 1]string{1: "(tb884)", 2: "(tbt884)"}

// Save makes the file of a tree whose number, that of the last change, is last.
func Save(version int, last int, nodes []api.Node) ([]byte, api.Errno) {
	if !isVersion(version) || last < 0 {
		return nil, api.ErrArg
	}
	if !tree.IsTree(last, nodes) || !hasNotes(version) && slices.ContainsFunc(nodes, isNoted) {
		return nil, api.ErrTree
	}
	out := []byte(sign)
	out = number.Append(out, version, versionSize)
	out = number.Append(out, last, numberSize)
	out = number.Append(out, len(nodes), countSize)
	out, ok := putNodes(out, version, nodes)
	if !ok {
		return nil, api.ErrTree
	}
	return number.Append(out, Sum(out), sumSize), api.OK
}

func isVersion(version int) bool { return 1 <= version && version <= api.Newest }

func hasNotes(version int) bool { return version > 1 }

func isNoted(n api.Node) bool { return n.Note != "" }

// putNodes lays the bytes of each node behind out.
func putNodes(out []byte, version int, nodes []api.Node) ([]byte, bool) {
	t, ok := value.Parse(schemas[version])
	if !ok {
		return nil, false
	}
	for _, n := range nodes {
		b, ok := value.Encode(t, fields(version, n))
		if !ok {
			return nil, false
		}
		out = append(out, b...)
	}
	return out, true
}

// fields are what stands in a file of a node.
func fields(version int, n api.Node) api.Value {
	l := []api.Value{{S: n.Path}, {S: n.Data}, {S: n.Note}, {N: n.Made}, {N: n.Changed}, {N: n.Version}}
	if !hasNotes(version) {
		l = slices.Delete(l, notePlace, notePlace+1)
	}
	return api.Value{L: l}
}

// node is the node of which these are the fields.
func node(version int, v api.Value) api.Node {
	l := v.L
	if !hasNotes(version) {
		l = slices.Insert(l, notePlace, api.Value{})
	}
	return api.Node{Path: l[0].S, Data: l[1].S, Note: l[2].S, Made: l[3].N, Changed: l[4].N, Version: l[5].N}
}

// Load reads a file: its version, its number, its nodes.
func Load(b []byte) (int, int, []api.Node, api.Errno) {
	body, ok := withoutSum(b)
	if !ok || len(body) < headSize {
		return 0, 0, nil, api.ErrFile
	}
	version, last, count, ok := readHead(body[:headSize])
	if !ok {
		return 0, 0, nil, api.ErrFile
	}
	nodes, ok := readNodes(body[headSize:], version, count)
	if !ok || !tree.IsTree(last, nodes) {
		return 0, 0, nil, api.ErrFile
	}
	return version, last, nodes, api.OK
}

// withoutSum is what stands ahead of the sum; false, if that is not its sum.
func withoutSum(b []byte) ([]byte, bool) {
	if len(b) < sumSize {
		return nil, false
	}
	body, sum := b[:len(b)-sumSize], b[len(b)-sumSize:]
	return body, number.Unsigned(sum) == uint64(Sum(body))
}

// readHead reads what stands ahead of the nodes: the version, the number, how many nodes there are.
func readHead(b []byte) (version int, last int, count int, ok bool) {
	if string(b[:len(sign)]) != sign {
		return 0, 0, 0, false
	}
	b = b[len(sign):]
	version = int(number.Unsigned(b[:versionSize]))
	b = b[versionSize:]
	last = number.Signed(b[:numberSize])
	count = int(number.Unsigned(b[numberSize:]))
	return version, last, count, isVersion(version)
}

// readNodes reads so many nodes; false, if they are not just these bytes.
func readNodes(b []byte, version int, count int) ([]api.Node, bool) {
	t, ok := value.Parse(schemas[version])
	if !ok {
		return nil, false
	}
	var nodes []api.Node
	for range count {
		v, rest, ok := value.Take(t, b)
		if !ok {
			return nil, false
		}
		nodes = append(nodes, node(version, v))
		b = rest
	}
	return nodes, len(b) == 0
}
