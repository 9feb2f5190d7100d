package orchard_test

import (
	"fmt"
	"math"
	"math/rand"
	"path"
	"regexp"
	"slices"
	"strings"
	"testing"
	"unicode/utf8"

	"orchard/api"
	"orchard/orchard"
)

// What a tree is: all tests here go through Save, Load and Upgrade.

var pathForm = regexp.MustCompile(`^(/|(/[a-z0-9.-]+)+)$`)

// isPath finds out by another way than the program's.
func isPath(s string) bool {
	return pathForm.MatchString(s) && !strings.Contains(s+"/", "/./") && !strings.Contains(s+"/", "/../") && len(s) <= 24
}

// isTree finds out by another way than the program's.
func isTree(number int, nodes []node) bool {
	var paths []string
	for _, n := range nodes {
		paths = append(paths, n.Path)
		numbers := n.Made >= 0 && n.Changed >= n.Made && n.Changed <= number && n.Version >= 0 && n.Version < 1<<31
		if !isPath(n.Path) || len(n.Data) > 40 || len(n.Note) > 10 || !utf8.ValidString(n.Note) || !numbers {
			return false
		}
	}
	for _, p := range paths {
		if !slices.Contains(paths, path.Dir(p)) {
			return false
		}
	}
	rising := slices.Compact(slices.Sorted(slices.Values(paths)))
	return slices.Equal(paths, rising) && 1 <= len(paths) && len(paths) <= 32 && paths[0] == "/"
}

// holdPath holds a path, with all that must be above it, against isPath.
func holdPath(t *testing.T, s string) bool {
	t.Helper()
	if !isPath(s) {
		noTree(t, 0, below(s))
		return false
	}
	if s != "/" {
		rightTree(t, 0, below(s))
	}
	return true
}

func TestAllShortPaths(t *testing.T) {
	right := 0
	var try func(s string)
	try = func(s string) {
		if holdPath(t, s) {
			right++
		}
		if len(s) < 6 {
			for _, c := range "/.-aB" {
				try(s + string(c))
			}
		}
	}
	try("")
	if right < 100 {
		t.Errorf("%d short paths", right)
	}
}

func TestBytesOfNames(t *testing.T) {
	for c := range 256 {
		b := string([]byte{byte(c)})
		right := strings.Contains("abcdefghijklmnopqrstuvwxyz0123456789-.", b)
		for _, s := range []string{"/x" + b, "/" + b + "x", "/a/x" + b + "x", "/" + b + b + b} {
			if c != '/' && holdPath(t, s) != right {
				t.Errorf("the test's own answer at %q", s)
			}
		}
	}
}

func TestPathEdges(t *testing.T) {
	for _, s := range []string{"/" + strings.Repeat("a", 23), strings.Repeat("/b", 12), "/..." + strings.Repeat("/-.", 6), "/a.", "/.a", "/..a", "/a..", "/...", "/.-", "/-", "/0", "/a.b/c..d", "/a/..."} {
		if !holdPath(t, s) {
			t.Errorf("the test's own answer at %q", s)
		}
	}
	for _, s := range []string{
		"", "a", "a/b", "//", "//a", "/a/", "/a//b", "/.", "/..", "/a/.", "/a/..", "/./a", "/../a", "/a/./b", "/a/../b", " /a", "/a ", "/a\x00", "/A", "/a_b", "/é", "/a\n",
		"/" + strings.Repeat("a", 24), strings.Repeat("/b", 12) + "b", strings.Repeat("/b", 13), "/" + strings.Repeat("a", 199), "/" + strings.Repeat("a", 200), strings.Repeat("/", 24), strings.Repeat("a", 24),
	} {
		if holdPath(t, s) {
			t.Errorf("the test's own answer at %q", s)
		}
	}
	for _, s := range []string{"/", "a", "/a"} {
		noTree(t, 0, append(root(), node{Path: "/" + strings.Repeat(s, 1<<19)}))
	}
}

func TestMissingParents(t *testing.T) {
	for i := 1; i < len(grove()); i++ {
		l := slices.Delete(grove(), i, i+1)
		if p := grove()[i].Path; p == "/a" || p == "/a/b" {
			noTree(t, 9, l)
		} else {
			rightTree(t, 9, l)
		}
	}
	noTree(t, 9, grove()[1:])
	noTree(t, 0, []node{{Path: "/"}, {Path: "/a"}, {Path: "/ab/c"}})
	noTree(t, 0, []node{{Path: "/"}, {Path: "/ab"}, {Path: "/a/c"}})
	noTree(t, 0, []node{{Path: "/"}, {Path: "/a/b"}})
	noTree(t, 0, []node{{Path: "/"}, {Path: "/a"}, {Path: "/a/b/c"}})
	noTree(t, 0, []node{{Path: "/"}, {Path: "/a"}, {Path: "/b/a"}})
}

func TestTheFirstIsTheRoot(t *testing.T) {
	noTree(t, 0, nil)
	noTree(t, 0, []node{})
	noTree(t, 0, []node{{}})
	noTree(t, 0, []node{{Path: "/a"}})
	noTree(t, 0, []node{{Path: "/a"}, {Path: "/a/b"}})
	noTree(t, 0, []node{{Path: ""}, {Path: "/"}})
	noTree(t, 0, []node{{Path: ""}, {Path: "/a"}})
	noTree(t, 0, []node{{Path: "/-"}, {Path: "/"}})
}

func TestPathsRise(t *testing.T) {
	noTree(t, 0, []node{{Path: "/"}, {Path: "/"}})
	noTree(t, 0, []node{{Path: "/"}, {Path: "/a"}, {Path: "/"}})
	for i := range grove() {
		noTree(t, 9, slices.Insert(grove(), i, grove()[i]))
		for k := range i {
			noTree(t, 9, changed(grove(), func(l []node) { l[i], l[k] = l[k], l[i] }))
		}
	}
	// byte by byte: - and . stand ahead of /, digits behind it
	rightTree(t, 0, []node{{Path: "/"}, {Path: "/a"}, {Path: "/a-"}, {Path: "/a."}, {Path: "/a/b"}, {Path: "/a0"}, {Path: "/aa"}})
	noTree(t, 0, []node{{Path: "/"}, {Path: "/a"}, {Path: "/a/b"}, {Path: "/a-"}})
	noTree(t, 0, []node{{Path: "/"}, {Path: "/a"}, {Path: "/a0"}, {Path: "/a/b"}})
	rightTree(t, 0, []node{{Path: "/"}, {Path: "/10"}, {Path: "/9"}})
	noTree(t, 0, []node{{Path: "/"}, {Path: "/9"}, {Path: "/10"}})
}

// wide: so many nodes.
func wide(n int) []node {
	l := root()
	for i := 1; i < n; i++ {
		l = append(l, node{Path: fmt.Sprintf("/n%07d", i)})
	}
	return l
}

func TestHowManyNodes(t *testing.T) {
	for _, n := range []int{1, 2, 31, api.MaxNodes} {
		rightTree(t, 0, wide(n))
	}
	for _, n := range []int{api.MaxNodes + 1, 34, 255, 256, 257, 1000} {
		noTree(t, 0, wide(n))
	}
	noSave(t, 1, 0, wide(1<<16), api.ErrTree)
	noSave(t, 2, 0, make([]node, 1<<20), api.ErrTree)
	full := wide(api.MaxNodes)
	for i := range full {
		full[i].Data, full[i].Note = strings.Repeat("\xfe", api.MaxData), "ten bytes."
		full[i].Made, full[i].Changed, full[i].Version = math.MaxInt64, math.MaxInt64, math.MaxInt32
	}
	rightTree(t, math.MaxInt64, full)
}

func TestDataAndNotes(t *testing.T) {
	at := func(data, note string) []node {
		return changed(grove(), func(l []node) { l[3].Data, l[3].Note = data, note })
	}
	for _, n := range []int{0, 1, 39, api.MaxData} {
		rightTree(t, 9, at(strings.Repeat("\x80", n), ""))
		rightTree(t, 9, at(strings.Repeat("\x80", n), "note"))
	}
	for _, n := range []int{api.MaxData + 1, 42, 199, 200, 201, 1 << 20} {
		noTree(t, 9, at(strings.Repeat("x", n), ""))
	}
	for _, n := range []int{0, 1, 9, api.MaxNote} {
		rightTree(t, 9, at("", strings.Repeat("n", n)))
	}
	for _, n := range []int{api.MaxNote + 1, 12, 40, 200, 201, 1 << 20} {
		noTree(t, 9, at("", strings.Repeat("n", n)))
	}
	for _, s := range []string{"ééééé", "\U0010ffff\U00010000é", "\ud7ff\ue000", "\ufffd", "\x00\x7f"} {
		rightTree(t, 9, at("", s))
	}
	for _, s := range []string{"éééééé", "éééééx", "\U0010ffff\U00010000éx", "\xff", "\x80", "a\xc3", "\xc0\x80", "\xed\xa0\x80", "\xf4\x90\x80\x80", "123456789\xc3", "123456789\xc3\xa9"} {
		noTree(t, 9, at("", s))
	}
}

func TestNumbersOfNodes(t *testing.T) {
	for i := range grove() {
		at := func(made, changedIn, version int) []node {
			return changed(grove(), func(l []node) { l[i].Made, l[i].Changed, l[i].Version = made, changedIn, version })
		}
		for _, c := range [][3]int{{0, 0, 0}, {0, 9, 1}, {9, 9, math.MaxInt32}, {8, 9, math.MaxInt32 - 1}, {3, 3, 3}} {
			rightTree(t, 9, at(c[0], c[1], c[2]))
		}
		for _, c := range [][3]int{
			{-1, 0, 0}, {-1, -1, 0}, {0, -1, 0}, {math.MinInt64, 0, 0}, {math.MinInt64, math.MinInt64, 0},
			{1, 0, 0}, {9, 8, 0}, {10, 9, 0}, {math.MaxInt64, 9, 0}, {1 << 32, 0, 0},
			{0, 10, 0}, {10, 10, 0}, {0, math.MaxInt64, 0}, {0, 1<<32 + 9, 0},
			{0, 0, -1}, {0, 0, math.MinInt32}, {0, 0, math.MaxInt32 + 1},
		} {
			noTree(t, 9, at(c[0], c[1], c[2]))
		}
		for _, version := range []int{1 << 32, 1<<32 + 1, 1<<63 - 1<<32, math.MinInt64, -1 << 32} { // in four bytes these would seem to be right
			noSave(t, 1, 9, at(0, 0, version), api.ErrTree)
			noSave(t, 2, 9, at(0, 0, version), api.ErrTree)
		}
	}
	rightTree(t, math.MaxInt64, []node{{Path: "/", Made: math.MaxInt64, Changed: math.MaxInt64}})
	noTree(t, math.MaxInt64-1, []node{{Path: "/", Made: 0, Changed: math.MaxInt64}})
	noTree(t, 8, grove())
	noTree(t, 0, grove())
}

// Lists that are drawn (always the same ones), near to trees: right and wrong ones.
func TestDrawnTrees(t *testing.T) {
	draw := rand.New(rand.NewSource(7))
	names := []string{"", "/a", "/a/b", "/a/b/c", "/a-", "/a/b.", "/b", "/b/a", "/0"}
	right, wrong := 0, 0
	for range 4000 {
		l := root()
		for _, p := range names[1:] {
			if draw.Intn(4) > 0 {
				l = append(l, node{Path: p, Made: draw.Intn(3), Changed: 2 + draw.Intn(3), Version: draw.Intn(3)})
			}
		}
		slices.SortFunc(l, func(a, b node) int { return strings.Compare(a.Path, b.Path) })
		if i := draw.Intn(len(l)); draw.Intn(3) == 0 {
			k := draw.Intn(len(l))
			l[i], l[k] = l[k], l[i]
		}
		number := 3 + draw.Intn(3)
		if isTree(number, l) {
			right++
			rightTree(t, number, l)
		} else {
			wrong++
			noTree(t, number, l)
		}
	}
	if right < 200 || wrong < 200 {
		t.Errorf("%d trees were drawn, and %d others", right, wrong)
	}
}

// What a call tells hangs on its arguments alone, whatever was called ahead.
func TestCallsOfFilesHaveNothingToDoWithOneAnother(t *testing.T) {
	for range 3 {
		rightTree(t, 9, noted())
		noTree(t, 8, grove())
		rightTree(t, 0, root())
		noSave(t, 0, 0, root(), api.ErrArg)
		noFile(t, "ORCH")
		if n := orchard.Sum([]byte("a")); n != 6422626 {
			t.Errorf("P7: Sum(a) = %d", n)
		}
	}
}
