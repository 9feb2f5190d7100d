package orchard_test

import (
	"bytes"
	"hash/adler32"
	"math"
	"slices"
	"strings"
	"testing"

	"orchard/api"
	"orchard/orchard"
)

func TestSum(t *testing.T) {
	for s, want := range map[string]int{
		"": 1, "a": 6422626, "\x00": 1<<16 | 1, "\x00\x00": 2<<16 | 1, "\xff": 256<<16 | 256, "ab": 294<<16 | 196, "ba": 295<<16 | 196,
	} {
		if n := orchard.Sum([]byte(s)); n != want {
			t.Errorf("P7: Sum(%q) = %d, want %d", s, n, want)
		}
	}
	if n := orchard.Sum(nil); n != 1 {
		t.Errorf("P7: Sum(nil) = %d", n)
	}
}

// Around 256 times 255 and 240 a is 65521, and is 0 then.
func TestSumModulo(t *testing.T) {
	most := strings.Repeat("\xff", 256)
	for s, a := range map[string]int{most + "\xee": 65519, most + "\xef": 65520, most + "\xf0": 0, most + "\xf1": 1} {
		if n := orchard.Sum([]byte(s)); n&0xffff != a || n != int(adler32.Checksum([]byte(s))) {
			t.Errorf("P7: the sum of 256 times ff and %x is %x", s[256], n)
		}
	}
	for _, b := range []byte{0, 1, 127, 128, 255} {
		for _, n := range []int{22, 361, 362, 363, 5552, 5553, 65520, 65521, 65522, 131042, 1 << 20} {
			l := bytes.Repeat([]byte{b}, n)
			if sum := orchard.Sum(l); sum != int(adler32.Checksum(l)) {
				t.Errorf("P7: the sum of %d times %x is %x, want %x", n, b, sum, adler32.Checksum(l))
			}
		}
	}
}

func TestThirdExample(t *testing.T) {
	body := "ORCH\x01" + "\x00\x00\x00\x00\x00\x00\x00\x00" + "\x00\x00\x00\x01" + "\x00\x00\x00\x01/" + "\x00\x00\x00\x00" +
		"\x00\x00\x00\x00\x00\x00\x00\x00" + "\x00\x00\x00\x00\x00\x00\x00\x00" + "\x00\x00\x00\x00"
	if len(body) != 46 || summed(body) != fileOf(1, 0, root()) {
		t.Fatalf("the test's own file is %x", fileOf(1, 0, root()))
	}
	rightFile(t, 1, 0, root())
	noSave(t, 1, 0, nil, api.ErrTree)
	noSave(t, 3, 0, root(), api.ErrArg)
}

func TestFiles(t *testing.T) {
	rightTree(t, 0, root())
	for _, number := range []int{9, 10, 1 << 31, 1 << 32, 1<<62 + 5, math.MaxInt64} {
		rightTree(t, number, grove())
		rightTree(t, number, noted())
	}
}

func TestVersionAndNumberOfSave(t *testing.T) {
	wrong := []int{0, -1, api.Newest + 1, 4, 256 + 1, 256 + 2, 1<<32 + 1, math.MaxInt64, math.MinInt64, math.MinInt64 + 1}
	for _, version := range wrong {
		noSave(t, version, 9, grove(), api.ErrArg)
		noSave(t, version, -1, grove(), api.ErrArg)
		noSave(t, version, 0, nil, api.ErrArg) // ErrArg is named first
		noSave(t, version, 8, noted(), api.ErrArg)
	}
	for _, number := range []int{-1, -2, -1 << 32, math.MinInt64} {
		for version := 1; version <= api.Newest; version++ {
			noSave(t, version, number, root(), api.ErrArg)
			noSave(t, version, number, nil, api.ErrArg)
			noSave(t, version, number, []node{{Path: "/", Made: number, Changed: number}}, api.ErrArg)
			noFile(t, fileOf(version, number, root()))
			noFile(t, fileOf(version, number, []node{{Path: "/", Made: number, Changed: number}}))
		}
	}
}

func TestNoNoteInVersion1(t *testing.T) {
	for i := range grove() {
		for _, note := range []string{"n", "\x00", " "} {
			l := changed(grove(), func(l []node) { l[i].Note = note })
			noSave(t, 1, 9, l, api.ErrTree)
			rightFile(t, 2, 9, l)
		}
	}
	noSave(t, 1, 9, noted(), api.ErrTree)
}

// A file of the one version is none of the other, though its sum is right.
func TestNodesOfAnotherVersion(t *testing.T) {
	for _, l := range [][]node{root(), grove(), noted()} {
		for version, other := range map[int]int{1: 2, 2: 1} {
			b := unsummed(version, 9, l)
			noFile(t, summed("ORCH"+string([]byte{byte(other)})+b[5:]))
		}
	}
}

func TestUpgradeLeavesTheNewestAsItIs(t *testing.T) {
	b := fileOf(2, 9, noted())
	if u, e := orchard.Upgrade([]byte(b)); string(u) != b || e != api.OK {
		t.Errorf("P10: Upgrade of version 2: %x, %d, want %x", u, e, b)
	}
	first, _ := orchard.Upgrade([]byte(fileOf(1, 9, grove())))
	if second, e := orchard.Upgrade(first); !bytes.Equal(first, second) || e != api.OK {
		t.Errorf("P10: Upgrade again: %x, %d, want %x", second, e, first)
	}
}

func TestFilesThatEndEarlyOrGoOn(t *testing.T) {
	noFile(t, "")
	for version := 1; version <= api.Newest; version++ {
		for _, l := range [][]node{root(), grove()} {
			b := unsummed(version, 9, l)
			whole := summed(b)
			for i := range whole {
				noFile(t, whole[:i])
				noFile(t, whole[i+1:])
			}
			for i := range b {
				noFile(t, summed(b[:i]))
			}
			for _, more := range []string{"\x00", "\x01", "x", four(0), strings.Repeat("\x00", 28), laid(version, node{Path: "/z"}), whole} {
				noFile(t, whole+more)
				noFile(t, more+whole)
				noFile(t, summed(b+more))
			}
			noFile(t, summed(whole))
		}
	}
	for _, n := range []int{1, 3, 4, 5, 16, 17, 20, 21, 22, 50, 1 << 20} {
		for _, c := range []string{"\x00", "\xff", "O"} {
			noFile(t, strings.Repeat(c, n))
			noFile(t, summed(strings.Repeat(c, n)))
		}
	}
}

func TestOneByteIsAnother(t *testing.T) {
	for _, whole := range []string{fileOf(1, 0, root()), fileOf(2, 0, root()), fileOf(1, 9, grove()), fileOf(2, 9, noted())} {
		for i := range whole {
			for x := 1; x < 256; x++ {
				b := []byte(whole)
				b[i] ^= byte(x)
				noFile(t, string(b))
			}
		}
	}
}

func TestWrongSums(t *testing.T) {
	b := unsummed(2, 9, noted())
	sum := int(adler32.Checksum([]byte(b)))
	for _, wrong := range []int{0, 1, sum + 1, sum - 1, sum ^ 1<<31, sum>>16 | sum<<16, -sum, int(adler32.Checksum([]byte(b[:len(b)-1]))), int(adler32.Checksum([]byte(b[4:])))} {
		noFile(t, b+four(wrong))
	}
	noFile(t, b)
	noFile(t, b+four(sum)[:3])
	noFile(t, b+"\x00"+four(sum)[1:])
	least := "\x01\x00\x00\x00"
	noFile(t, least) // the sum of nothing, the wrong way round
	noFile(t, four(1))
}

// Whatever byte is another, with a sum that is right: Load refuses it, or it is a file, and just that which Save makes of what Load tells.
func TestLoadTakesNothingButWhatSaveMakes(t *testing.T) {
	for _, b := range []string{unsummed(1, 0, root()), unsummed(2, 3, root()), unsummed(1, 9, grove()), unsummed(2, 9, noted())} {
		taken, refused := 0, 0
		for i := range b {
			for _, x := range []byte{1, 2, 3, 4, 8, 16, 32, 64, 128, 255} {
				c := []byte(b)
				c[i] ^= x
				whole := summed(string(c))
				v, n, l, e := orchard.Load([]byte(whole))
				if e == api.ErrFile {
					noFile(t, whole)
					refused++
					continue
				}
				taken++
				if !isTree(n, l) || fileOf(v, n, l) != whole || e != api.OK {
					t.Fatalf("P9: Load(%x) = %d, %d, %+v, %d", whole, v, n, l, e)
				}
				rightFile(t, v, n, l)
			}
		}
		if taken == 0 || refused == 0 {
			t.Errorf("P9: of the changed files %d were taken, %d refused", taken, refused)
		}
	}
}

func TestWrongHeads(t *testing.T) {
	for version := 1; version <= api.Newest; version++ {
		for _, l := range [][]node{root(), grove()} {
			b := unsummed(version, 9, l)
			for _, sign := range []string{"orch", "ORCI", "NRCH", "HCRO", "ORC\x00", "\x00\x00\x00\x00"} {
				noFile(t, summed(sign+b[4:]))
			}
			for other := range 256 {
				if other != version {
					noFile(t, summed("ORCH"+string([]byte{byte(other)})+b[5:]))
				}
			}
			for _, count := range []int{0, len(l) - 1, len(l) + 1, 32, 33, 256 + len(l), 1<<16 + len(l), 1<<24 + len(l), 1<<31 + len(l), 1<<31 - 1, 1 << 31, -1} {
				if count != len(l) {
					noFile(t, summed(b[:13]+four(count)+b[17:]))
				}
			}
		}
	}
}

// The lengths that stand ahead of a path, of data and of a note.
func TestWrongLengths(t *testing.T) {
	head := unsummed(2, 9, root())[:17]
	rest := eight(0) + eight(0) + four(0)
	good := []string{counted("/"), counted("data"), counted("note")}
	if b := summed(head + strings.Join(good, "") + rest); b != fileOf(2, 9, []node{{Path: "/", Data: "data", Note: "note"}}) {
		t.Fatalf("the test's own file is %x", b)
	}
	for i, field := range good {
		for _, n := range []int{0, len(field) - 5, len(field) - 3, 41, 200, 201, 1000, 1 << 16, 1<<24 + len(field) - 4, 1<<31 - 1, 1 << 31, -1} {
			l := slices.Clone(good)
			l[i] = four(n) + field[4:]
			if n != len(field)-4 {
				noFile(t, summed(head+strings.Join(l, "")+rest))
			}
		}
	}
}
