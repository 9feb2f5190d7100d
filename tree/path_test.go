package tree

import "testing"

func TestParent(t *testing.T) {
	for path, want := range map[string]string{"/a": "/", "/abc": "/", "/a/b": "/a", "/a/b/c.d": "/a/b", "/.../-": "/..."} {
		if p := Parent(path); p != want {
			t.Errorf("the parent of %s is %s, want %s", path, p, want)
		}
	}
}

func TestIsPath(t *testing.T) {
	for _, s := range []string{"/", "/a", "/a/b", "/...", "/a-0.z", "/aaaaaaaaaaaaaaaaaaaaaaa"} {
		if !IsPath(s) {
			t.Errorf("%q is a path", s)
		}
	}
	for _, s := range []string{"", "a", "//", "/a/", "/a//b", "/.", "/a/..", "/A", "/a b", "/aaaaaaaaaaaaaaaaaaaaaaaa"} {
		if IsPath(s) {
			t.Errorf("%q is no path", s)
		}
	}
}
