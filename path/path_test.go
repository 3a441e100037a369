package path_test

import (
	"fmt"
	"math/rand"
	"slices"
	"strings"
	"testing"

	"hornbook/api"
	"hornbook/path"
)

// a is so many of them.
func a(n int) string { return strings.Repeat("a", n) }

// nameTold is what is to be told of a name, by another way than the program's.
func nameTold(s string) api.Code {
	switch {
	case slices.Contains([]string{"", ".", ".."}, s), strings.ContainsAny(s, "\x00/"):
		return api.EINVAL
	case len(s) >= 17:
		return api.ENAMETOOLONG
	}
	return api.EOK
}

// told is what is to be told of a path, by another way than the program's: its names, or what is wrong.
func told(s string) ([]string, api.Code) {
	behind, begins := strings.CutPrefix(s, "/")
	switch {
	case !begins:
		return nil, api.EINVAL
	case len(s) >= 129:
		return nil, api.ENAMETOOLONG
	case behind == "":
		return nil, api.EOK
	}
	l := strings.Split(behind, "/")
	for _, name := range l {
		if c := nameTold(name); c != api.EOK {
			return nil, c
		}
	}
	if len(l) >= 9 {
		return nil, api.ENAMETOOLONG
	}
	return l, api.EOK
}

// walked are the names that Walk goes over; their numbers are to rise from 0 on.
func walked(t *testing.T, s string) []string {
	t.Helper()
	var l []string
	for n, name := range path.Walk(s) {
		if n != len(l) {
			t.Fatalf("Walk(%q): %d, not %d", s, n, len(l))
		}
		l = append(l, name)
	}
	return l
}

// joins holds Join of names against what it is to tell.
func joins(t *testing.T, l []string) {
	t.Helper()
	want := "/" + strings.Join(l, "/")
	_, c := told(want)
	if strings.Contains(strings.Join(l, ""), "/") || len(l) == 1 && l[0] == "" {
		c = api.EINVAL
	}
	if c != api.EOK {
		want = ""
	}
	was := slices.Clone(l)
	if got, code := path.Join(l...); got != want || code != c {
		t.Errorf("Join(%.99q): %q, %v, not %q, %v", l, got, code, want, c)
	}
	if !slices.Equal(l, was) {
		t.Errorf("Join changed %.99q to %.99q", was, l)
	}
}

// is holds all that is told of one path against what it is to be.
func is(t *testing.T, s string) {
	t.Helper()
	want, c := told(s)
	l, code := path.Split(s)
	if !slices.Equal(l, want) || code != c {
		t.Errorf("Split(%.199q): %q, %v, not %q, %v", s, l, code, want, c)
	}
	if got := walked(t, s); !slices.Equal(got, want) {
		t.Errorf("Walk(%.199q): %q, not %q", s, got, want)
	}
	parents(t, s, want, c)
	if c != api.EOK {
		return
	}
	if got, code := path.Join(l...); got != s || code != api.EOK {
		t.Errorf("Join of Split(%q): %q, %v", s, got, code)
	}
}

// parents holds Parent of a path against what it is to tell, of these names.
func parents(t *testing.T, s string, names []string, c api.Code) {
	t.Helper()
	var above, last string
	switch {
	case c == api.EOK && len(names) == 0:
		c = api.EINVAL
	case c == api.EOK:
		last = names[len(names)-1]
		above = "/" + strings.Join(names[:len(names)-1], "/")
	}
	if p, name, code := path.Parent(s); p != above || name != last || code != c {
		t.Errorf("Parent(%.199q): %q, %q, %v, not %q, %q, %v", s, p, name, code, above, last, c)
	}
}

// texts goes over all texts of at most so many of these.
func texts(parts []string, most int) []string {
	l := []string{""}
	for from := 0; most > 0; most-- {
		to := len(l)
		for _, s := range l[from:to] {
			for _, part := range parts {
				l = append(l, s+part)
			}
		}
		from = to
	}
	return l
}

func TestExamples(t *testing.T) {
	for _, x := range []struct {
		s     string
		names []string
		c     api.Code
	}{
		{"/", nil, api.EOK},
		{"/a/b", []string{"a", "b"}, api.EOK},
		{"a", nil, api.EINVAL},
		{"/a/", nil, api.EINVAL},
		{"//", nil, api.EINVAL},
		{"/a//b", nil, api.EINVAL},
		{"/.", nil, api.EINVAL},
		{"/aaaaaaaaaaaaaaaaa", nil, api.ENAMETOOLONG},
	} {
		if l, c := path.Split(x.s); !slices.Equal(l, x.names) || c != x.c {
			t.Errorf("%q: %q, %v", x.s, l, c)
		}
		is(t, x.s)
	}
}

// P16.1: what is wrong, and which is told ahead of which
func TestWrong(t *testing.T) {
	eight, deep := strings.Repeat("/aaaaaaaaaaaaaaa", 8), strings.Repeat("/a", 8)
	for _, x := range []struct {
		s string
		c api.Code
	}{
		{"", api.EINVAL},
		{"\x00", api.EINVAL},
		{".", api.EINVAL},
		{"..", api.EINVAL},
		{" /", api.EINVAL},
		{"a/b", api.EINVAL},
		{"\\a", api.EINVAL},
		{"\u2215a", api.EINVAL},
		{eight, api.EOK},
		{eight + "a", api.ENAMETOOLONG},
		{a(128), api.EINVAL},
		{a(129), api.EINVAL},
		{a(129) + eight, api.EINVAL},
		{strings.Repeat("/", 128), api.EINVAL},
		{strings.Repeat("/", 129), api.ENAMETOOLONG},
		{"/." + strings.Repeat("/a", 63), api.EINVAL},
		{"/." + strings.Repeat("/a", 63) + "b", api.ENAMETOOLONG},
		{"/\x00" + a(126), api.EINVAL},
		{"/\x00" + a(127), api.ENAMETOOLONG},
		{"/" + a(127), api.ENAMETOOLONG},
		{"/" + a(15), api.EOK},
		{"/" + a(16), api.EOK},
		{"/" + a(17), api.ENAMETOOLONG},
		{"/" + a(17) + "/.", api.ENAMETOOLONG},
		{"/./" + a(17), api.EINVAL},
		{"/" + a(17) + "/", api.ENAMETOOLONG},
		{"//" + a(17), api.EINVAL},
		{"/" + a(17) + "//", api.ENAMETOOLONG},
		{"/" + a(16) + "\x00", api.EINVAL},
		{"/\x00" + a(16), api.EINVAL},
		{"/b\x00", api.EINVAL},
		{"/b/\x00", api.EINVAL},
		{"/..", api.EINVAL},
		{"/...", api.EOK},
		{"/.a", api.EOK},
		{"/a.", api.EOK},
		{"/..a", api.EOK},
		{"/. ", api.EOK},
		{"/a/../b", api.EINVAL},
		{"/a/./b", api.EINVAL},
		{"/a/..", api.EINVAL},
		{"/../a", api.EINVAL},
		{"/" + strings.Repeat(".", 16), api.EOK},
		{"/" + strings.Repeat(".", 17), api.ENAMETOOLONG},
		{deep, api.EOK},
		{deep + "/", api.EINVAL},
		{deep + "/a", api.ENAMETOOLONG},
		{deep + "/.", api.EINVAL},
		{deep + "/a/..", api.EINVAL},
		{deep + "/a/", api.EINVAL},
		{deep + "/a\x00", api.EINVAL},
		{deep + "/" + a(17), api.ENAMETOOLONG},
		{deep + "/a/" + a(17) + "/.", api.ENAMETOOLONG},
		{strings.Repeat("/a", 64), api.ENAMETOOLONG},
		{strings.Repeat("/a", 63) + "/", api.EINVAL},
		{"/\xff\xfe/\x80", api.EOK},
		{"/" + strings.Repeat("\u00e9", 8), api.EOK},
		{"/" + strings.Repeat("\u00e9", 9), api.ENAMETOOLONG},
		{"/\xc0\xaf", api.EOK},
		{"/\u012f\u0100", api.EOK}, // their lowest bytes, as numbers, are those of '/' and 0
		{"/a b/\n", api.EOK},
	} {
		if _, c := path.Split(x.s); c != x.c {
			t.Errorf("%q: %v, not %v", x.s, c, x.c)
		}
		is(t, x.s)
	}
}

// P16.1, P16.2, P16.3: all texts of what matters
func TestTexts(t *testing.T) {
	for _, s := range texts([]string{"/", "a", ".", "\x00"}, 8) {
		is(t, s)
	}
	near := strings.Repeat("/"+a(15), 7) // near the most bytes, and the most names
	for _, s := range texts([]string{"/", "/a", "/..", a(8), "b"}, 5) {
		is(t, near+s)
	}
	for _, s := range texts([]string{"/a", "/" + a(16), "/"}, 9) {
		is(t, s)
	}
	for n := range 300 {
		is(t, "/"+a(n))
		is(t, strings.Repeat("/aa", n))
		is(t, a(n))
		is(t, strings.Repeat("/", n))
		is(t, ("/b" + strings.Repeat("/"+a(16), n))[:n+1])
	}
}

// P16.1: each byte, wherever it stands in a name
func TestBytes(t *testing.T) {
	for x := range 256 {
		for n := range 18 {
			for k := range n {
				s := a(k) + string([]byte{byte(x)}) + a(n-k-1)
				if c := path.Name(s); c != nameTold(s) {
					t.Fatalf("Name(%q): %v", s, c)
				}
				is(t, "/"+s)
				is(t, "/b/"+s+"/c")
				is(t, string([]byte{byte(x)})+s)
			}
		}
	}
}

// P16.1: Name
func TestName(t *testing.T) {
	for s, want := range map[string]api.Code{
		"": api.EINVAL, ".": api.EINVAL, "..": api.EINVAL, "...": api.EOK, ".a": api.EOK, "a.": api.EOK, "ab": api.EOK,
		"/": api.EINVAL, "//": api.EINVAL, "/a": api.EINVAL, "a/": api.EINVAL, "a/b": api.EINVAL,
		"\x00": api.EINVAL, "a\x00": api.EINVAL, "\x00\x00": api.EINVAL, ".\x00": api.EINVAL,
		a(16): api.EOK, a(17): api.ENAMETOOLONG, a(128): api.ENAMETOOLONG, a(1000): api.ENAMETOOLONG,
		a(15) + "/": api.EINVAL, a(16) + "/": api.EINVAL, a(999) + "/": api.EINVAL, a(16) + "\x00": api.EINVAL, a(999) + "\x00": api.EINVAL,
		strings.Repeat(".", 16): api.EOK, strings.Repeat("\u00e9", 9): api.ENAMETOOLONG,
	} {
		if c := path.Name(s); c != want {
			t.Errorf("Name(%.99q): %v, not %v", s, c, want)
		}
	}
	for _, s := range texts([]string{"/", "a", ".", "\x00", a(5)}, 5) {
		if c := path.Name(s); c != nameTold(s) {
			t.Errorf("Name(%q): %v", s, c)
		}
	}
}

// P16.2: Join
func TestJoin(t *testing.T) {
	nine := strings.Split(strings.Repeat("a ", 8)+"a", " ")
	for _, x := range []struct {
		l    []string
		want string
		c    api.Code
	}{
		{nil, "/", api.EOK},
		{[]string{}, "/", api.EOK},
		{[]string{"a"}, "/a", api.EOK},
		{[]string{"a", "b"}, "/a/b", api.EOK},
		{[]string{""}, "", api.EINVAL},
		{[]string{"", ""}, "", api.EINVAL},
		{[]string{"a", ""}, "", api.EINVAL},
		{[]string{"", "a"}, "", api.EINVAL},
		{[]string{"/"}, "", api.EINVAL},
		{[]string{"a/b"}, "", api.EINVAL},
		{[]string{"/a"}, "", api.EINVAL},
		{[]string{"a", "b/c"}, "", api.EINVAL},
		{[]string{"a", "/"}, "", api.EINVAL},
		{[]string{"."}, "", api.EINVAL},
		{[]string{"a", ".."}, "", api.EINVAL},
		{[]string{"a\x00"}, "", api.EINVAL},
		{[]string{a(16)}, "/" + a(16), api.EOK},
		{[]string{a(17)}, "", api.ENAMETOOLONG},
		{[]string{a(17), "."}, "", api.ENAMETOOLONG},
		{[]string{".", a(17)}, "", api.EINVAL},
		{[]string{a(17), "/"}, "", api.EINVAL}, // of any name, ahead of what the path is
		{[]string{a(200), "b/c"}, "", api.EINVAL},
		{[]string{a(127), "", "", "/"}, "", api.EINVAL},
		{[]string{"", a(126)}, "", api.EINVAL},
		{[]string{"", a(127)}, "", api.ENAMETOOLONG},
		{[]string{".", a(125)}, "", api.EINVAL},
		{[]string{".", a(126)}, "", api.ENAMETOOLONG},
		{nine[:8], strings.Repeat("/a", 8), api.EOK},
		{nine, "", api.ENAMETOOLONG},
		{append(slices.Clone(nine), "."), "", api.EINVAL},
		{append(slices.Clone(nine), ""), "", api.EINVAL},
		{make([]string, 128), "", api.EINVAL},
		{make([]string, 129), "", api.ENAMETOOLONG},
	} {
		if got, c := path.Join(x.l...); got != x.want || c != x.c {
			t.Errorf("Join(%.99q): %q, %v", x.l, got, c)
		}
		joins(t, x.l)
	}
}

// P16.2: all lists of what matters
func TestLists(t *testing.T) {
	parts := []string{"", "a", "/", "..", "\x00", a(17)}
	lists := [][]string{nil}
	for from, k := 0, 0; k < 5; k++ {
		to := len(lists)
		for _, l := range lists[from:to] {
			for _, part := range parts {
				lists = append(lists, append(slices.Clone(l), part))
			}
		}
		from = to
	}
	for _, l := range lists {
		joins(t, l)
	}
	for n := range 20 {
		for size := range 20 {
			l := slices.Repeat([]string{a(size)}, n)
			joins(t, l)
			for at := range l {
				for _, part := range parts {
					was := l[at]
					l[at] = part
					joins(t, l)
					l[at] = was
				}
			}
		}
	}
}

// P16.2: Parent
func TestParent(t *testing.T) {
	for _, x := range []struct {
		s, above, last string
		c              api.Code
	}{
		{"/", "", "", api.EINVAL},
		{"/a", "/", "a", api.EOK},
		{"/a/b", "/a", "b", api.EOK},
		{"/a/b/a", "/a/b", "a", api.EOK},
		{"/" + a(16) + "/...", "/" + a(16), "...", api.EOK},
		{strings.Repeat("/b", 8), strings.Repeat("/b", 7), "b", api.EOK},
		{strings.Repeat("/b", 9), "", "", api.ENAMETOOLONG},
		{"", "", "", api.EINVAL},
		{"a", "", "", api.EINVAL},
		{"a/b", "", "", api.EINVAL},
		{"//", "", "", api.EINVAL},
		{"/a/", "", "", api.EINVAL},
		{"/a/..", "", "", api.EINVAL},
		{"/../a", "", "", api.EINVAL},
		{"/a/" + a(17), "", "", api.ENAMETOOLONG},
		{"/" + a(17) + "/a", "", "", api.ENAMETOOLONG},
		{"/" + a(128), "", "", api.ENAMETOOLONG},
	} {
		if above, last, c := path.Parent(x.s); above != x.above || last != x.last || c != x.c {
			t.Errorf("Parent(%q): %q, %q, %v", x.s, above, last, c)
		}
		is(t, x.s)
	}
}

// P16.3: Under
func TestUnder(t *testing.T) {
	deep := strings.Repeat("/a", 8)
	for _, x := range []struct {
		path, dir string
		want      bool
	}{
		{"/", "/", true},
		{"/a", "/", true},
		{"/a", "/a", true},
		{"/a/b", "/a", true},
		{"/a/b/c", "/a", true},
		{"/a/b/c", "/a/b", true},
		{"/a/b", "/b", false},
		{"/", "/a", false},
		{"/a", "/a/b", false},
		{"/ab", "/a", false},
		{"/a", "/ab", false},
		{"/ab/c", "/a", false},
		{"/a/bc", "/a/b", false},
		{"/b/a", "/a", false},
		{"/A/b", "/a", false},
		{deep, deep, true},
		{deep, "/", true},
		{deep, deep[2:], true},
		{deep[2:], deep, false},
		{deep + "/a", deep, false},
		{deep, deep + "/a", false},
		{"", "", false},
		{"/", "", false},
		{"", "/", false},
		{"a", "/", false},
		{"/a", "a", false},
		{"a", "a", false},
		{"/a/", "/a", false},
		{"/a/b", "/a/", false},
		{"//", "/", false},
		{"/", "//", false},
		{"/.", "/", false},
		{"/.", "/.", false},
		{"/a/..", "/a", false},
		{"/" + a(17), "/", false},
		{"/" + a(17), "/" + a(17), false},
		{"/" + a(200), "/", false},
	} {
		if got := path.Under(x.path, x.dir); got != x.want {
			t.Errorf("Under(%q, %q): %v", x.path, x.dir, got)
		}
	}
}

// P16.3: Under, of all pairs of texts of what matters
func TestPairs(t *testing.T) {
	l := append(texts([]string{"/", "a", "b"}, 4), texts([]string{"/a", "/ab", "/b"}, 4)...)
	l = append(l, "/.", "/a/.", "/"+a(17), "/\x00", "/"+a(129), strings.Repeat("/a", 8), strings.Repeat("/a", 9))
	for _, s := range l {
		names, c := told(s)
		for _, dir := range l {
			first, d := told(dir)
			want := c == api.EOK && d == api.EOK && len(first) <= len(names)
			for k, name := range first {
				want = want && names[k] == name
			}
			if got := path.Under(s, dir); got != want {
				t.Fatalf("Under(%q, %q): %v", s, dir, got)
			}
		}
	}
}

// P16.3: Walk may be left at any time, and gone through as often as one likes, also while it is gone through.
func TestWalk(t *testing.T) {
	s := "/a/bb/ccc/a/bb/0/ /" + a(16)
	want := strings.Split(s[1:], "/")
	walk := path.Walk(s)
	for most := range 9 {
		var l []string
		for n, name := range walk {
			if n == most {
				break
			}
			l = append(l, name)
		}
		if !slices.Equal(l, want[:most]) {
			t.Error(most, l)
		}
	}
	times := 0
	for n, name := range walk {
		for m, other := range walk {
			if name != want[n] || other != want[m] {
				t.Fatal(n, name, m, other)
			}
			times++
		}
	}
	if times != 64 {
		t.Error(times)
	}
	for _, none := range []string{"/", "", "a", "/a/", "/a/..", "/a/b//", "/a/" + a(17), strings.Repeat("/a", 9), "/" + a(200)} {
		for n, name := range path.Walk(none) {
			t.Errorf("Walk(%.99q): %d, %q", none, n, name)
		}
	}
}

// P16.3: who left Walk is not asked again
func TestLeft(t *testing.T) {
	s := strings.Repeat("/a", 8)
	for most := 1; most <= 8; most++ {
		asked := 0
		path.Walk(s)(func(int, string) bool {
			asked++
			return asked < most
		})
		if asked != most {
			t.Error(most, asked)
		}
	}
}

// P16.4: what follows, of any names
func TestAny(t *testing.T) {
	r := rand.New(rand.NewSource(16))
	most := map[api.Code]int{}
	for range 60000 {
		l := make([]string, r.Intn(10))
		for k := range l {
			name := make([]byte, 1+r.Intn(17-len(l)/2*r.Intn(2)))
			for at := range name {
				name[at] = byte(1 + r.Intn(255))
				if name[at] == '/' {
					name[at] = '.'
				}
			}
			l[k] = string(name)
		}
		joins(t, l)
		s, c := path.Join(l...)
		most[c]++
		if got, code := path.Split(s); c == api.EOK && (!slices.Equal(got, l) || code != api.EOK) {
			t.Fatalf("Split of Join(%q): %q, %v", l, got, code)
		}
		if c != api.EOK {
			s = "/" + strings.Join(l, "/")
		}
		is(t, s)
	}
	if most[api.EOK] < 1000 || most[api.ENAMETOOLONG] < 1000 || most[api.EINVAL] < 10 {
		t.Error(most)
	}
}

// What is answered is the caller's, and what is handed in stays so.
func TestApart(t *testing.T) {
	l, _ := path.Split("/a/b/c")
	other, _ := path.Split("/a/b/c")
	l[0], l[1] = "x", "y"
	_ = append(l[:1], "z", "z")
	if !slices.Equal(other, []string{"a", "b", "c"}) {
		t.Error(other)
	}
	names := []string{"a", "b", "c", "d"}
	s, _ := path.Join(names[:2]...)
	names[0] = "x"
	if s != "/a/b" || !slices.Equal(names, []string{"x", "b", "c", "d"}) {
		t.Error(s, names)
	}
}

// Great texts, and great lists, are told of without being put together.
func TestGreat(t *testing.T) {
	great := a(1 << 20)
	many := slices.Repeat([]string{great}, 256)
	if s, c := path.Join(many...); s != "" || c != api.ENAMETOOLONG {
		t.Error(len(s), c)
	}
	if n := testing.AllocsPerRun(3, func() { path.Join(many...) }); n > 0 {
		t.Error("put together", n)
	}
	many[255] = "/"
	if s, c := path.Join(many...); s != "" || c != api.EINVAL {
		t.Error(len(s), c)
	}
	for s, want := range map[string]api.Code{great: api.EINVAL, "/" + great: api.ENAMETOOLONG, strings.Repeat("/", 1<<20): api.ENAMETOOLONG} {
		is(t, s)
		if _, c := path.Split(s); c != want {
			t.Error(fmt.Sprintf("%.9q", s), c)
		}
	}
	if c := path.Name(great); c != api.ENAMETOOLONG {
		t.Error(c)
	}
	if c := path.Name(great + "\x00"); c != api.EINVAL {
		t.Error(c)
	}
}
