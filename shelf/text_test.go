package shelf_test

import (
	"math/rand"
	"slices"
	"strings"
	"testing"

	"coilrack/api"
	"coilrack/shelf"
)

// P5.5: a layout as a text, and back.
func TestPrint(t *testing.T) {
	name := strings.Repeat("k", 40)
	for _, x := range []struct {
		r    api.Rack
		x    []string
		want string
	}{
		{rack(1, 1), layout("."), ".\n"},
		{rack(1, 1), layout("a"), "a\n"},
		{rack(2, 2), layout("a b . a"), "a b\n. a\n"},
		{rack(1, 4), layout("a b . a"), "a b . a\n"},
		{rack(4, 1), layout("a b . a"), "a\nb\n.\na\n"},
		{rack(2, 3), layout("can-1 x_9 . . . can-2"), "can-1 x_9 .\n. . can-2\n"},
		{rack(6, 10), slices.Repeat([]string{name}, 60), strings.Repeat(strings.Repeat(name+" ", 9)+name+"\n", 6)},
	} {
		if s, e := shelf.Print(x.r, x.x); s != x.want || e != api.OK {
			t.Errorf("%v: %q %d", x.x, s, e)
		}
		if y, n, e := shelf.Parse(x.r, x.want); !slices.Equal(y, x.x) || n != 0 || e != api.OK {
			t.Errorf("%q: %v %d %d", x.want, y, n, e)
		}
	}
	for name, x := range map[string]struct {
		r    api.Rack
		x    []string
		want api.Errno
	}{
		"none":              {rack(1, 1), nil, api.ErrForm},
		"too few":           {rack(2, 2), layout("a b ."), api.ErrForm},
		"too many":          {rack(2, 2), layout("a b . a a"), api.ErrForm},
		"form before names": {rack(2, 2), []string{"?"}, api.ErrForm},
		"a point":           {rack(1, 2), []string{"a", "."}, api.ErrName},
		"no key":            {rack(1, 2), []string{"a b", "a"}, api.ErrName},
		"a line feed":       {rack(1, 2), []string{"a\n", "a"}, api.ErrName},
	} {
		if s, e := shelf.Print(x.r, x.x); s != "" || e != x.want {
			t.Errorf("%s: %q %d", name, s, e)
		}
	}
}

// P5.5: what is no layout.
func TestParse(t *testing.T) {
	for name, x := range map[string]struct {
		r    api.Rack
		text string
		at   int
		want api.Errno
	}{
		"nothing":                {rack(1, 1), "", 0, api.ErrForm},
		"an empty line":          {rack(1, 1), "\n", 0, api.ErrSyntax},
		"no line feed":           {rack(1, 1), "a", 0, api.ErrSyntax},
		"no line feed at last":   {rack(2, 2), "a b\n. a", 1, api.ErrSyntax},
		"too few lines":          {rack(2, 2), "a b\n", 0, api.ErrForm},
		"too many lines":         {rack(2, 2), "a b\n. a\n. .\n", 0, api.ErrForm},
		"an empty line more":     {rack(2, 2), "a b\n. a\n\n", 2, api.ErrSyntax},
		"a wrong line more":      {rack(1, 2), "a b\n. a\na\n", 2, api.ErrSyntax},
		"an open line more":      {rack(1, 2), "a b\n. a", 1, api.ErrSyntax},
		"a blank more":           {rack(1, 2), "a b\n. a\n ", 2, api.ErrSyntax},
		"too few words":          {rack(2, 2), "a b\na\n", 1, api.ErrSyntax},
		"too many words":         {rack(2, 2), "a b c\n. a\n", 0, api.ErrSyntax},
		"the first one of two":   {rack(3, 1), "a\nB\nC\n", 1, api.ErrSyntax},
		"two blanks":             {rack(1, 2), "a  b\n", 0, api.ErrSyntax},
		"two blanks for a word":  {rack(1, 3), "a  b\n", 0, api.ErrSyntax},
		"a blank before":         {rack(1, 2), " a b\n", 0, api.ErrSyntax},
		"a blank behind":         {rack(1, 2), "a b \n", 0, api.ErrSyntax},
		"a blank instead":        {rack(1, 2), "a \n", 0, api.ErrSyntax},
		"a tab":                  {rack(1, 2), "a\tb\n", 0, api.ErrSyntax},
		"a carriage return":      {rack(1, 2), "a b\r\n", 0, api.ErrSyntax},
		"a capital":              {rack(1, 2), "a B\n", 0, api.ErrSyntax},
		"two points":             {rack(1, 2), "a ..\n", 0, api.ErrSyntax},
		"a digit":                {rack(1, 2), "a 9\n", 0, api.ErrSyntax},
		"a long word":            {rack(1, 1), strings.Repeat("k", 41) + "\n", 0, api.ErrSyntax},
		"not utf-8":              {rack(1, 1), "\xff\n", 0, api.ErrSyntax},
		"syntax before form":     {rack(5, 1), "a\n?\n", 1, api.ErrSyntax},
		"as many bytes as can":   {rack(1, 1), strings.Repeat("a\n", api.MaxText/2), 0, api.ErrForm},
		"too many bytes":         {rack(1, 1), strings.Repeat("a\n", api.MaxText/2) + "a", 0, api.ErrLarge},
		"large before syntax":    {rack(1, 1), strings.Repeat("?", api.MaxText+1), 0, api.ErrLarge},
		"the last line of many":  {rack(1, 1), strings.Repeat("a\n", api.MaxText/2-1) + "?\n", api.MaxText/2 - 1, api.ErrSyntax},
		"a long line":            {rack(1, 10), strings.Repeat("a ", api.MaxText/2-1) + "a\n", 0, api.ErrSyntax},
		"a line that is cut off": {rack(1, 10), strings.Repeat("a", api.MaxText), 0, api.ErrSyntax},
	} {
		if y, n, e := shelf.Parse(x.r, x.text); len(y) != 0 || n != x.at || e != x.want {
			t.Errorf("%s: %.9q %d %d", name, y, n, e)
		}
	}
}

// P5.5 and Z10: Parse reads what Print writes, and nothing else.
func TestParseOfPrint(t *testing.T) {
	r := rand.New(rand.NewSource(8))
	same := 0
	for range 5_000 {
		k := rack(1+r.Intn(3), 1+r.Intn(3))
		x := someLayout(r, example(), k.Rows*k.Columns)
		s, e := shelf.Print(k, x)
		if e != api.OK {
			t.Fatal(k, x, e)
		}
		if y, n, e := shelf.Parse(k, s); !slices.Equal(y, x) || n != 0 || e != api.OK {
			t.Fatalf("%q: %v %d %d", s, y, n, e)
		}
		b := []byte(s)
		i := r.Intn(len(b))
		switch c := "ab. \n-A"[r.Intn(7)]; r.Intn(3) {
		case 0:
			b[i] = c
		case 1:
			b = slices.Insert(b, i, c)
		case 2:
			b = slices.Delete(b, i, i+1)
		}
		y, n, e := shelf.Parse(k, string(b))
		if e != api.OK {
			if len(y) != 0 || n != 0 && e != api.ErrSyntax || n > strings.Count(string(b), "\n") {
				t.Fatalf("%q: %v %d %d", b, y, n, e)
			}
			continue
		}
		same++
		if s, e := shelf.Print(k, y); s != string(b) || e != api.OK {
			t.Fatalf("%q: %q %d", b, s, e)
		}
	}
	if same < 500 {
		t.Error("only", same)
	}
}
