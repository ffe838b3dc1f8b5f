package object

import (
	"strings"
	"testing"

	"quill/api"
)

type want struct {
	at, wide, key, count int
	low, high            int // low -1: ErrMove
}

func look(t *testing.T, s string, line bool, l []want) {
	t.Helper()
	for _, c := range l {
		x, e := Piece(s, c.at, c.wide, c.key, c.count)
		if c.low < 0 && (x != (api.Range{}) || e != api.ErrMove) || c.low >= 0 && (x != (api.Range{Low: c.low, High: c.high, Line: line}) || e != api.OK) {
			t.Errorf("%q %d%c%c at %d: %v %v", s, c.count, c.wide, c.key, c.at, x, e)
		}
	}
}

// P15.1
func TestWords(t *testing.T) {
	look(t, "ab cd", false, []want{{0, 'i', 'w', 1, 0, 2}, {0, 'a', 'w', 1, 0, 3}, {1, 'a', 'w', 1, 0, 3}, {2, 'i', 'w', 1, 2, 3}, {2, 'a', 'w', 1, 2, 5}, {3, 'i', 'w', 1, 3, 5}, {4, 'a', 'w', 1, 2, 5}, {5, 'i', 'w', 1, -1, 0}, {5, 'a', 'w', 1, -1, 0}, {0, 'i', 'w', 2, -1, 0}, {0, 'a', 'W', 2, -1, 0}})
	s := "ab.c  d\n\n x,y\t \nz"
	look(t, s, false, []want{
		{0, 'i', 'w', 1, 0, 2}, {0, 'a', 'w', 1, 0, 2}, {2, 'a', 'w', 1, 2, 3}, {3, 'a', 'w', 1, 3, 6}, {0, 'i', 'W', 1, 0, 4}, {2, 'a', 'W', 1, 0, 6}, {6, 'a', 'w', 1, 4, 7}, {6, 'a', 'W', 1, 4, 7}, {5, 'a', 'w', 1, 4, 7},
		{7, 'i', 'w', 1, -1, 0}, {8, 'i', 'w', 1, -1, 0}, {8, 'a', 'W', 1, -1, 0},
		{9, 'i', 'w', 1, 9, 10}, {9, 'a', 'w', 1, 9, 11}, {9, 'a', 'W', 1, 9, 13}, {10, 'a', 'w', 1, 9, 11}, {10, 'i', 'W', 1, 10, 13}, {12, 'a', 'w', 1, 12, 15}, {11, 'a', 'w', 1, 11, 12}, {13, 'i', 'w', 1, 13, 15}, {14, 'a', 'w', 1, -1, 0}, {14, 'a', 'W', 1, -1, 0},
		{16, 'a', 'w', 1, 16, 17}, {17, 'a', 'w', 1, -1, 0},
	})
	look(t, "a\n b\n ", false, []want{{2, 'i', 'w', 1, 2, 3}, {2, 'a', 'w', 1, 2, 4}, {5, 'i', 'w', 1, 5, 6}})
	look(t, "", false, []want{{0, 'i', 'w', 1, -1, 0}, {0, 'a', 'W', 1, -1, 0}})
}

// P15.1
func TestQuotes(t *testing.T) {
	look(t, "\"\n a\"ä\" \"\" x\"y\n\"", false, []want{
		{2, 'i', '"', 1, 5, 6}, {2, 'a', '"', 1, 4, 7}, {4, 'i', '"', 1, 5, 6}, {6, 'a', '"', 1, 4, 7}, {7, 'i', '"', 1, 9, 9}, {7, 'a', '"', 1, 8, 10}, {9, 'a', '"', 1, 8, 10}, {10, 'i', '"', 1, -1, 0}, {13, 'a', '"', 1, -1, 0}, {0, 'a', '"', 1, -1, 0}, {15, 'i', '"', 1, -1, 0}, {2, 'i', '"', 2, -1, 0},
	})
	look(t, "\"a\" \"b\"", false, []want{{0, 'i', '"', 1, 1, 2}, {0, 'a', '"', 1, 0, 3}, {2, 'a', '"', 1, 0, 3}, {3, 'i', '"', 1, 5, 6}})
}

// P15.1
func TestBrackets(t *testing.T) {
	s := "(a[b]{\n})(("
	look(t, s, false, []want{
		{1, 'i', '(', 1, 1, 8}, {1, 'a', '(', 1, 0, 9}, {8, 'i', ')', 1, 1, 8}, {0, 'a', 'b', 1, 0, 9}, {3, 'i', '[', 1, 3, 4}, {3, 'a', ']', 1, 2, 5}, {1, 'a', ']', 1, -1, 0}, {6, 'i', '{', 1, 6, 7}, {6, 'a', '}', 1, 5, 8}, {7, 'a', 'B', 1, 5, 8}, {3, 'a', 'b', 2, -1, 0}, {10, 'i', '(', 1, -1, 0}, {11, 'i', '(', 1, -1, 0},
	})
	look(t, "((x))", false, []want{{2, 'i', 'b', 2, 1, 4}, {2, 'a', 'b', 2, 0, 5}, {2, 'a', 'b', 3, -1, 0}, {2, 'a', 'b', api.MaxCount, -1, 0}})
	look(t, "()", false, []want{{0, 'i', 'b', 1, 1, 1}})
}

// P15.1
func TestParagraphs(t *testing.T) {
	s := "a\nb\n\n\nc\nd" // begins: 0 2 4 5 6 8
	look(t, s, true, []want{
		{0, 'i', 'p', 1, 0, 3}, {3, 'i', 'p', 1, 0, 3}, {2, 'a', 'p', 1, 0, 5}, {4, 'i', 'p', 1, 4, 5}, {5, 'a', 'p', 1, 4, 9}, {6, 'i', 'p', 1, 6, 9}, {9, 'a', 'p', 1, 4, 9}, {0, 'i', 'p', 2, -1, 0}, {0, 'a', 'p', 999, -1, 0},
	})
	look(t, "a\n ", true, []want{{0, 'i', 'p', 1, 0, 3}, {0, 'a', 'p', 1, -1, 0}})
	look(t, "a\n\nb", true, []want{{3, 'a', 'p', 1, 2, 4}, {2, 'a', 'p', 1, 2, 4}, {0, 'a', 'p', 1, 0, 2}})
	look(t, "\n", true, []want{{0, 'i', 'p', 1, 0, 1}, {1, 'a', 'p', 1, -1, 0}})
	look(t, "", true, []want{{0, 'i', 'p', 1, 0, 0}, {0, 'a', 'p', 1, -1, 0}})
	look(t, "a\n", true, []want{{0, 'a', 'p', 1, 0, 2}, {2, 'a', 'p', 1, 0, 2}, {2, 'i', 'p', 1, 2, 2}})
}

// P15.1
func TestWrong(t *testing.T) {
	for i, c := range []want{{-1, 'i', 'w', 1, 0, 0}, {3, 'i', 'w', 1, 0, 0}, {0, 'w', 'w', 1, 0, 0}, {0, 0, 'w', 1, 0, 0}, {0, 'i', 'x', 1, 0, 0}, {0, 'i', 'x', 2, 0, 0}, {0, 'i', 0, 1, 0, 0}, {0, 'i', 'w', 0, 0, 0}, {0, 'i', '(', -1, 0, 0}, {0, 'i', '(', api.MaxCount + 1, 0, 0}} {
		if x, e := Piece("ab", c.at, c.wide, c.key, c.count); x != (api.Range{}) || e != api.ErrForm {
			t.Error(i, x, e)
		}
	}
	for _, s := range []string{"\xff", "\x00", strings.Repeat("x", api.MaxBytes+1)} {
		if x, e := Piece(s, 0, 'i', 'p', 1); x != (api.Range{}) || e != api.ErrForm {
			t.Error(x, e)
		}
	}
}

// P15.2
func TestAHasI(t *testing.T) {
	s := "ab, (c \"d\" [e])\n\n{f\n}  g\n"
	for at := range len(s) + 1 {
		for _, key := range "wW\"()b[]{}Bp" {
			i, e := Piece(s, at, 'i', int(key), 1)
			a, f := Piece(s, at, 'a', int(key), 1)
			if f == api.OK && (e != api.OK || a.Low > i.Low || a.High < i.High || a.Low < 0 || a.High > len(s)) {
				t.Errorf("%c at %d: %v %v %v %v", key, at, i, e, a, f)
			}
		}
	}
}
