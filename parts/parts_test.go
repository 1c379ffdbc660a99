package parts

import (
	"bytes"
	"slices"
	"testing"

	"wattle/api"
	"wattle/field"
)

func TestLength(t *testing.T) {
	for _, c := range [][3]int{{1, 0, 0}, {10, 0, 0}, {1, 1, 1}, {10, 1, 1}, {10, 10, 1}, {10, 11, 2}, {3, 400, 134}, {10, 400, 40}, {1, 400, 400}} {
		if v := Length(c[0], c[1]); v != c[2] {
			t.Errorf("P4: Length(%d, %d) = %d, want %d", c[0], c[1], v, c[2])
		}
	}
}

func TestCut(t *testing.T) {
	for _, c := range []struct {
		data int
		text string
		want []string
	}{
		{1, "", []string{""}},
		{3, "", []string{"", "", ""}},
		{3, "abcdef", []string{"ab", "cd", "ef"}},
		{3, "abcd", []string{"ab", "cd", "\x00\x00"}},
		{4, "abcde", []string{"ab", "cd", "e\x00", "\x00\x00"}},
		{4, "a", []string{"a", "\x00", "\x00", "\x00"}},
	} {
		cut := Cut(c.data, c.text)
		for j, want := range c.want {
			if len(cut) != len(c.want) || string(cut[j]) != want {
				t.Fatalf("P4: Cut(%d, %q) = %q, want %q", c.data, c.text, cut, c.want)
			}
		}
	}
}

func TestFactors(t *testing.T) {
	if rows := Factors(1, 2); !bytes.Equal(slices.Concat(rows...), []byte{1, 142}) {
		t.Errorf("P4: the factors of 1 data piece are %v", rows)
	}
	if rows := Factors(2, 1); !bytes.Equal(slices.Concat(rows...), []byte{142, 244}) {
		t.Errorf("P4: the factors of 2 data pieces are %v", rows)
	}
	for data := 1; data <= api.MaxData; data++ {
		rows := Factors(data, api.MaxSpare)
		for i := range api.MaxSpare {
			for j := range data {
				if field.Mul(rows[i][j], byte((data+i)^j)) != 1 {
					t.Errorf("P4: D %d: F(%d, %d) = %d", data, i, j, rows[i][j])
				}
			}
		}
	}
}
