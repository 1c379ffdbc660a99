package parts

import (
	"bytes"
	"slices"
	"testing"

	"wattle/api"
	"wattle/field"
)

func TestLength(t *testing.T) {
	for _, c := range [][3]int{{1, 0, 0}, {10, 0, 0}, {1, 1, 1}, {10, 1, 1}, {10, 10, 1}, {10, 11, 2}, {3, 400, 134}, {10, 400, 40}, {1, 400, 400}} {
		if v := Length(c[0], c[1]); v != c[2] {
			t.Errorf("P4: Length(%d, %d) = %d, want %d", c[0], c[1], v, c[2])
		}
	}
}

func TestCut(t *testing.T) {
	for _, c := range []struct {
		data int
		text string
		want []string
	}{
		{1, "", []string{""}},
		{3, "", []string{"", "", ""}},
		{3, "abcdef", []string{"ab", "cd", "ef"}},
		{3, "abcd", []string{"ab", "cd", "\x00\x00"}},
		{4, "abcde", []string{"ab", "cd", "e\x00", "\x00\x00"}},
		{4, "a", []string{"a", "\x00", "\x00", "\x00"}},
	} {
		cut := Cut(c.data, c.text)
		for j, want := range c.want {
			if len(cut) != len(c.want) || string(cut[j]) != want {
				t.Fatalf("P4: Cut(%d, %q) = %q, want %q", c.data, c.text, cut, c.want)
			}
		}
	}
}

func TestFactors(t *testing.T) {
	if rows := Factors(1, 2); !bytes.Equal(slices.Concat(rows...), []byte{1, 142}) {
		t.Errorf("P4: the factors of 1 data piece are %v", rows)
	}
	if rows := Factors(2, 1); !bytes.Equal(slices.Concat(rows...), []byte{142, 244}) {
		t.Errorf("P4: the factors of 2 data pieces are %v", rows)
	}
	for data := 1; data <= api.MaxData; data++ {
		rows := Factors(data, api.MaxSpare)
		for i := range api.MaxSpare {
			for j := range data {
				if field.Mul(rows[i][j], byte((data+i)^j)) != 1 {
					t.Errorf("P4: D %d: F(%d, %d) = %d", data, i, j, rows[i][j])
				}
			}
		}
	}
}

func TestFirstLeft(t *testing.T) {
	for _, c := range []struct {
		count int
		lost  []int
		want  []int
	}{
		{1, nil, []int{0}},
		{3, nil, []int{0, 1, 2}},
		{3, []int{1}, []int{0, 2, 3}},
		{3, []int{4, 0, 2}, []int{1, 3, 5}},
		{2, []int{3, 2, 1, 0}, []int{4, 5}},
		{2, []int{7}, []int{0, 1}},
	} {
		if got := firstLeft(c.count, c.lost); !slices.Equal(got, c.want) {
			t.Errorf("P5: the first %d left without %v are %v, want %v", c.count, c.lost, got, c.want)
		}
	}
}

func TestMadeBy(t *testing.T) {
	rows := madeBy(2, 2, []int{3, 0, 2, 1})
	factors := Factors(2, 2)
	want := [][]byte{factors[1], {1, 0}, factors[0], {0, 1}}
	if !slices.EqualFunc(rows, want, bytes.Equal) {
		t.Errorf("P5: the rows are %v, want %v", rows, want)
	}
}

// The way back of what was made leads to the unit rows of the lost ones.
func TestWayBack(t *testing.T) {
	taken, lost := []int{1, 3, 4, 6}, []int{5, 0, 2}
	made := madeBy(4, 3, taken)
	for n, row := range wayBack(4, 3, taken, lost) {
		for j := range 4 {
			sum := byte(0)
			for k, factor := range row {
				sum ^= field.Mul(factor, made[k][j])
			}
			if (sum == 1) != (j == 2*n) || sum > 1 {
				t.Errorf("P5: row %d leads to %d of the data piece %d", n, sum, j)
			}
		}
	}
}

func TestGatherAndChange(t *testing.T) {
	pieces := Spread(3, 2, api.Tables, "abcdefgh")
	changed := Change(3, 2, pieces, 2, "XYZ")
	if want := Spread(3, 2, api.Tables, "abXYZfgh"); !slices.Equal(changed, want) {
		t.Errorf("P6: changed pieces are %q, want %q", changed, want)
	}
	spoilt := slices.Clone(changed)
	spoilt[0], spoilt[2] = "", "spoilt"
	for way := range 3 {
		text, all := Gather(3, 2, way, 8, spoilt, []int{2, 0})
		if text != "abXYZfgh" || !slices.Equal(all, changed) {
			t.Errorf("P5: way %d: gathered %q, %q, want %q", way, text, all, changed)
		}
	}
}
