package impl

import (
	"slices"
	"testing"
)

// TestBatchesOfAnActor looks at what is sent for each slice, which no exported function shows.
func TestBatchesOfAnActor(t *testing.T) {
	p, _ := ParseProgram("p(1).\np(2).\np(3).\nloop:-loop.\n")
	for _, c := range []struct {
		query   string
		quota   int
		waiting []int
		further int
		want    []int
		end     int
	}{
		// p(A),A>1 sends A=2 with its third unit and A=3 with its fourth one.
		{"p(A),A>1", 100, nil, 1, []int{0, 0, 1, 1}, EndNo},
		{"p(A),A>1", 100, nil, 3, []int{1, 1}, EndNo},
		{"p(A),A>1", 100, []int{3, 0, 1}, 100, []int{1, 0, 1}, EndNo},
		{"p(A),A>1", 100, []int{2, -1, 0, 1, 0}, 100, []int{0, 0, 0, 1, 0, 1}, EndNo},
		{"p(A),A>1", 100, []int{4, 1, 1}, 100, []int{2}, EndNo},
		{"p(A),A>1", 3, []int{2}, 100, []int{0, 1}, EndFuel},
		{"p(A),A>1", 3, []int{1, 9, 9}, 100, []int{0, 1}, EndFuel},
		{"loop", 10, []int{0, 4, -4, 4}, 1, []int{0, 0, 0, 0, 0, 0}, EndFuel},
	} {
		query, _ := ParseQuery(c.query)
		a, ok := newActor(opened(p, query, c.quota), c.waiting, c.further)
		if !ok {
			t.Fatalf("newActor = %v, %v", a, ok)
		}
		go a.work()
		var got []int
		for batch := range a.batches {
			got = append(got, len(batch))
		}
		if !slices.Equal(got, c.want) || a.End != c.end {
			t.Errorf("%s with %v and then %d sends %v answers, not %v, and ends with %d", c.query, c.waiting, c.further, got, c.want, a.End)
		}
	}
}
