package meaning

import "testing"

// Each depth is found in few turns: thrice as many as the depth has binary places, or fewer.
func TestP6_2Links(t *testing.T) {
	const most, turns = 3000, 36
	list := []*link{newLink()}
	for i := range most {
		list = append(list, list[i].with(i+1))
	}
	for _, from := range []int{0, 1, 2, 3, 100, 1023, 1024, 1025, most} {
		for depth := range from + 1 {
			if list[from].at(depth) != list[depth] || depth > 0 && list[depth].value != depth {
				t.Fatalf("from %d to %d", from, depth)
			}
			n := 0
			for l := list[from]; l.depth > depth; n++ {
				if l.far.depth >= depth {
					l = l.far
				} else {
					l = l.next
				}
			}
			if n > turns {
				t.Fatalf("from %d to %d in %d turns", from, depth, n)
			}
		}
	}
}
