package rate_test

import (
	"math"
	"slices"
	"testing"

	"cicerone/rate"
)

// P16.2: of none there is no best one, whatever the draw.
func TestBestNone(t *testing.T) {
	r := rate.New()
	answers(t, r, 5, 8)
	for _, addrs := range [][]int{nil, {}, make([]int, 0, 3), []int{5, 6}[:0]} {
		for _, draw := range []int{0, 1, -1, math.MaxInt, math.MinInt} {
			if addr, ok := r.Best(addrs, draw); addr != 0 || ok {
				t.Errorf("Best(%#v, %d) is %d, %t", addrs, draw, addr, ok)
			}
		}
	}
}

// P16.2: of one it is this one, whatever is known of it and whatever the draw.
func TestBestOne(t *testing.T) {
	r := rate.New()
	for i, addr := range anywhere {
		picks(t, r, []int{addr}, addr)
		answers(t, r, addr, 100*i)
		fails(t, r, addr, i)
		picks(t, r, []int{addr}, addr)
	}
}

// P16.2: the best one by the imaginary part, wherever it stands in the list.
func TestBestFailures(t *testing.T) {
	r := rate.New()
	fails(t, r, 4, 3)
	fails(t, r, 5, 1)
	fails(t, r, 6, 2)
	for _, addrs := range [][]int{{4, 5, 6}, {5, 6, 4}, {6, 4, 5}, {4, 6, 5}, {6, 5}, {5, 4}} {
		picks(t, r, addrs, 5)
	}
	picks(t, r, []int{4, 6}, 6)
	picks(t, r, []int{4, 6, 5, 7}, 7)
}

// P16.2: the best one by the real part, where failures are alike.
func TestBestTicks(t *testing.T) {
	r := rate.New()
	answers(t, r, 4, 30)
	answers(t, r, 5, 10)
	answers(t, r, 6, 11)
	for _, addrs := range [][]int{{4, 5, 6}, {5, 6, 4}, {6, 4, 5}, {4, 6, 5}, {6, 5}, {5, 4}} {
		picks(t, r, addrs, 5)
	}
	picks(t, r, []int{4, 6}, 6)
	for _, addr := range []int{4, 5, 6} {
		fails(t, r, addr, 2)
	}
	picks(t, r, []int{4, 6, 5}, 5)
	picks(t, r, []int{4, 6, 5, 7}, 7)
}

// P16.2: the imaginary part comes ahead of the real one, however great that is.
func TestBestOrder(t *testing.T) {
	r := rate.New()
	for range 100 {
		answers(t, r, 4, 1000)
	}
	fails(t, r, 5, 1)
	knows(t, r, 4, 8000, 0)
	knows(t, r, 5, 0, 1)
	picks(t, r, []int{5, 4}, 4)
	picks(t, r, []int{4, 5}, 4)
	picks(t, r, []int{5, 4, 6}, 6)
	fails(t, r, 4, 1)
	picks(t, r, []int{4, 5}, 5)
}

// P16.2: one tick more or less is not alike, nor is one failure, at the ends too.
func TestBestNear(t *testing.T) {
	r := rate.New()
	for range 100 {
		answers(t, r, 4, 1000)
		answers(t, r, 5, 1000)
	}
	answers(t, r, 5, 999)
	knows(t, r, 5, 7999, 0)
	picks(t, r, []int{4, 5}, 5)
	fails(t, r, 6, 1000)
	fails(t, r, 7, 999)
	picks(t, r, []int{6, 7}, 7)
	picks(t, r, []int{7, 6}, 7)
	fails(t, r, 7, 1)
	picks(t, r, []int{6, 7}, 6, 7)
}

// P16.2: those that are alike in both parts, in the order of the list, the others left out.
func TestBestAlike(t *testing.T) {
	r := rate.New()
	for _, addr := range []int{3, 4, 5} {
		answers(t, r, addr, 10)
		fails(t, r, addr, 1)
	}
	answers(t, r, 6, 10)
	fails(t, r, 6, 2)
	answers(t, r, 7, 11)
	fails(t, r, 7, 1)
	answers(t, r, 8, 9)
	fails(t, r, 8, 2)
	picks(t, r, []int{3, 4, 5}, 3, 4, 5)
	picks(t, r, []int{5, 3, 4}, 5, 3, 4)
	picks(t, r, []int{6, 5, 7, 3, 8, 4}, 5, 3, 4)
	picks(t, r, []int{4, 8, 7, 6}, 4)
	picks(t, r, []int{6, 7, 8, 4, 3}, 4, 3)
	picks(t, r, []int{8, 6}, 8)
	picks(t, r, []int{7, 6}, 7)
}

// P16.2: addresses that nothing is known of are alike, and like those that are known to be at 0.
func TestBestUnknown(t *testing.T) {
	r := rate.New()
	picks(t, r, []int{9, 8, 7}, 9, 8, 7)
	picks(t, r, []int{-1, math.MaxInt, 0, math.MinInt}, -1, math.MaxInt, 0, math.MinInt)
	answers(t, r, 8, 0)
	picks(t, r, []int{9, 8, 7}, 9, 8, 7)
	answers(t, r, 9, 1)
	fails(t, r, 7, 1)
	picks(t, r, []int{9, 8, 7}, 8)
	picks(t, r, []int{9, 7}, 9)
	answers(t, r, 7, 0)
	picks(t, r, []int{9, 8, 7}, 8, 7)
}

// P16.2: one that stands there twice counts twice.
func TestBestTwice(t *testing.T) {
	r := rate.New()
	picks(t, r, []int{5, 5}, 5, 5)
	picks(t, r, []int{5, 6, 5}, 5, 6, 5)
	picks(t, r, []int{6, 5, 5, 5, 7}, 6, 5, 5, 5, 7)
	answers(t, r, 5, 1)
	picks(t, r, []int{5, 6, 5}, 6)
	answers(t, r, 6, 2)
	picks(t, r, []int{5, 6, 5, 6, 5}, 5, 5, 5)
}

// P16.2: what negative draws come to, as numbers from 0 to below 2^64.
func TestBestNegative(t *testing.T) {
	r := rate.New()
	for _, c := range []struct{ draw, count, want int }{
		{-1, 1, 0}, {-1, 2, 1}, {-2, 2, 0}, {-1, 3, 0}, {-2, 3, 2}, {-3, 3, 1}, {-1, 5, 0}, {-2, 5, 4}, {-1, 6, 3}, {-1, 7, 1}, {-2, 7, 0}, {-3, 7, 6},
		{-1, 10, 5}, {-6, 10, 0}, {-7, 10, 9}, {math.MinInt, 3, 2}, {math.MinInt, 10, 8}, {math.MinInt + 1, 10, 9}, {math.MaxInt, 10, 7},
	} {
		var addrs []int
		for i := range c.count {
			addrs = append(addrs, 100+i)
		}
		pick(t, r, addrs, c.draw, 100+c.want)
	}
}

// P16.2: Best changes nothing that is known, and the same draw tells the same server.
func TestBestAgain(t *testing.T) {
	r := rate.New()
	answers(t, r, 5, 8)
	fails(t, r, 6, 1)
	for range 3 {
		picks(t, r, []int{6, 5, 7, 8}, 7, 8)
	}
	knows(t, r, 5, 8, 0)
	knows(t, r, 6, 0, 1)
	knows(t, r, 7, 0, 0)
}

// Memory: the list is neither changed nor kept, nor the room behind it.
func TestBestMemory(t *testing.T) {
	r := rate.New()
	answers(t, r, 4, 1)
	room := []int{4, 6, 5, 6, 4, 99, 98, 97}
	want := slices.Clone(room)
	for draw := range 5 {
		pick(t, r, room[:5], draw, []int{6, 5, 6}[draw%3])
	}
	if !slices.Equal(room, want) {
		t.Errorf("Best has made the list and its room %v", room)
	}
	clear(room)
	picks(t, r, []int{4, 6, 5, 6, 4}, 6, 5, 6)
	picks(t, r, []int{0, 1}, 0, 1)
}
