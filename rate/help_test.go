package rate_test

import (
	"math"
	"slices"
	"testing"

	"cicerone/api"
	"cicerone/rate"
)

// anywhere are addresses, those among them that no connection can have.
var anywhere = []int{0, 1, 5, -1, -5, 1<<32 - 1, 1 << 32, 1<<32 + 5, 1 << 40, math.MaxInt, math.MinInt}

// answers tells of answers of a server.
func answers(t *testing.T, r *rate.Table, addr int, ticks ...int) {
	t.Helper()
	for _, n := range ticks {
		if e := r.Answered(addr, n); e != api.OK {
			t.Errorf("Answered(%d, %d) is %d", addr, n, e)
		}
	}
}

// fails tells of so many failures of a server.
func fails(t *testing.T, r *rate.Table, addr, times int) {
	t.Helper()
	for range times {
		if e := r.Failed(addr); e != api.OK {
			t.Errorf("Failed(%d) is %d", addr, e)
		}
	}
}

// knows asks for what is known of a server.
func knows(t *testing.T, r *rate.Table, addr int, ticks, failures float64) {
	t.Helper()
	if k := r.Of(addr); k != complex(ticks, failures) {
		t.Errorf("Of(%d) is %v, not %v and %vi", addr, k, ticks, failures)
	}
}

// picks asks which servers the draws from 0 on tell, and that these begin anew behind the last one; negative draws count as numbers near 2^64.
func picks(t *testing.T, r *rate.Table, addrs []int, want ...int) {
	t.Helper()
	was := slices.Clone(addrs)
	count := len(want)
	for draw := range 3*count + 2 {
		pick(t, r, addrs, draw, want[draw%count])
	}
	for _, draw := range []int{1 << 31, 1<<32 + 1, math.MaxInt - 1, math.MaxInt} {
		pick(t, r, addrs, draw, want[draw%count])
	}
	for draw := 1; draw <= 3*count+2; draw++ {
		pick(t, r, addrs, -draw, want[place(draw, count)])
	}
	// 2^63 is the remainder of 2^64 - 2^63.
	half := (math.MaxInt%count + 1) % count
	pick(t, r, addrs, math.MinInt, want[half])
	if !slices.Equal(addrs, was) {
		t.Errorf("Best has made the list %v of %v", addrs, was)
	}
}

// place is the remainder of 2^64 - draw by count, reckoned in steps: 2^64 is twice 2^32 times 2^31.
func place(draw, count int) int {
	power := (1 << 32 % count) * (1 << 32 % count) % count
	return ((power-draw)%count + count) % count
}

// pick asks which server a draw tells.
func pick(t *testing.T, r *rate.Table, addrs []int, draw, want int) {
	t.Helper()
	if addr, ok := r.Best(addrs, draw); addr != want || !ok {
		t.Errorf("Best(%.100v, %d) is %d, %t, not %d", addrs, draw, addr, ok, want)
	}
}
