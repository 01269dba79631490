package rate_test

import (
	"math"
	"testing"

	"cicerone/api"
	"cicerone/rate"
)

// The chapter's example: Answered(5, 8): 8; Answered(5, 8): 15; Failed(5): 15 and 1i.
func TestExample(t *testing.T) {
	r := rate.New()
	answers(t, r, 5, 8)
	knows(t, r, 5, 8, 0)
	answers(t, r, 5, 8)
	knows(t, r, 5, 15, 0)
	fails(t, r, 5, 1)
	knows(t, r, 5, 15, 1)
}

// P16.1: at first 0, and nothing but answers and failures makes it something else.
func TestUnknown(t *testing.T) {
	r := rate.New()
	if r == nil {
		t.Fatal("New is nil")
	}
	for range 2 {
		for _, addr := range anywhere {
			knows(t, r, addr, 0, 0)
			pick(t, r, []int{addr, 77}, 0, addr)
		}
	}
	answers(t, r, 6, 3)
	fails(t, r, 6, 2)
	for _, addr := range anywhere {
		knows(t, r, addr, 0, 0)
	}
}

// P16.1: an answer takes away the whole part of an eighth of the real part, and adds its ticks.
func TestAnswered(t *testing.T) {
	for _, c := range []struct {
		before, ticks int
		after         float64
	}{
		{0, 0, 0}, {0, 1, 1}, {0, 1000, 1000}, {1, 0, 1}, {7, 0, 7}, {7, 5, 12}, {8, 0, 7}, {8, 1, 8}, {9, 0, 8},
		{15, 0, 14}, {15, 1, 15}, {16, 0, 14}, {17, 2, 17}, {23, 0, 21}, {24, 0, 21}, {63, 0, 56}, {64, 0, 56}, {65, 0, 57},
		{100, 100, 188}, {799, 1, 701}, {800, 1, 701}, {999, 1000, 1875}, {1000, 0, 875}, {1000, 1000, 1875},
	} {
		r := rate.New()
		answers(t, r, 5, c.before)
		knows(t, r, 5, float64(c.before), 0)
		answers(t, r, 5, c.ticks)
		knows(t, r, 5, c.after, 0)
	}
}

// P16.1: the real part behind answers of no ticks goes down to 7, and stays.
func TestAnsweredAtOnce(t *testing.T) {
	r := rate.New()
	answers(t, r, 5, 40)
	for _, want := range []float64{35, 31, 28, 25, 22, 20, 18, 16, 14, 13, 12, 11, 10, 9, 8, 7, 7, 7, 7} {
		answers(t, r, 5, 0)
		knows(t, r, 5, want, 0)
	}
}

// P16.1: ticks at and beyond the ends of what they may be; with an error nothing has changed.
func TestAnsweredTicks(t *testing.T) {
	r := rate.New()
	answers(t, r, 5, 0)
	knows(t, r, 5, 0, 0)
	answers(t, r, 5, 1000)
	knows(t, r, 5, 1000, 0)
	fails(t, r, 5, 3)
	for _, ticks := range []int{-1, 1001, -2, 1002, -1000, 2000, 1 << 16, 1 << 32, 1<<32 + 1, -1 << 32, math.MaxInt, math.MinInt} {
		for _, addr := range []int{5, 6} {
			if e := r.Answered(addr, ticks); e != api.ErrArg {
				t.Errorf("Answered(%d, %d) is %d", addr, ticks, e)
			}
		}
		knows(t, r, 5, 1000, 3)
		knows(t, r, 6, 0, 0)
	}
	pick(t, r, []int{5, 6}, 0, 6)
}

// P16.1: a failure counts in the imaginary part alone.
func TestFailed(t *testing.T) {
	r := rate.New()
	for i := range 20 {
		fails(t, r, 5, 1)
		knows(t, r, 5, 0, float64(i+1))
	}
	answers(t, r, 6, 33)
	fails(t, r, 6, 4)
	knows(t, r, 6, 33, 4)
	knows(t, r, 5, 0, 20)
}

// P16.1: the imaginary part is at most 1000, and an answer halves it.
func TestFailedMost(t *testing.T) {
	r := rate.New()
	answers(t, r, 5, 9)
	fails(t, r, 5, 998)
	knows(t, r, 5, 9, 998)
	for _, want := range []float64{999, 1000, 1000, 1000} {
		fails(t, r, 5, 1)
		knows(t, r, 5, 9, want)
	}
	fails(t, r, 5, 3000)
	knows(t, r, 5, 9, 1000)
	for _, want := range []float64{500, 250, 125, 62, 31, 15, 7, 3, 1, 0, 0} {
		answers(t, r, 5, 1)
		knows(t, r, 5, 9, want)
	}
	fails(t, r, 5, 1001)
	knows(t, r, 5, 9, 1000)
}

// P16.1: an answer halves what failures there are, and takes the whole part.
func TestHalved(t *testing.T) {
	for failures := range 1001 {
		r := rate.New()
		fails(t, r, 5, failures)
		answers(t, r, 5, 6)
		knows(t, r, 5, 6, float64(failures/2))
	}
}

// P16.1: answers and failures in turn.
func TestInTurn(t *testing.T) {
	r := rate.New()
	for _, c := range []struct {
		ticks          int
		took, failures float64
	}{
		{-1, 0, 1}, {-1, 0, 2}, {10, 10, 1}, {-1, 10, 2}, {-1, 10, 3}, {-1, 10, 4}, {-1, 10, 5}, {20, 29, 2}, {1000, 1026, 1}, {0, 898, 0}, {-1, 898, 1}, {7, 793, 0},
	} {
		if c.ticks < 0 {
			fails(t, r, 9, 1)
		} else {
			answers(t, r, 9, c.ticks)
		}
		knows(t, r, 9, c.took, c.failures)
	}
}

// P16.1: servers are known each by itself, whatever number their addresses are.
func TestServers(t *testing.T) {
	r := rate.New()
	for i, addr := range anywhere {
		answers(t, r, addr, 100+i)
		fails(t, r, addr, i)
	}
	for i, addr := range anywhere {
		knows(t, r, addr, float64(100+i), float64(i))
	}
	answers(t, r, 5, 0)
	for i, addr := range anywhere {
		if addr != 5 {
			knows(t, r, addr, float64(100+i), float64(i))
		}
	}
	knows(t, r, 5, 102-12, 1)
}

// P16.3: the real part is never above 8000, which it comes to, and at which it stays.
func TestMostTicks(t *testing.T) {
	r := rate.New()
	was := 0.0
	for i := range 3000 {
		answers(t, r, 5, 1000)
		now := real(r.Of(5))
		if now > 8000 || now < was || i < 30 && now == was {
			t.Fatalf("behind %d answers the real part is %v, ahead of the last one %v", i+1, now, was)
		}
		was = now
	}
	knows(t, r, 5, 8000, 0)
	answers(t, r, 5, 1000, 1000)
	knows(t, r, 5, 8000, 0)
	answers(t, r, 5, 999)
	knows(t, r, 5, 7999, 0)
	answers(t, r, 5, 1000)
	knows(t, r, 5, 8000, 0)
	answers(t, r, 5, 0)
	knows(t, r, 5, 7000, 0)
}

// Objects: a nil table, and one that no call made.
func TestNoTable(t *testing.T) {
	made := rate.New()
	answers(t, made, 5, 8)
	*made = rate.Table{}
	for _, r := range []*rate.Table{nil, {}, new(rate.Table), made} {
		for _, ticks := range []int{0, 8, 1000, -1, 1001, math.MinInt, math.MaxInt} {
			if e := r.Answered(5, ticks); e != api.ErrNil {
				t.Errorf("Answered(5, %d) is %d", ticks, e)
			}
		}
		if e := r.Failed(5); e != api.ErrNil {
			t.Errorf("Failed(5) is %d", e)
		}
		if k := r.Of(5); k != 0 {
			t.Errorf("Of(5) is %v", k)
		}
		for _, addrs := range [][]int{nil, {}, {5}, {5, 6, 5}} {
			if addr, ok := r.Best(addrs, 1); addr != 0 || ok {
				t.Errorf("Best(%v, 1) is %d, %t", addrs, addr, ok)
			}
		}
	}
}

// From arguments alone: tables know nothing of one another.
func TestTwoTables(t *testing.T) {
	a, b := rate.New(), rate.New()
	answers(t, a, 5, 8)
	fails(t, a, 6, 1)
	knows(t, b, 5, 0, 0)
	knows(t, b, 6, 0, 0)
	answers(t, b, 5, 20)
	knows(t, a, 5, 8, 0)
	knows(t, b, 5, 20, 0)
	picks(t, a, []int{6, 5}, 5)
	picks(t, b, []int{6, 5}, 6)
}
