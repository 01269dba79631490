package rate_test

import (
	"math/big"
	"math/rand/v2"
	"testing"

	"cicerone/api"
	"cicerone/rate"
)

// known is what the second table knows of a server, in whole numbers.
type known struct{ ticks, failures int }

// plain is a second table, by the chapter's words.
type plain map[int]known

func (p plain) answered(addr, ticks int) api.Errno {
	if ticks < 0 || ticks > 1000 {
		return api.ErrArg
	}
	k := p[addr]
	p[addr] = known{k.ticks - k.ticks/8 + ticks, k.failures / 2}
	return api.OK
}

func (p plain) failed(addr int) {
	k := p[addr]
	if k.failures < 1000 {
		k.failures++
	}
	p[addr] = k
}

// best goes through the list once for each of the words' parts.
func (p plain) best(addrs []int, draw int) (int, bool) {
	if len(addrs) == 0 {
		return 0, false
	}
	failures := p[addrs[0]].failures
	for _, addr := range addrs {
		failures = min(failures, p[addr].failures)
	}
	var few []int
	for _, addr := range addrs {
		if p[addr].failures == failures {
			few = append(few, addr)
		}
	}
	ticks := p[few[0]].ticks
	for _, addr := range few {
		ticks = min(ticks, p[addr].ticks)
	}
	var alike []int
	for _, addr := range few {
		if p[addr].ticks == ticks {
			alike = append(alike, addr)
		}
	}
	number := big.NewInt(int64(draw))
	if draw < 0 {
		number.Add(number, new(big.Int).Lsh(big.NewInt(1), 64))
	}
	number.Rem(number, big.NewInt(int64(len(alike))))
	return alike[number.Int64()], true
}

// drawnTicks is ticks of an answer: often few, so that servers become alike, seldom wrong.
func drawnTicks(r *rand.Rand) int {
	return []int{r.IntN(3), r.IntN(3), r.IntN(10), r.IntN(1001), 1000, 1001 + r.IntN(9), -1 - r.IntN(9)}[r.IntN(7)]
}

// drawnDraw is a draw of any size and sign.
func drawnDraw(r *rand.Rand) int {
	return int(r.Uint64()) >> r.IntN(64)
}

// step makes a drawn call of both tables, and compares what they answer.
func step(t *testing.T, r *rand.Rand, table *rate.Table, p plain, servers int) {
	t.Helper()
	addr := r.IntN(servers)
	switch r.IntN(4) {
	case 0:
		ticks := drawnTicks(r)
		if e, want := table.Answered(addr, ticks), p.answered(addr, ticks); e != want {
			t.Fatalf("Answered(%d, %d) is %d, not %d", addr, ticks, e, want)
		}
	case 1:
		if e := table.Failed(addr); e != api.OK {
			t.Fatalf("Failed(%d) is %d", addr, e)
		}
		p.failed(addr)
	default:
		var addrs []int
		for range r.IntN(2 * servers) {
			addrs = append(addrs, r.IntN(servers+1))
		}
		draw := drawnDraw(r)
		got, ok := table.Best(addrs, draw)
		if want, there := p.best(addrs, draw); got != want || ok != there {
			t.Fatalf("Best(%v, %d) is %d, %t, not %d, %t", addrs, draw, got, ok, want, there)
		}
	}
}

// P16.1, P16.2: drawn calls, held against the second table.
func TestDrawn(t *testing.T) {
	r := rand.New(rand.NewPCG(16, 1))
	for range 300 {
		table, p := rate.New(), plain{}
		servers := 1 + r.IntN(12)
		for range 300 {
			step(t, r, table, p, servers)
			for addr := range servers + 1 {
				knows(t, table, addr, float64(p[addr].ticks), float64(p[addr].failures))
			}
		}
	}
}

// P16.3: of drawn answers and failures none brings the real part above 8000, and no answer makes the imaginary part greater.
func TestBounds(t *testing.T) {
	r := rand.New(rand.NewPCG(16, 3))
	for range 100 {
		table := rate.New()
		failures := r.IntN(4)
		for range 400 {
			was := table.Of(5)
			if r.IntN(4) < failures {
				fails(t, table, 5, r.IntN(30))
			} else if answers(t, table, 5, 1000-r.IntN(1<<r.IntN(10))); imag(table.Of(5)) > imag(was) {
				t.Fatalf("an answer has made %v of %v", table.Of(5), was)
			}
			if now := table.Of(5); real(now) > 8000 || imag(now) > 1000 || real(now) < 0 || imag(now) < 0 {
				t.Fatalf("of %v came %v", was, now)
			}
		}
	}
}

// Ends: many servers, and a long list of them.
func TestMany(t *testing.T) {
	const many = 200000
	r := rate.New()
	var addrs []int
	for addr := range many {
		answers(t, r, addr, addr%3)
		addrs = append(addrs, addr)
	}
	pick(t, r, addrs, 0, 0)
	pick(t, r, addrs, 1, 3)
	pick(t, r, addrs, many/3, many-2)
	pick(t, r, addrs, many/3+1, 0)
	knows(t, r, many-1, (many-1)%3, 0)
	for range many {
		r.Failed(0)
		r.Answered(1, 1000)
	}
	knows(t, r, 0, 0, 1000)
	knows(t, r, 1, 8000, 0)
}
