package cache

// never is the distance of a line that was never used before.
const never = -1

// distances are how many other lines were used since each one was used last.
func distances(lines []int) []int {
	var l []int
	last := map[int]int{}           // when each line was used last
	ends := make(marks, len(lines)) // of these times
	for now, line := range lines {
		before, known := last[line]
		if known {
			l = append(l, len(last)-ends.upTo(before))
			ends.add(before, -1)
		} else {
			l = append(l, never)
		}
		ends.add(now, 1)
		last[line] = now
	}
	return l
}

// curve is, from distances, how many misses a cache of one set with 1, 2, up to most ways has.
func curve(distances []int, most int) []int {
	l := make([]int, most)
	for _, d := range distances {
		ways := most // up to which it misses
		if d != never {
			ways = min(d, most)
		}
		if ways > 0 {
			l[ways-1]++
		}
	}
	for i := most - 2; i >= 0; i-- {
		l[i] += l[i+1]
	}
	return l
}

// marks are how many marks there are at each of some times, in sums (a Fenwick tree): so marks are added and counted in few steps. The sum with the number n (from 1 on) is that of as many times as the lowest bit of n tells, up to n - 1.
type marks []int

func (m marks) add(time, many int) {
	for n := time + 1; n <= len(m); n += n & -n {
		m[n-1] += many
	}
}

// upTo is how many marks there are up to a time.
func (m marks) upTo(time int) int {
	sum := 0
	for n := time + 1; n > 0; n -= n & -n {
		sum += m[n-1]
	}
	return sum
}
