package cache

import (
	"container/heap"
)

// fewest is how many misses one set has, if each time that line goes out which is used again latest: no other choice has less.
func fewest(lines []int, room int) int {
	again := nextUses(lines)
	inside := map[int]bool{}
	var out queue
	many := 0
	for now, line := range lines {
		if !inside[line] {
			many++
			if len(inside) == room {
				latest, _ := heap.Pop(&out).(future)
				delete(inside, latest.line)
			}
			inside[line] = true
		}
		// What is known of the line from before stays in the queue, but behind all lines that are held, as its time is over.
		heap.Push(&out, future{line: line, next: again[now]})
	}
	return many
}

// nextUses are, for each time, when its line is used again; if it never is, that is behind all times.
func nextUses(lines []int) []int {
	l := make([]int, len(lines))
	next := map[int]int{}
	for now := len(lines) - 1; now >= 0; now-- {
		at, known := next[lines[now]]
		if !known {
			at = len(lines)
		}
		l[now] = at
		next[lines[now]] = now
	}
	return l
}

// future is when a line is used next.
type future struct{ line, next int }

// queue is a heap, from which that line comes first which is used latest.
type queue []future

func (q queue) Len() int { return len(q) }

func (q queue) Less(i, j int) bool { return q[i].next > q[j].next }

func (q queue) Swap(i, j int) { q[i], q[j] = q[j], q[i] }

// Push and Pop are for package heap, which moves what they add and take away.
func (q *queue) Push(x any) {
	if f, is := x.(future); is {
		*q = append(*q, f)
	}
}

func (q *queue) Pop() any {
	last := len(*q) - 1
	f := (*q)[last]
	*q = (*q)[:last]
	return f
}
