package huff

import "container/heap"

// mostFrequency is the greatest frequency that there may be.
const mostFrequency = 1 << 40

// parcel is one step of a symbol, or two parcels that are bound together (see cheapest).
type parcel struct {
	cost   int
	symbol int
	parts  []*parcel
}

// queue holds parcels: heap takes the one that costs least.
type queue []*parcel

// Len, Less, Swap, Push and Pop are what heap asks for.
func (q queue) Len() int { return len(q) }

func (q queue) Less(i, j int) bool { return q[i].cost < q[j].cost }

func (q queue) Swap(i, j int) { q[i], q[j] = q[j], q[i] }

func (q *queue) Push(x any) { *q = append(*q, x.(*parcel)) }

func (q *queue) Pop() any {
	last := len(*q) - 1
	p := (*q)[last]
	*q = (*q)[:last]
	return p
}

// put adds parcels.
func (q *queue) put(l []*parcel) {
	for _, p := range l {
		heap.Push(q, p)
	}
}

// take is the parcel that costs least, which is gone then.
func (q *queue) take() *parcel {
	return heap.Pop(q).(*parcel)
}

// mayBe tells whether lengths can be asked for.
func mayBe(freq []int, limit int) bool {
	if limit < 1 || limit > mostSize || len(freq) > mostSymbols {
		return false
	}
	for _, f := range freq {
		if f < 0 || f > mostFrequency {
			return false
		}
	}
	return true
}

// singles are parcels of one step each, of the symbols that are to have a code.
func singles(freq []int) []*parcel {
	var l []*parcel
	for symbol, f := range freq {
		if f > 0 {
			l = append(l, &parcel{cost: f, symbol: symbol})
		}
	}
	return l
}

// cheapest are the parcels that hold as many steps of each symbol as its code is to have bits, so that all cost least.
//
// A code of n bits takes the steps 1 to n, step k of which weighs 2 to the power of -k: all of them weigh 1 less 2 to the
// power of -n. So lengths make a code just if the steps of all symbols weigh one less than there are symbols. Two deepest
// steps weigh as much as one of the step above: they are bound together, those that cost least first, and the pairs
// stand beside the steps there, and so on up; each pair of the first step weighs 1. (No symbol's step is taken without
// the one above: that one could be taken for it, which weighs more, so that something else could be spared.)
func cheapest(l []*parcel, limit int) []*parcel {
	var bound []*parcel
	for range limit {
		bound = pairs(l, bound)
	}
	return bound[:max(len(l)-1, 0)]
}

// pairs binds parcels two by two, those that cost least first; one that is left is never needed.
func pairs(l, bound []*parcel) []*parcel {
	var q queue
	q.put(l)
	q.put(bound)
	var two []*parcel
	for q.Len() > 1 {
		a, b := q.take(), q.take()
		two = append(two, &parcel{cost: a.cost + b.cost, parts: []*parcel{a, b}})
	}
	return two
}

// count adds the steps of a parcel to the symbols' lengths.
func (p *parcel) count(lens []uint8) {
	if len(p.parts) == 0 {
		lens[p.symbol]++
	}
	for _, part := range p.parts {
		part.count(lens)
	}
}
