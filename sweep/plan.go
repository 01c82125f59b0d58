package sweep

import "slices"

// Plan is at which allocations a collection is forced.
type Plan struct {
	count int
	ahead []int // the numbers that are still to come, rising, each once
}

// Force is a plan.
func Force(at []int) *Plan {
	var ahead []int
	for _, number := range at {
		if number >= 1 {
			ahead = append(ahead, number)
		}
	}
	slices.Sort(ahead)
	return &Plan{ahead: slices.Compact(ahead)}
}

// Tick counts an allocation; it tells whether a collection is forced ahead of it.
func (p *Plan) Tick() bool {
	if p == nil {
		return false
	}
	p.count++
	if len(p.ahead) == 0 || p.ahead[0] != p.count {
		return false
	}
	p.ahead = p.ahead[1:]
	return true
}

// Count is how many allocations there were.
func (p *Plan) Count() int {
	if p == nil {
		return 0
	}
	return p.count
}
