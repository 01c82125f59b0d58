package slots

// lowest is the numbers of the free slots, as a heap: they are freed in any
// order, and the lowest one is wanted.
type lowest []int

func (l lowest) Len() int { return len(l) }

func (l lowest) Less(i, j int) bool { return l[i] < l[j] }

func (l lowest) Swap(i, j int) { l[i], l[j] = l[j], l[i] }

// Push and Pop are for container/heap, which puts what they lay and take at
// the end into its place.
func (l *lowest) Push(number any) { *l = append(*l, number.(int)) }

func (l *lowest) Pop() any {
	last := len(*l) - 1
	number := (*l)[last]
	*l = (*l)[:last]
	return number
}
