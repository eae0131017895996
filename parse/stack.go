package parse

// stack are things one on the other, of which the last one that was put there is at hand.
type stack[T any] struct {
	all []T
}

func (s *stack[T]) size() int {
	return len(s.all)
}

func (s *stack[T]) push(x T) {
	s.all = append(s.all, x)
}

// top is for a stack that has something. What it points to is there until the next push or pop.
func (s *stack[T]) top() *T {
	return &s.all[len(s.all)-1]
}

// pop is for a stack that has something.
func (s *stack[T]) pop() T {
	x := *s.top()
	s.all = s.all[:len(s.all)-1]
	return x
}
