package sess

// queue has things in the order in which they came. None of its calls writes into one that is there, so that a copy of it goes on apart.
type queue[T any] []T

// with is the queue with one thing more, as its last one.
func (q queue[T]) with(thing T) queue[T] {
	return append(q, thing).cut()
}

// rest is what is left of the queue without its first n things. It lies anew, so that nobody holds what has gone.
func (q queue[T]) rest(n int) queue[T] {
	return append(queue[T](nil), q[n:]...).cut()
}

// cut is the queue with nothing behind it: else two copies of it would put their next thing in the same place.
func (q queue[T]) cut() queue[T] {
	return q[:len(q):len(q)]
}
