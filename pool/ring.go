package pool

// ring is slots that a hand goes round.
type ring[T any] struct {
	slots []T
	hand  int // the slot that it stands at
}

// seek is how many steps from the hand on the first slot stands that fits, in two rounds at most; again tells the second one. The hand stays, so that whoever can't go on has changed nothing.
func (r *ring[T]) seek(fits func(t T, again bool) bool) (int, bool) {
	n := len(r.slots)
	for step := range 2 * n {
		if fits(r.ahead(step), step >= n) {
			return step, true
		}
	}
	return 0, false
}

// ahead is what is in the slot so many steps from the hand on.
func (r *ring[T]) ahead(steps int) T {
	return r.slots[(r.hand+steps)%len(r.slots)]
}

// turn moves the hand so many steps on; what it goes by is told.
func (r *ring[T]) turn(steps int, by func(T)) {
	for range steps {
		by(r.slots[r.hand])
		r.hand = (r.hand + 1) % len(r.slots)
	}
}

// swap puts a thing into the slot that the hand stands at, moves it on, and tells what was there.
func (r *ring[T]) swap(t T) T {
	was := r.slots[r.hand]
	r.slots[r.hand] = t
	r.hand = (r.hand + 1) % len(r.slots)
	return was
}

// add puts a thing into a new slot, the last one.
func (r *ring[T]) add(t T) {
	r.slots = append(r.slots, t)
}
