package deps

// set is things, each once: to be asked often, however many they are.
type set[T comparable] map[T]struct{}

func setOf[T comparable](l ...T) set[T] {
	s := set[T]{}
	for _, x := range l {
		s[x] = struct{}{}
	}
	return s
}

func (s set[T]) has(x T) bool {
	_, has := s[x]
	return has
}
