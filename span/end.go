package span

// end is where a span ends: the texts below it lie ahead of it. The end "" is behind all texts.
type end string

// above tells whether a text lies ahead of the end.
func (e end) above(text string) bool { return e == "" || text < string(e) }

// reaches tells whether nothing lies between the end and a text that is not above it.
func (e end) reaches(text string) bool { return e.above(text) || text == string(e) }

// behind tells whether the end is behind another one.
func (e end) behind(other end) bool { return other != "" && e.above(string(other)) }

// sooner is the one of two ends that is not behind the other one.
func (e end) sooner(other end) end {
	if e.behind(other) {
		return other
	}
	return e
}

// later is the one of two ends that the other one is not behind.
func (e end) later(other end) end {
	if e.behind(other) {
		return e
	}
	return other
}
