package ready

import (
	"slices"

	"folkmoot/api"
	"folkmoot/stamp"
)

// queue is the commands whose writes are known, in the order in which they may be done.
type queue struct {
	free    []api.Stamp               // those that nothing blocks, rising
	lack    map[api.Stamp]int         // how many block an Id still
	waiting map[api.Stamp][]api.Stamp // whom an Id blocks
}

func queueOf(v view) *queue {
	q := &queue{lack: map[api.Stamp]int{}, waiting: map[api.Stamp][]api.Stamp{}}
	for _, c := range v.cmds {
		if isDue(c) && c.Ready {
			q.add(c.Id, v.blockers(c))
		}
	}
	return q
}

func (q *queue) add(id api.Stamp, blockers []api.Stamp) {
	if len(blockers) == 0 {
		q.enter(id)
		return
	}
	q.lack[id] = len(blockers)
	for _, b := range blockers {
		q.waiting[b] = append(q.waiting[b], id)
	}
}

// enter puts an Id at its place among those that nothing blocks.
func (q *queue) enter(id api.Stamp) {
	place, _ := slices.BinarySearchFunc(q.free, id, stamp.Compare)
	q.free = slices.Insert(q.free, place, id)
}

// take takes the least Id away of those that nothing blocks.
func (q *queue) take() api.Stamp {
	id := q.free[0]
	q.free = q.free[1:]
	return id
}

// release is told that an Id is done. To be done is all that may end a wait here: what else is known stays.
func (q *queue) release(id api.Stamp) {
	for _, waiter := range q.waiting[id] {
		q.lack[waiter]--
		if q.lack[waiter] == 0 {
			q.enter(waiter)
		}
	}
}
