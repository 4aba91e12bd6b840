package ledger

import "wagonway/api"

// Out is what is done: Posts, each behind so many Writes.
type Out struct {
	Writes []api.Record
	Posts  []api.Post
	Behind []int
}

func (o *Out) write(r api.Record) { o.Writes = append(o.Writes, r) }

// post lets a message stand behind all that was written up to now.
func (o *Out) post(to int, m api.Message) {
	o.Posts = append(o.Posts, api.Post{To: to, Msg: m})
	o.Behind = append(o.Behind, len(o.Writes))
}

// grant tells a cell's holder that it is that, by the stamp of what it asked.
func (o *Out) grant(cell int, e entry, asked uint64) {
	o.post(e.holder, api.Message{Kind: api.Grant, Cell: cell, Gen: e.gen, Stamp: asked})
}

// deny tells who asked for a cell whom it waits for, or that it does not: nobody.
func (o *Out) deny(cell int, w api.Waiter, other int) {
	o.post(w.Robot, api.Message{Kind: api.Deny, Cell: cell, Stamp: w.Stamp, Other: other})
}
