package ledger

// Kept is how many entries and queues are kept, of which no answer tells.
func (l *Ledger) Kept() (entries, queues int) { return len(l.entries), len(l.queues) }
