package link

// SentUpTo is as if all numbers up to one were sent and acknowledged: to send them one by one would take too long near the greatest.
func (l *Link) SentUpTo(last uint32) { l.sent = last }

// Early is how many messages are kept that came early, of which no answer tells.
func (l *Link) Early() int { return len(l.early) }
