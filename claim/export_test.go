package claim

import (
	"iter"

	"wagonway/api"
)

// Told is the iterator from which Of has its claims; Of always hears it to its end.
func (c *Claims) Told(home, robots int) iter.Seq[api.Claim] { return c.of(home, robots) }
