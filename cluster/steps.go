package cluster

import (
	"postroad/api"
	"postroad/wire"
)

// doings are what the steps of each kind do.
func (c *Cluster) doings() map[int]func(api.Step) {
	return map[int]func(api.Step){
		api.StepSubmit:  c.submit,
		api.StepDeliver: c.deliver,
		api.StepDrop:    c.drop,
		api.StepTwice:   c.double,
		api.StepTick:    c.tick,
		api.StepClient:  c.tickClient,
		api.StepCrash:   c.crash,
		api.StepStart:   c.start,
		api.StepCompact: c.compact,
		api.StepFetch:   c.fetch,
	}
}

// mayBe tells whether a step of one of the kinds has numbers and records that may be.
func (c *Cluster) mayBe(s api.Step) bool {
	switch s.Kind {
	case api.StepSubmit:
		return c.isClient(s.At) && len(s.Records) <= api.MaxRecords
	case api.StepClient:
		return c.isClient(s.At)
	case api.StepDeliver:
		return s.N >= 0 && s.Max >= 0
	case api.StepDrop, api.StepTwice:
		return s.N >= 0
	case api.StepFetch:
		return c.isNode(s.At) && s.N >= 0 && s.Max >= 0
	}
	return c.isNode(s.At)
}

// checkPower refuses a step of a node that does not run, and the start of one that does.
func (c *Cluster) checkPower(s api.Step) api.Errno {
	switch s.Kind {
	case api.StepStart:
		if c.Runs(s.At) {
			return api.ErrArg
		}
	case api.StepTick, api.StepCrash, api.StepCompact, api.StepFetch:
		if !c.Runs(s.At) {
			return api.ErrDown
		}
	}
	return api.OK
}

func (c *Cluster) submit(s api.Step) {
	k := c.clients[s.At]
	waited := k.waits()
	k.give(s.Records)
	if !waited {
		c.ask(k)
	}
}

// deliver ends where nothing is under way any more: nodes do not send without end unless a clock ticks, nor do clients that ask late.
func (c *Cluster) deliver(s api.Step) {
	for i := 0; c.under.len() > 0; i++ {
		c.arrive(c.under.take(s.N))
		if i == s.Max {
			break
		}
	}
	c.askLate()
}

// arrive lets a message arrive; at a node that does not run it is lost.
func (c *Cluster) arrive(s string) {
	m, e := wire.Of(s)
	if e != api.OK {
		return
	}
	if number := m.To - firstClient; c.isClient(number) {
		c.answered(c.clients[number], m)
		return
	}
	if n := c.running(m.To); n != nil {
		c.under.send(n.Receive(s)...)
	}
}

func (c *Cluster) drop(s api.Step) {
	if c.under.len() > 0 {
		c.under.take(s.N)
	}
}

func (c *Cluster) double(s api.Step) {
	if c.under.len() > 0 {
		c.under.send(c.under.at(s.N))
	}
}

func (c *Cluster) tick(s api.Step) {
	c.under.send(c.nodes[s.At].Tick()...)
}

func (c *Cluster) tickClient(s api.Step) {
	k := c.clients[s.At]
	if k.waits() {
		k.doubt()
		c.ask(k)
	}
}

func (c *Cluster) crash(s api.Step) {
	c.nodes[s.At] = nil
	c.disks[s.At].Crash(s.Keep)
}

func (c *Cluster) start(s api.Step) {
	c.power(s.At)
}

// compact does not tell how many records were dropped, nor that the disk had no room: the step is done all the same.
func (c *Cluster) compact(s api.Step) {
	c.nodes[s.At].Compact()
}

func (c *Cluster) fetch(s api.Step) {
	l, e := c.nodes[s.At].Fetch(s.N, s.Max)
	c.fetched = append(c.fetched, api.Fetched{Step: c.steps, At: s.At, From: s.N, Err: e, Records: l})
}
