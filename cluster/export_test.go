package cluster

import (
	"slices"

	"postroad/vdisk"
)

// Messages are the bytes of those that are under way: a script sees only how many they are.
func (c *Cluster) Messages() []string { return slices.Clone(c.under.texts) }

// Disk is a node's.
func (c *Cluster) Disk(node int) *vdisk.Disk { return c.disks[node] }

// MostRefused is how many errors let a client ask again in a step.
const MostRefused = mostRefused
