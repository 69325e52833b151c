package nodes

// Crashed is the number of a node that gives up, by panic, in the middle of what it does.
type Crashed int

// fuse crashes a node that has done so many acts more; none is there, unless it burns.
type fuse struct {
	burns bool
	acts  int
}

// Up tells whether a node is up; there must be such a node.
func (n *Nodes) Up(node int) bool {
	return !n.all[node].down
}

// Crash lets a node crash, which nothing but its log outlives; there must be such a node.
func (n *Nodes) Crash(node int) {
	n.all[node].down = true
	n.all[node].fuse = fuse{}
	if node == Coordinator {
		n.noted = votes{}
	}
}

// Fuse lets a node crash when it has done so many acts more; there must be such a node, and it must be up.
func (n *Nodes) Fuse(node int, acts int) {
	n.all[node].fuse = fuse{burns: true, acts: acts}
}

// burn comes ahead of each act: where it crashes the node, the panic keeps the act, and all behind it, from being done.
func (n *Nodes) burn(node int) {
	fuse := &n.all[node].fuse
	if !fuse.burns {
		return
	}
	if fuse.acts == 0 {
		n.Crash(node)
		panic(Crashed(node))
	}
	fuse.acts--
}

// Recover lets a node come up again; it must be down. The votes that the coordinator had noted are lost, so that it can't commit what it has begun any more.
func (n *Nodes) Recover(node int) {
	n.all[node].down = false
	if node == Coordinator {
		n.giveUpAll()
	}
}
