package store

import (
	"slices"

	"moraine/api"
	"moraine/bank"
	"moraine/geo"
	"moraine/meta"
	"moraine/scan"
	"moraine/stripe"
	"moraine/super"
	"moraine/usage"
)

// anywhere stands for the address that a new block will have, where blocks are but counted: each geometry has this one.
const anywhere = 1

// lasting is what the last group that was laid tells.
type lasting struct {
	list []api.Inode
	// own are the segments that the group has for all but data.
	own []int
	// first is the Seq of the group's first segment.
	first int
}

// source tells the bytes of blocks at addresses.
type source struct {
	bank *bank.Bank
	// seqs has the Seq of the writing of each segment in use; of others nothing is told.
	seqs map[int]int
}

// group is what is to be written together.
type group struct {
	segs []int
	// blocks are, of each segment, those that stand behind its summary.
	blocks [][]api.Block
	root   int
}

// Lay makes what is there last.
func (s *Store) Lay() api.Errno {
	fresh := s.there.fresh()
	at, err := s.lay(fresh, func(at []int) []api.Inode {
		return s.there.list(func() int {
			address := at[0]
			at = at[1:]
			return address
		})
	})
	if err != api.OK {
		return err
	}
	// Not ahead of this: blocks that weren't all written stay new.
	for i, b := range fresh {
		s.there[b.Owner].file.Blocks().Place(b.Index, at[i])
	}
	return api.OK
}

// Mark tells on all disks that the last group must be there.
func (s *Store) Mark() api.Errno {
	record, _ := super.PutMark(api.Mark{Seq: s.last.first})
	if err := s.bank.Everywhere(s.markSector, record); err != api.OK {
		return err
	}
	s.markSector = firstMarkSector + secondMarkSector - s.markSector
	return s.flush()
}

// lay writes data, and the list of nodes that tells its addresses, as one group, which then lasts; it answers these addresses. Whatever fits has as many free segments as it takes.
func (s *Store) lay(data []api.Block, listAt func(at []int) []api.Inode) ([]int, api.Errno) {
	g := s.bank.Geo()
	free := usage.Free(g, s.counts(), s.last.own)
	at := addresses(g, free, len(data))
	list := listAt(at)
	begin := segments(g, len(data))
	more := addresses(g, free[begin:], meta.Count(g, list))
	end := begin + segments(g, len(more))
	blocks, _ := meta.Build(g, list, more)
	first := s.seq + 1
	err := s.write(group{
		segs:   free[:end],
		blocks: slices.Concat(parts(g, data), parts(g, blocks)),
		root:   more[len(more)-1],
	})
	if err != api.OK {
		return nil, err
	}
	s.keep(lasting{list: list, own: free[begin:end], first: first}, free[:end])
	return at, api.OK
}

// write writes a group's segments in order, and makes them last on the disks.
func (s *Store) write(w group) api.Errno {
	last := len(w.segs) - 1
	for i, seg := range w.segs {
		told := api.Summary{Count: len(w.segs), Index: i, Blocks: len(w.blocks[i])}
		if i == last {
			told.Root = w.root
		}
		summary, _ := scan.PutSummary(s.bank.Geo(), told)
		// A Seq is used as soon as it is tried: some sector may have it, even if the power goes.
		s.seq++
		if err := stripe.Write(s.bank, seg, s.seq, slices.Concat([]api.Block{summary}, w.blocks[i])); err != api.OK {
			return err
		}
	}
	return s.flush()
}

// flush makes all last that was written; ErrIO, if more slots are bad than parity makes good.
func (s *Store) flush() api.Errno {
	if err := s.bank.Flush(); err != api.OK {
		return err
	}
	if isBeyondParity(s.bank) {
		return api.ErrIO
	}
	return api.OK
}

// keep notes what lasts now that a group was written in these segments; those that nothing is in any more are no longer in use.
func (s *Store) keep(last lasting, segs []int) {
	s.last = last
	for i, seg := range segs {
		s.from.seqs[seg] = last.first + i
	}
	for _, seg := range usage.Free(s.bank.Geo(), s.counts(), last.own) {
		delete(s.from.seqs, seg)
	}
}

// counts: of each segment how many places have data that lasts.
func (s *Store) counts() []int {
	counts, _ := usage.Count(s.bank.Geo(), addressesOf(s.last.list))
	return counts
}

// fits: do nodes fit, whose blocks are new or last already?
func (s *Store) fits(ns nodes) bool {
	g := s.bank.Geo()
	fresh := 0
	list := ns.list(func() int {
		fresh++
		return anywhere
	})
	data, more := len(addressesOf(list)), meta.Count(g, list)
	dataCap, moreCap := geo.Caps(g)
	return segments(g, data) <= dataCap && segments(g, more) <= moreCap &&
		usage.Fits(g, s.counts(), len(s.last.own), fresh, more)
}

// Block: the bytes at an address.
func (f *source) Block(address int) ([]byte, api.Errno) {
	seg, place, _ := geo.Where(f.bank.Geo(), address)
	seq, isKnown := f.seqs[seg]
	if !isKnown {
		return nil, api.ErrIO
	}
	b, err := stripe.Read(f.bank, seg, place, seq)
	return b.Data, err
}

// segments: how many of them so many blocks take.
func segments(g api.Geometry, blocks int) int {
	places := geo.Places(g)
	return (blocks + places - 1) / places
}

// addresses: those of so many blocks, which fill segments one after the other.
func addresses(g api.Geometry, segs []int, blocks int) []int {
	places := geo.Places(g)
	var at []int
	for i := range blocks {
		at = append(at, geo.Address(g, segs[i/places], 1+i%places))
	}
	return at
}

// parts: blocks as they fill segments one after the other.
func parts(g api.Geometry, blocks []api.Block) [][]api.Block {
	return slices.Collect(slices.Chunk(blocks, geo.Places(g)))
}

// isBeyondParity: are more slots bad than a row's parity can make good?
func isBeyondParity(b *bank.Bank) bool {
	return len(b.Bad()) > 1
}
