package tests

// Promise 9 (chapter 8): a buffer that agrees translates as the tables do, and working sets have the faults that gaps tell.

import (
	"fmt"
	"maps"
	"math"
	"slices"
	"testing"

	"loop.example/g01112/impl"
)

// toldSpace is what a space says: the numbers of Root that have tables, in the order of the tables, the entries of the mapped
// pages, and the buffer.
type toldSpace struct {
	places  []int64
	entries map[int64]impl.Entry
	buffer  []impl.Cached
}

// space writes the space down as the document has it.
func (m toldSpace) space() impl.Space {
	s := impl.Space{Root: repeated(-1, 8), Buffer: slices.Clone(m.buffer)}
	for i, place := range m.places {
		s.Root[place] = int64(i)
		table := make([]impl.Entry, 8)
		for j := range table {
			table[j].Frame = -1
			if e, ok := m.entries[8*place+int64(j)]; ok {
				table[j] = e
			}
		}
		s.Tables = append(s.Tables, table)
	}
	return s
}

// copied returns a copy that shares no memory.
func (m toldSpace) copied() toldSpace {
	entries := map[int64]impl.Entry{}
	maps.Copy(entries, m.entries)
	return toldSpace{slices.Clone(m.places), entries, slices.Clone(m.buffer)}
}

// mapPage does what the document tells about MapPage.
func (m *toldSpace) mapPage(page, frame int64, writes bool) bool {
	if _, isMapped := m.entries[page]; page < 0 || page > 63 || frame < 0 || frame > 15 || isMapped {
		return false
	}
	for _, e := range m.entries {
		if e.Frame == frame {
			return false
		}
	}
	if !slices.Contains(m.places, page/8) {
		m.places = append(m.places, page/8)
	}
	m.entries[page] = impl.Entry{Frame: frame, Writes: writes}
	return true
}

// unmapPage does what the document tells about UnmapPage.
func (m *toldSpace) unmapPage(page int64) bool {
	_, isMapped := m.entries[page]
	delete(m.entries, page)
	return isMapped
}

// protectPage does what the document tells about ProtectPage.
func (m *toldSpace) protectPage(page int64, writes bool) bool {
	e, isMapped := m.entries[page]
	if isMapped {
		m.entries[page] = impl.Entry{Frame: e.Frame, Writes: writes, Used: e.Used, Dirty: e.Dirty}
	}
	return isMapped
}

// flushPage does what the document tells about FlushPage.
func (m *toldSpace) flushPage(page int64) bool {
	var rest []impl.Cached
	for _, c := range m.buffer {
		if c.Page != page {
			rest = append(rest, c)
		}
	}
	m.buffer = rest
	return page >= 0 && page <= 63
}

// usePage does what the document tells about UsePage, and returns the outcome and the frame.
func (m *toldSpace) usePage(kind, page int64) (int64, int64) {
	outcome, c := int64(0), impl.Cached{}
	e, isMapped := m.entries[page]
	if at := slices.IndexFunc(m.buffer, func(c impl.Cached) bool { return c.Page == page }); at >= 0 {
		c = m.buffer[at]
		m.flushPage(page)
		m.buffer = append([]impl.Cached{c}, m.buffer...)
		if kind == 1 && !c.Writes {
			return 3, -1
		}
	} else {
		if !isMapped {
			return 2, -1
		}
		if kind == 1 && !e.Writes {
			return 3, -1
		}
		outcome, c = 1, impl.Cached{Page: page, Frame: e.Frame, Writes: e.Writes}
		m.buffer = append([]impl.Cached{c}, m.buffer...)
		m.buffer = m.buffer[:min(len(m.buffer), 4)]
	}
	if isMapped {
		m.entries[page] = impl.Entry{Frame: e.Frame, Writes: e.Writes, Used: true, Dirty: e.Dirty || kind == 1}
	}
	return outcome, c.Frame
}

// clearUsed does what the document tells about ClearUsed.
func (m *toldSpace) clearUsed() {
	for page, e := range m.entries {
		if !e.Dirty {
			m.entries[page] = impl.Entry{Frame: e.Frame, Writes: e.Writes}
		}
	}
}

// agrees does what the document tells about BufferAgrees.
func (m toldSpace) agrees() bool {
	for _, c := range m.buffer {
		if e, isMapped := m.entries[c.Page]; !isMapped || e.Frame != c.Frame || e.Writes != c.Writes {
			return false
		}
	}
	return true
}

// expectQueries fails the test unless the functions that change nothing tell about the space what is told.
func (m toldSpace) expectQueries(t *testing.T, s impl.Space) {
	t.Helper()
	what := fmt.Sprint(s)
	var mapped, dirty, free []int64
	isTaken := map[int64]bool{}
	for page := range int64(64) {
		e, isMapped := m.entries[page]
		expect(t, fmt.Sprint("page ", page, " of ", what), of(impl.WalkPage(s, page)), of(e, isMapped))
		if isMapped {
			mapped = append(mapped, page)
			isTaken[e.Frame] = true
		}
		if e.Dirty {
			dirty = append(dirty, page)
		}
	}
	for frame := range int64(16) {
		if !isTaken[frame] {
			free = append(free, frame)
		}
	}
	expect(t, what, of(impl.ValidSpace(s), impl.BufferAgrees(s)), of(true, m.agrees()))
	expect(t, what, of(impl.MappedPages(s)), of(mapped, true))
	expect(t, what, of(impl.FreeFrames(s)), of(free, true))
	expect(t, what, of(impl.DirtyPages(s)), of(dirty, true))
}

// spaceOrNone returns the space that is told if there is a result, and what a failure returns otherwise.
func (m toldSpace) spaceOrNone(ok bool) []any {
	if !ok {
		return of(impl.Space{}, false)
	}
	return of(m.space(), true)
}

// entry returns an entry with a frame that has been neither used nor written.
func entry(frame int64, writes bool) impl.Entry {
	return impl.Entry{Frame: frame, Writes: writes}
}

// kept returns an element of a buffer.
func kept(page, frame int64, writes bool) impl.Cached {
	return impl.Cached{Page: page, Frame: frame, Writes: writes}
}

// toldExample has tables in another order than Root, entries of all kinds, and a buffer that is full and agrees.
func toldExample() toldSpace {
	return toldSpace{
		places: []int64{3, 0, 7},
		entries: map[int64]impl.Entry{
			0: {Frame: 7, Writes: true, Used: true}, 7: {Frame: 0}, 24: {Frame: 15, Writes: true, Used: true, Dirty: true}, 25: {Frame: 3, Used: true},
			31: {Frame: 4, Writes: true}, 62: {Frame: 5, Used: true, Dirty: true}, 63: {Frame: 6, Writes: true},
		},
		buffer: []impl.Cached{kept(25, 3, false), kept(0, 7, true), kept(63, 6, true), kept(7, 0, false)},
	}
}

// toldStale is toldExample with a buffer of which no element agrees: its page is not mapped where there is a table, or where
// there is none, or it has another frame, or another Writes.
func toldStale() toldSpace {
	m := toldExample()
	m.buffer = []impl.Cached{kept(1, 9, true), kept(40, 9, false), kept(24, 14, true), kept(7, 0, true)}
	return m
}

// agreeingSpace is the space of toldExample.
func agreeingSpace() impl.Space {
	return toldExample().space()
}

// staleSpace is the space of toldStale.
func staleSpace() impl.Space {
	return toldStale().space()
}

// toldFull has all tables, in the reverse order of Root, and a page for each frame.
func toldFull() toldSpace {
	m := toldSpace{places: []int64{7, 6, 5, 4, 3, 2, 1, 0}, entries: map[int64]impl.Entry{}}
	for i := range int64(16) {
		m.entries[4*i+i/4] = impl.Entry{Frame: 15 - i, Writes: i%2 == 0, Used: i%3 == 0, Dirty: i%6 == 0}
	}
	return m
}

// toldSpaces are spaces for chapter 8.
func toldSpaces() []toldSpace {
	spaces := []toldSpace{{}, {places: []int64{0}}, {places: []int64{7}}, {places: []int64{2, 1}}, {places: []int64{0, 1, 2, 3, 4, 5, 6, 7}}, toldFull(), toldExample(), toldStale()}
	for n := range 4 {
		m := toldExample()
		m.buffer = m.buffer[:n]
		spaces = append(spaces, m)
	}
	all := func(frame int64, buffer ...impl.Cached) toldSpace {
		return toldSpace{[]int64{5}, map[int64]impl.Entry{40: {Frame: frame, Writes: true, Used: true}}, buffer}
	}
	return append(spaces, all(0), all(15), all(3, kept(40, 3, false)), all(3, kept(40, 3, true)), all(3, kept(40, 2, true)), all(3, kept(0, 0, false), kept(63, 15, true)),
		all(3, kept(40, 3, true), kept(41, 3, true)), all(3, kept(1, 9, true), kept(2, 9, true), kept(3, 9, false), kept(40, 9, true)), toldSpace{buffer: []impl.Cached{kept(5, 5, true)}})
}

// validSpaces are spaces that are valid.
func validSpaces() []impl.Space {
	spaces := []impl.Space{{Root: repeated(-1, 8), Tables: [][]impl.Entry{}, Buffer: []impl.Cached{}}}
	for _, m := range toldSpaces() {
		spaces = append(spaces, m.space())
	}
	return spaces
}

// badSpace is a space that is not valid, with what is wrong.
type badSpace struct {
	what  string
	space impl.Space
}

// badSpaces are spaces that are not valid, one for each way in which a valid one can be spoilt.
func badSpaces() []badSpace {
	var bad []badSpace
	spoil := func(what string, change func(s *impl.Space)) {
		s := agreeingSpace()
		change(&s)
		bad = append(bad, badSpace{what, s})
	}
	spoilRoots(spoil)
	spoilTables(spoil)
	spoilEntries(spoil)
	spoilBuffers(spoil)
	return append(bad, badSpace{"nothing", impl.Space{}}, badSpace{"an empty Root", impl.Space{Root: []int64{}}}, badSpace{"Root of zeros", impl.Space{Root: repeated(0, 8)}},
		badSpace{"Root of 7 without tables", impl.Space{Root: repeated(-1, 7)}}, badSpace{"Root of 9 without tables", impl.Space{Root: repeated(-1, 9)}})
}

// spoiling is a function that adds a space that is changed.
type spoiling func(what string, change func(s *impl.Space))

// spoilRoots adds spaces whose Root is wrong. It is 1 -1 -1 0 -1 -1 -1 2 before.
func spoilRoots(spoil spoiling) {
	spoil("a nil Root", func(s *impl.Space) { s.Root = nil })
	spoil("a Root that is too long", func(s *impl.Space) { s.Root = append(s.Root, -1) })
	spoil("a Root that is too short", func(s *impl.Space) { s.Root, s.Tables = s.Root[:7], s.Tables[:2] })
	spoil("a Root in which the last number is missing", func(s *impl.Space) { s.Root = append([]int64{1, 0, 2}, repeated(-1, 4)...) })
	spoil("an index twice", func(s *impl.Space) { s.Root[4] = 0 })
	spoil("the last index twice", func(s *impl.Space) { s.Root[1] = 2 })
	spoil("an index twice and one that is missing", func(s *impl.Space) { s.Root[0] = 2 })
	spoil("a table that no number has", func(s *impl.Space) { s.Root[7] = -1 })
	spoil("a first table that no number has", func(s *impl.Space) { s.Root[3] = -1 })
	for _, n := range []int64{3, 4, 8, -2, -3, 1 << 32, math.MinInt64, math.MaxInt64} {
		spoil(fmt.Sprint("an index of no table ", n), func(s *impl.Space) { s.Root[5] = n })
		spoil(fmt.Sprint("an index of no table instead of one ", n), func(s *impl.Space) { s.Root[7] = n })
	}
}

// unmappedTable returns a table of pages that are not mapped.
func unmappedTable() []impl.Entry {
	return slices.Repeat([]impl.Entry{{Frame: -1}}, 8)
}

// spoilTables adds spaces whose Tables are wrong.
func spoilTables(spoil spoiling) {
	spoil("no Tables", func(s *impl.Space) { s.Tables = nil })
	spoil("one table more", func(s *impl.Space) { s.Tables = append(s.Tables, unmappedTable()) })
	spoil("one table less", func(s *impl.Space) { s.Tables = s.Tables[:2] })
	spoil("nine tables", func(s *impl.Space) {
		s.Root, s.Buffer = countedUp(8), nil
		s.Tables = slices.Repeat([][]impl.Entry{unmappedTable()}, 9)
	})
	spoil("nine tables and a Root that has the last one", func(s *impl.Space) {
		s.Root, s.Buffer = []int64{8, 1, 2, 3, 4, 5, 6, 7}, nil
		s.Tables = slices.Repeat([][]impl.Entry{unmappedTable()}, 9)
	})
	spoil("nine tables and a Root that has them all", func(s *impl.Space) {
		s.Root, s.Buffer = countedUp(9), nil
		s.Tables = slices.Repeat([][]impl.Entry{unmappedTable()}, 9)
	})
	for i := range 3 {
		spoil("a table that is too short", func(s *impl.Space) { s.Tables[i] = unmappedTable()[:7] })
		spoil("a table that is too long", func(s *impl.Space) { s.Tables[i] = append(unmappedTable(), impl.Entry{Frame: -1}) })
		spoil("a nil table", func(s *impl.Space) { s.Tables[i] = nil })
		spoil("an empty table", func(s *impl.Space) { s.Tables[i] = []impl.Entry{} })
	}
}

// spoilEntries adds spaces with an entry that is wrong.
func spoilEntries(spoil spoiling) {
	for _, n := range []int64{-2, 16, 17, 1 << 32, math.MinInt64, math.MaxInt64} {
		spoil(fmt.Sprint("a frame that is none ", n), func(s *impl.Space) { s.Tables[0][1].Frame = n })
		spoil(fmt.Sprint("a last frame that is none ", n), func(s *impl.Space) { s.Tables[2][7] = entry(n, false) })
	}
	spoil("a frame twice in a table", func(s *impl.Space) { s.Tables[0][2] = entry(15, false) })
	spoil("a frame twice in two tables", func(s *impl.Space) { s.Tables[2][0] = entry(15, false) })
	spoil("the frame 0 twice", func(s *impl.Space) { s.Tables[2][0] = entry(0, false) })
	for _, x := range []impl.Entry{{Frame: -1, Writes: true}, {Frame: -1, Used: true}, {Frame: -1, Dirty: true}, {Frame: -1, Used: true, Dirty: true}, {Frame: -1, Writes: true, Used: true, Dirty: true}} {
		spoil(fmt.Sprint("an entry without a frame ", x), func(s *impl.Space) { s.Tables[0][3] = x })
		spoil(fmt.Sprint("a last entry without a frame ", x), func(s *impl.Space) { s.Tables[1][7], s.Buffer = x, nil })
	}
	spoil("Dirty and not Used", func(s *impl.Space) { s.Tables[0][0].Used = false })
	spoil("Dirty and not Used without Writes", func(s *impl.Space) { s.Tables[0][7] = impl.Entry{Frame: 8, Dirty: true} })
}

// spoilBuffers adds spaces whose Buffer is wrong.
func spoilBuffers(spoil spoiling) {
	spoil("one element too many", func(s *impl.Space) { s.Buffer = append(s.Buffer, kept(24, 15, true)) })
	spoil("many elements", func(s *impl.Space) {
		s.Buffer = append(s.Buffer, kept(24, 15, true), kept(31, 4, true), kept(62, 5, false))
	})
	spoil("a page twice", func(s *impl.Space) { s.Buffer[3] = s.Buffer[0] })
	spoil("a page twice with other frames", func(s *impl.Space) { s.Buffer = []impl.Cached{kept(24, 15, true), kept(24, 14, false)} })
	spoil("a last page twice", func(s *impl.Space) { s.Buffer[3].Page = s.Buffer[2].Page })
	for _, n := range []int64{-1, 64, -2, 65, 1 << 32, math.MinInt64, math.MaxInt64} {
		spoil(fmt.Sprint("a page that is none ", n), func(s *impl.Space) { s.Buffer[1].Page = n })
		spoil(fmt.Sprint("a single page that is none ", n), func(s *impl.Space) { s.Buffer = []impl.Cached{kept(n, 1, false)} })
	}
	for _, n := range []int64{-1, 16, -2, 17, 1 << 32, math.MinInt64, math.MaxInt64} {
		spoil(fmt.Sprint("a kept frame that is none ", n), func(s *impl.Space) { s.Buffer[3].Frame = n })
		spoil(fmt.Sprint("a single kept frame that is none ", n), func(s *impl.Space) { s.Buffer = []impl.Cached{kept(24, n, false)} })
	}
}

func TestPagesLimits(t *testing.T) {
	expect(t, "limits", of(impl.TableSize, impl.Frames, impl.BufferSize), of(8, 16, 4))
	expect(t, "outcomes", of(impl.Hit, impl.Walked, impl.NoPage, impl.NotAllowed), of(0, 1, 2, 3))
}

func TestNewSpace(t *testing.T) {
	for n := range int64(9) {
		m := toldSpace{places: countedUp(int(n))}
		s, ok := impl.NewSpace(n)
		expect(t, fmt.Sprint("tables ", n), of(s, ok), of(m.space(), true))
		m.expectQueries(t, s)
	}
	for _, n := range []int64{-1, 9, 10, 16, -8, 1 << 32, 1<<32 + 1, math.MinInt64, math.MaxInt64} {
		expect(t, fmt.Sprint("tables ", n), of(impl.NewSpace(n)), of(impl.Space{}, false))
	}
}

func TestValidSpace(t *testing.T) {
	for _, s := range validSpaces() {
		expect(t, fmt.Sprint(s), of(impl.ValidSpace(s)), of(true))
	}
	for _, m := range toldSpaces() {
		m.expectQueries(t, m.space())
	}
	for _, n := range []int64{0, 15} {
		for _, page := range []int64{0, 63} {
			s := impl.Space{Root: repeated(-1, 8), Buffer: []impl.Cached{kept(page, n, true)}}
			expect(t, fmt.Sprint(s), of(impl.ValidSpace(s)), of(true))
		}
	}
}

// expectSpaceFailures fails the test unless every function with a space fails.
func expectSpaceFailures(t *testing.T, what string, s impl.Space) {
	t.Helper()
	var none []int64
	expect(t, what, of(impl.ValidSpace(s), impl.BufferAgrees(s)), of(false, false))
	expect(t, what, of(impl.MappedPages(s)), of(none, false))
	expect(t, what, of(impl.FreeFrames(s)), of(none, false))
	expect(t, what, of(impl.DirtyPages(s)), of(none, false))
	expect(t, what, of(impl.FlushAll(s)), of(impl.Space{}, false))
	expect(t, what, of(impl.ClearUsed(s)), of(impl.Space{}, false))
	for _, page := range []int64{0, 24, 30, 31, 40, 63} {
		expect(t, what, of(impl.WalkPage(s, page)), of(impl.Entry{}, false))
		expect(t, what, of(impl.UnmapPage(s, page)), of(impl.Space{}, false))
		expect(t, what, of(impl.ProtectPage(s, page, true)), of(impl.Space{}, false))
		expect(t, what, of(impl.FlushPage(s, page)), of(impl.Space{}, false))
		expect(t, what, of(impl.MapPage(s, page, 9, true)), of(impl.Space{}, false))
		expect(t, what, of(impl.UsePage(s, access(page%2, page))), of(impl.Space{}, 0, 0, false))
		expect(t, what, of(impl.RunSpace(s, []impl.Access{access(page%2, page)})), of(impl.Space{}, none, false))
	}
	expect(t, what, of(impl.RunSpace(s, nil)), of(impl.Space{}, none, false))
}

func TestSpacesInvalid(t *testing.T) {
	for _, bad := range badSpaces() {
		expectSpaceFailures(t, fmt.Sprint(bad.what, " ", bad.space), bad.space)
	}
}

// TestPagesInvalid: pages, frames and accesses that are none make functions fail at valid spaces.
func TestPagesInvalid(t *testing.T) {
	var none []int64
	for _, m := range toldSpaces() {
		s := m.space()
		what := fmt.Sprint(s)
		for _, n := range []int64{-1, 64, -2, -8, 65, 1 << 32, math.MinInt64, math.MaxInt64} {
			expect(t, what, of(impl.WalkPage(s, n)), of(impl.Entry{}, false))
			expect(t, what, of(impl.MapPage(s, n, 9, true)), of(impl.Space{}, false))
			expect(t, what, of(impl.UnmapPage(s, n)), of(impl.Space{}, false))
			expect(t, what, of(impl.ProtectPage(s, n, true)), of(impl.Space{}, false))
			expect(t, what, of(impl.FlushPage(s, n)), of(impl.Space{}, false))
			for kind := range int64(2) {
				expect(t, what, of(impl.UsePage(s, access(kind, n))), of(impl.Space{}, 0, 0, false))
			}
		}
		for _, n := range []int64{-1, 16, -2, 17, 1 << 32, 1<<32 + 1, math.MinInt64, math.MaxInt64} {
			expect(t, what, of(impl.MapPage(s, 32, n, false)), of(impl.Space{}, false))
		}
		for _, kind := range []int64{-1, 2, 3, 1 << 32, 1<<32 + 1, math.MinInt64, math.MaxInt64} {
			for _, page := range []int64{0, 1, 24, 40} {
				expect(t, what, of(impl.UsePage(s, access(kind, page))), of(impl.Space{}, 0, 0, false))
			}
		}
		for _, trace := range badTraces() {
			expect(t, what, of(impl.RunSpace(s, trace)), of(impl.Space{}, none, false))
		}
	}
}

func TestBufferAgrees(t *testing.T) {
	for _, x := range []struct {
		what   string
		agrees bool
		buffer []impl.Cached
	}{
		{"empty", true, nil},
		{"one", true, []impl.Cached{kept(24, 15, true)}},
		{"a page that was written without Writes", true, []impl.Cached{kept(62, 5, false)}},
		{"full", true, toldExample().buffer},
		{"a page that is not mapped in a table", false, []impl.Cached{kept(1, 9, true)}},
		{"a page that is not mapped without a table", false, []impl.Cached{kept(40, 9, true)}},
		{"another frame", false, []impl.Cached{kept(24, 14, true)}},
		{"the frame of another page", false, []impl.Cached{kept(24, 3, true)}},
		{"Writes that the entry has not", false, []impl.Cached{kept(25, 3, true)}},
		{"no Writes where the entry has it", false, []impl.Cached{kept(24, 15, false)}},
		{"the first one of two", false, []impl.Cached{kept(24, 15, false), kept(31, 4, true)}},
		{"the last one of four", false, []impl.Cached{kept(24, 15, true), kept(31, 4, true), kept(62, 5, false), kept(8, 5, false)}},
		{"two with one frame", false, []impl.Cached{kept(24, 15, true), kept(31, 15, true)}},
	} {
		m := toldExample()
		m.buffer = x.buffer
		expect(t, x.what, of(impl.ValidSpace(m.space()), impl.BufferAgrees(m.space())), of(true, x.agrees))
		m.expectQueries(t, m.space())
	}
}

// TestMapPage: pages get frames, and tables are added behind the others in the order in which they are needed.
func TestMapPage(t *testing.T) {
	var m toldSpace
	s := impl.Space{Root: repeated(-1, 8)}
	for _, x := range []struct {
		page, frame int64
		writes, ok  bool
		root        []int64
	}{
		{63, 15, true, true, []int64{-1, -1, -1, -1, -1, -1, -1, 0}},
		{63, 14, true, false, nil},
		{62, 15, false, false, nil},
		{0, 15, false, false, nil},
		{0, 0, false, true, []int64{1, -1, -1, -1, -1, -1, -1, 0}},
		{7, 3, true, true, []int64{1, -1, -1, -1, -1, -1, -1, 0}},
		{9, 0, true, false, nil},
		{16, 16, true, false, nil},
		{16, -1, true, false, nil},
		{9, 5, true, true, []int64{1, 2, -1, -1, -1, -1, -1, 0}},
		{8, 4, false, true, []int64{1, 2, -1, -1, -1, -1, -1, 0}},
		{15, 1, false, true, []int64{1, 2, -1, -1, -1, -1, -1, 0}},
		{56, 2, false, true, []int64{1, 2, -1, -1, -1, -1, -1, 0}},
		{47, 7, false, true, []int64{1, 2, -1, -1, -1, 3, -1, 0}},
	} {
		what := fmt.Sprint("page ", x.page, " and frame ", x.frame)
		next, ok := impl.MapPage(s, x.page, x.frame, x.writes)
		expect(t, what, of(ok), of(x.ok))
		if !ok {
			expect(t, what, of(next), of(impl.Space{}))
			continue
		}
		expect(t, what, of(next.Root, len(next.Tables)), of(x.root, slices.Max(x.root)+1))
		expect(t, what, of(next.Tables[x.root[x.page/8]][x.page%8]), of(entry(x.frame, x.writes)))
		expect(t, what, of(impl.WalkPage(next, x.page)), of(entry(x.frame, x.writes), true))
		s = next
	}
	pages, free := []int64{0, 7, 8, 9, 15, 47, 56, 63}, []int64{6, 8, 9, 10, 11, 12, 13, 14}
	expect(t, "pages", of(impl.MappedPages(s)), of(pages, true))
	expect(t, "frames", of(impl.FreeFrames(s)), of(free, true))
	for i, page := range []int64{59, 3, 35, 11, 19, 51, 43, 27, 26, 42, 50, 18, 10, 34, 2, 58} {
		m.entries = map[int64]impl.Entry{}
		before := m.space()
		expect(t, fmt.Sprint("page ", page), m.spaceOrNone(m.mapPage(page, int64(i), true)), of(impl.MapPage(before, page, int64(i), true)))
	}
}

// TestAllFrames: with a page for each frame no page can be mapped, until one is not mapped any more.
func TestAllFrames(t *testing.T) {
	s := toldFull().space()
	expect(t, "no frames", of(impl.FreeFrames(s)), of([]int64{}, true))
	for frame := range int64(16) {
		expect(t, fmt.Sprint("frame ", frame), of(impl.MapPage(s, 5, frame, true)), of(impl.Space{}, false))
	}
	m := toldFull()
	m.unmapPage(17)
	gone, _ := impl.UnmapPage(s, 17)
	expect(t, "one frame", of(impl.FreeFrames(gone)), of([]int64{11}, true))
	expect(t, "another frame", of(impl.MapPage(gone, 5, 12, true)), of(impl.Space{}, false))
	m.entries[5] = entry(11, true)
	expect(t, "this frame", of(impl.MapPage(gone, 5, 11, true)), of(m.space(), true))
}

// TestTableStays: the table of a page stays when its last page is not mapped any more.
func TestTableStays(t *testing.T) {
	s, _ := impl.NewSpace(0)
	s, _ = impl.MapPage(s, 40, 9, true)
	gone, ok := impl.UnmapPage(s, 40)
	m := toldSpace{places: []int64{5}}
	expect(t, "without pages", of(gone, ok), of(m.space(), true))
	m.expectQueries(t, gone)
	expect(t, "once more", of(impl.UnmapPage(gone, 40)), of(impl.Space{}, false))
	m.entries = map[int64]impl.Entry{47: entry(9, false)}
	expect(t, "another page of the table", of(impl.MapPage(gone, 47, 9, false)), of(m.space(), true))
}

// TestBufferIsLeft: mapping, unmapping and protecting do not change the buffer, which then need not agree.
func TestBufferIsLeft(t *testing.T) {
	s := agreeingSpace()
	gone, _ := impl.UnmapPage(s, 0)
	again, _ := impl.MapPage(gone, 0, 9, true)
	same, _ := impl.MapPage(gone, 0, 7, true)
	protected, _ := impl.ProtectPage(s, 63, false)
	restored, _ := impl.ProtectPage(protected, 63, true)
	opened, _ := impl.ProtectPage(s, 25, true)
	equal, _ := impl.ProtectPage(s, 25, false)
	other, _ := impl.MapPage(s, 40, 9, true)
	for i, x := range []struct {
		space  impl.Space
		agrees bool
	}{{gone, false}, {again, false}, {same, true}, {protected, false}, {restored, true}, {opened, false}, {equal, true}, {other, true}} {
		expect(t, fmt.Sprint("space ", i), of(x.space.Buffer, impl.BufferAgrees(x.space)), of(s.Buffer, x.agrees))
	}
	expect(t, "what is mapped again has been neither used nor written", of(impl.WalkPage(again, 0)), of(entry(9, true), true))
	expect(t, "what is protected stays", of(restored), of(s))
	expect(t, "what is as it was", of(equal), of(s))
	next, outcome, frame, _ := impl.UsePage(again, access(1, 0))
	expect(t, "the old frame", of(outcome, frame), of(impl.Hit, 7))
	expect(t, "the new entry", of(impl.WalkPage(next, 0)), of(impl.Entry{Frame: 9, Writes: true, Used: true, Dirty: true}, true))
	flushed, _ := impl.FlushPage(again, 0)
	next, outcome, frame, _ = impl.UsePage(flushed, access(1, 0))
	expect(t, "the new frame", of(outcome, frame, next.Buffer[0], impl.BufferAgrees(next)), of(impl.Walked, 9, kept(0, 9, true), true))
}

// TestProtectPage: Writes alone changes, in both directions.
func TestProtectPage(t *testing.T) {
	for page, e := range toldExample().entries {
		for _, writes := range []bool{false, true} {
			m := toldExample()
			e.Writes = writes
			m.entries[page] = e
			expect(t, fmt.Sprint("page ", page), of(impl.ProtectPage(agreeingSpace(), page, writes)), of(m.space(), true))
		}
	}
	for _, page := range []int64{1, 8, 30, 40, 61} {
		expect(t, fmt.Sprint("page ", page), of(impl.ProtectPage(staleSpace(), page, true)), of(impl.Space{}, false))
		expect(t, fmt.Sprint("page ", page), of(impl.UnmapPage(staleSpace(), page)), of(impl.Space{}, false))
	}
}

// TestFlush: one element or all leave the buffer, and nothing else changes.
func TestFlush(t *testing.T) {
	a, b, c, d := kept(1, 9, true), kept(40, 9, false), kept(24, 14, true), kept(7, 0, true)
	for _, x := range []struct {
		page int64
		rest []impl.Cached
	}{{1, []impl.Cached{b, c, d}}, {40, []impl.Cached{a, c, d}}, {24, []impl.Cached{a, b, d}}, {7, []impl.Cached{a, b, c}}, {0, []impl.Cached{a, b, c, d}}, {63, []impl.Cached{a, b, c, d}}} {
		m := toldStale()
		m.buffer = x.rest
		expect(t, fmt.Sprint("page ", x.page), of(impl.FlushPage(staleSpace(), x.page)), of(m.space(), true))
	}
	for _, m := range toldSpaces() {
		s := m.space()
		m.buffer = nil
		expect(t, fmt.Sprint(s), of(impl.FlushAll(s)), of(m.space(), true))
		expect(t, fmt.Sprint(s), of(impl.BufferAgrees(m.space())), of(true))
		expect(t, "an empty buffer", of(impl.FlushPage(m.space(), 24)), of(m.space(), true))
	}
}

// TestUsePage: outcomes, frames, buffers and entries, written down from the document.
func TestUsePage(t *testing.T) {
	a, b, c, d := kept(25, 3, false), kept(0, 7, true), kept(63, 6, true), kept(7, 0, false)
	none, nowhere, moved, narrow := kept(1, 9, true), kept(40, 9, false), kept(24, 14, true), kept(31, 4, false)
	wide := kept(25, 3, true)
	for _, x := range []struct {
		what           string
		buffer         []impl.Cached
		kind, page     int64
		outcome, frame int64
		after          []impl.Cached
		entry          impl.Entry
		isMapped       bool
	}{
		{"a read at the front", []impl.Cached{a, b, c, d}, 0, 25, 0, 3, []impl.Cached{a, b, c, d}, impl.Entry{Frame: 3, Used: true}, true},
		{"a read in the middle", []impl.Cached{a, b, c, d}, 0, 63, 0, 6, []impl.Cached{c, a, b, d}, impl.Entry{Frame: 6, Writes: true, Used: true}, true},
		{"a read at the end", []impl.Cached{a, b, c, d}, 0, 7, 0, 0, []impl.Cached{d, a, b, c}, impl.Entry{Frame: 0, Used: true}, true},
		{"a write at the front", []impl.Cached{b, a}, 1, 0, 0, 7, []impl.Cached{b, a}, impl.Entry{Frame: 7, Writes: true, Used: true, Dirty: true}, true},
		{"a write in the middle", []impl.Cached{a, b, c, d}, 1, 63, 0, 6, []impl.Cached{c, a, b, d}, impl.Entry{Frame: 6, Writes: true, Used: true, Dirty: true}, true},
		{"a write that is not allowed at the front", []impl.Cached{a, b}, 1, 25, 3, -1, []impl.Cached{a, b}, impl.Entry{Frame: 3, Used: true}, true},
		{"a write that is not allowed moves to the front", []impl.Cached{a, b, c, d}, 1, 7, 3, -1, []impl.Cached{d, a, b, c}, impl.Entry{Frame: 0}, true},
		{"a walk with an empty buffer", nil, 0, 31, 1, 4, []impl.Cached{kept(31, 4, true)}, impl.Entry{Frame: 4, Writes: true, Used: true}, true},
		{"a walk with a buffer that is just not full", []impl.Cached{a, b, c}, 0, 31, 1, 4, []impl.Cached{kept(31, 4, true), a, b, c}, impl.Entry{Frame: 4, Writes: true, Used: true}, true},
		{"a walk with a full buffer", []impl.Cached{a, b, c, d}, 0, 31, 1, 4, []impl.Cached{kept(31, 4, true), a, b, c}, impl.Entry{Frame: 4, Writes: true, Used: true}, true},
		{"a walk for a write", []impl.Cached{a, b, c, d}, 1, 31, 1, 4, []impl.Cached{kept(31, 4, true), a, b, c}, impl.Entry{Frame: 4, Writes: true, Used: true, Dirty: true}, true},
		{"a read of what has been written", []impl.Cached{a}, 0, 24, 1, 15, []impl.Cached{kept(24, 15, true), a}, impl.Entry{Frame: 15, Writes: true, Used: true, Dirty: true}, true},
		{"a walk for a write that is not allowed", []impl.Cached{a, b, c}, 1, 7, 3, -1, []impl.Cached{a, b, c}, impl.Entry{Frame: 0}, true},
		{"a walk for a write of what may no longer be written", []impl.Cached{a, b, c, d}, 1, 62, 3, -1, []impl.Cached{a, b, c, d}, impl.Entry{Frame: 5, Used: true, Dirty: true}, true},
		{"a page that is not mapped in a table", []impl.Cached{a, b, c, d}, 0, 1, 2, -1, []impl.Cached{a, b, c, d}, impl.Entry{}, false},
		{"a page that is not mapped without a table", []impl.Cached{a, b}, 1, 40, 2, -1, []impl.Cached{a, b}, impl.Entry{}, false},
		{"a kept page that is not mapped in a table", []impl.Cached{a, none}, 1, 1, 0, 9, []impl.Cached{none, a}, impl.Entry{}, false},
		{"a kept page that is not mapped without a table", []impl.Cached{a, nowhere, b}, 0, 40, 0, 9, []impl.Cached{nowhere, a, b}, impl.Entry{}, false},
		{"a write of a kept page that is not mapped", []impl.Cached{a, nowhere, b}, 1, 40, 3, -1, []impl.Cached{nowhere, a, b}, impl.Entry{}, false},
		{"a kept page with another frame", []impl.Cached{a, b, moved}, 1, 24, 0, 14, []impl.Cached{moved, a, b}, impl.Entry{Frame: 15, Writes: true, Used: true, Dirty: true}, true},
		{"a write that the entry allows but not the element", []impl.Cached{b, narrow}, 1, 31, 3, -1, []impl.Cached{narrow, b}, impl.Entry{Frame: 4, Writes: true}, true},
		{"a read of the same", []impl.Cached{b, narrow}, 0, 31, 0, 4, []impl.Cached{narrow, b}, impl.Entry{Frame: 4, Writes: true, Used: true}, true},
		{"a write that the element allows but not the entry", []impl.Cached{b, wide}, 1, 25, 0, 3, []impl.Cached{wide, b}, impl.Entry{Frame: 3, Used: true, Dirty: true}, true},
	} {
		m := toldExample()
		m.buffer = x.buffer
		before := m.space()
		after, outcome, frame, ok := impl.UsePage(before, access(x.kind, x.page))
		m.buffer = x.after
		if x.isMapped {
			m.entries[x.page] = x.entry
		}
		expect(t, x.what, of(outcome, frame, ok, after), of(x.outcome, x.frame, true, m.space()))
		m.expectQueries(t, after)
	}
}

// TestRunSpace: a run is its uses, up to MaxTrace of them.
func TestRunSpace(t *testing.T) {
	for _, m := range toldSpaces() {
		expect(t, fmt.Sprint(m), of(impl.RunSpace(m.space(), nil)), of(m.space(), []int64{}, true))
		for seed := range uint64(6) {
			trace := drawnTrace(seed, impl.MaxTrace, 64, 40)
			if seed%2 == 0 {
				for i := range trace {
					trace[i].Address = []int64{0, 7, 24, 25, 31, 62, 63, 1, 40}[trace[i].Address%9]
				}
			}
			s, told := m.space(), m.copied()
			var outcomes []int64
			for _, x := range trace {
				next, outcome, _, _ := impl.UsePage(s, x)
				wanted, _ := told.usePage(x.Kind, x.Address)
				expect(t, fmt.Sprint(s, x), of(outcome, next), of(wanted, told.space()))
				outcomes, s = append(outcomes, outcome), next
			}
			expect(t, fmt.Sprint(m, trace), of(impl.RunSpace(m.space(), trace)), of(s, outcomes, true))
		}
		long := slices.Repeat([]impl.Access{access(0, 24)}, 61)
		_, outcomes, ok := impl.RunSpace(m.space(), long[:60])
		expect(t, "60 uses", of(len(outcomes), ok), of(60, true))
		expect(t, "61 uses", of(impl.RunSpace(m.space(), long)), of(impl.Space{}, []int64{}, false))
	}
}

func TestClearUsed(t *testing.T) {
	m := toldExample()
	m.entries[0], m.entries[25] = entry(7, true), entry(3, false)
	expect(t, "example", of(impl.ClearUsed(agreeingSpace())), of(m.space(), true))
	expect(t, "once more", of(impl.ClearUsed(m.space())), of(m.space(), true))
	expect(t, "dirty pages", of(impl.DirtyPages(m.space())), of([]int64{24, 62}, true))
	for _, told := range toldSpaces() {
		s, cleared := told.space(), told.copied()
		cleared.clearUsed()
		expect(t, fmt.Sprint(s), of(impl.ClearUsed(s)), of(cleared.space(), true))
	}
}

// TestDirtyPages: the pages come in the order of their numbers, not of the tables or of the writes.
func TestDirtyPages(t *testing.T) {
	s, _ := impl.NewSpace(0)
	order := []int64{63, 24, 8, 31, 0, 7}
	for frame, page := range order {
		s, _ = impl.MapPage(s, page, int64(frame), true)
	}
	var trace []impl.Access
	for _, page := range order {
		trace = append(trace, access(page/8%2, page))
	}
	end, _, _ := impl.RunSpace(s, trace)
	expect(t, "no writes", of(impl.DirtyPages(s)), of([]int64{}, true))
	expect(t, "writes", of(impl.DirtyPages(end)), of([]int64{8, 24, 31, 63}, true))
	expect(t, "pages", of(impl.MappedPages(end)), of([]int64{0, 7, 8, 24, 31, 63}, true))
}

// TestEachPage: every change and every use of each page of a space does what is told, also where the buffer does not agree.
func TestEachPage(t *testing.T) {
	for _, told := range toldSpaces() {
		s := told.space()
		for page := range int64(64) {
			what := fmt.Sprint("page ", page, " of ", s)
			for _, frame := range []int64{0, 3, 9, 15} {
				m := told.copied()
				ok := m.mapPage(page, frame, page%2 == 0)
				expect(t, what, of(impl.MapPage(s, page, frame, page%2 == 0)), m.spaceOrNone(ok))
			}
			for n := range int64(2) {
				m := told.copied()
				ok := m.protectPage(page, n == 1)
				expect(t, what, of(impl.ProtectPage(s, page, n == 1)), m.spaceOrNone(ok))
				m = told.copied()
				outcome, frame := m.usePage(n, page)
				expect(t, what, of(impl.UsePage(s, access(n, page))), of(m.space(), outcome, frame, true))
			}
			m := told.copied()
			ok := m.unmapPage(page)
			expect(t, what, of(impl.UnmapPage(s, page)), m.spaceOrNone(ok))
			m = told.copied()
			m.flushPage(page)
			expect(t, what, of(impl.FlushPage(s, page)), of(m.space(), true))
		}
	}
}

// TestSpaceWalks: spaces that are changed again and again are what is told, also where changes fail.
func TestSpaceWalks(t *testing.T) {
	pages := []int64{0, 7, 8, 9, 15, 24, 25, 31, 40, 62, 63}
	for seed := range uint64(60) {
		start := toldSpaces()
		told := start[int(seed)%len(start)].copied()
		s := told.space()
		for i, n := range drawn(seed, 120, 1<<40) {
			page, frame, flag, before := pages[n>>8%int64(len(pages))], n>>16%16, n>>24%2 == 1, fmt.Sprint(s)
			var next impl.Space
			ok, wanted := false, true
			switch n % 12 {
			case 0, 1, 2:
				wanted = told.mapPage(page, frame, flag)
				next, ok = impl.MapPage(s, page, frame, flag)
			case 3:
				wanted = told.unmapPage(page)
				next, ok = impl.UnmapPage(s, page)
			case 4:
				wanted = told.protectPage(page, flag)
				next, ok = impl.ProtectPage(s, page, flag)
			case 5:
				wanted = told.flushPage(page)
				next, ok = impl.FlushPage(s, page)
			case 6:
				told.clearUsed()
				next, ok = impl.ClearUsed(s)
			case 7:
				if frame < 3 {
					told.buffer = nil
					next, ok = impl.FlushAll(s)
					break
				}
				fallthrough
			default:
				var outcome, at int64
				x := access(frame%2, page)
				next, outcome, at, ok = impl.UsePage(s, x)
				wantedOutcome, wantedFrame := told.usePage(x.Kind, x.Address)
				expect(t, fmt.Sprint(before, x), of(outcome, at), of(wantedOutcome, wantedFrame))
			}
			expect(t, fmt.Sprint("change ", n%12, " of ", before), of(next, ok), told.spaceOrNone(wanted))
			if fmt.Sprint(s) != before {
				t.Errorf("change %d of %s made it %v", n%12, before, s)
			}
			if ok {
				s = next
			}
			if i%10 == 0 {
				told.expectQueries(t, s)
			}
		}
	}
}

// TestAgreeingBuffer: as long as a buffer agrees, uses have the frames and permissions that they have without a buffer, the
// same entries change, and the buffer agrees behind them.
func TestAgreeingBuffer(t *testing.T) {
	pages := []int64{0, 7, 24, 25, 31, 62, 63, 1, 40}
	for seed := range uint64(40) {
		s := agreeingSpace()
		for i, x := range drawnTrace(seed, impl.MaxTrace, int64(len(pages)), 40) {
			x.Address = pages[x.Address]
			bare, _ := impl.FlushAll(s)
			next, outcome, frame, _ := impl.UsePage(s, x)
			nextBare, outcomeBare, frameBare, _ := impl.UsePage(bare, x)
			what := fmt.Sprint(s, x)
			expect(t, what, of(outcome == impl.Hit || outcome == outcomeBare, frame, next.Tables), of(true, frameBare, nextBare.Tables))
			if outcome == impl.Hit {
				expect(t, what, of(outcomeBare), of(impl.Walked))
			}
			expect(t, what, of(impl.BufferAgrees(next)), of(true))
			s = next
			if i%7 == 0 {
				s, _ = impl.ProtectPage(s, 31, i%2 == 0)
				s, _ = impl.FlushPage(s, 31)
				expect(t, what, of(impl.BufferAgrees(s)), of(true))
			}
		}
	}
}

// TestSpaceMemory: what is done to a result changes neither the argument nor another result.
func TestSpaceMemory(t *testing.T) {
	for _, m := range toldSpaces() {
		s := m.space()
		for _, x := range []impl.Access{access(0, 24), access(1, 24), access(0, 50), access(1, 25), access(0, 40)} {
			a, _, _, _ := impl.UsePage(s, x)
			b, _, _, _ := impl.UsePage(s, x)
			overwrite(a.Root)
			for _, table := range a.Tables {
				for i := range table {
					table[i] = impl.Entry{Frame: mark}
				}
			}
			for i := range a.Buffer {
				a.Buffer[i] = impl.Cached{Page: mark}
			}
			c, _, _, _ := impl.UsePage(s, x)
			expect(t, fmt.Sprint(x), of(s, b), of(m.space(), c))
		}
	}
}

// toldClock returns what the document tells about a clock. Whether a page has been written since its fault is looked for in
// the accesses before.
func toldClock(frames int, trace []impl.Access) (faults []int64, written int64) {
	var pages []int64
	isMarked := map[int64]bool{}
	faultAt := map[int64]int{}
	hand := 0
	for k, x := range trace {
		page := x.Address
		if slices.Contains(pages, page) {
			faults = append(faults, 0)
			isMarked[page] = true
			continue
		}
		faults = append(faults, 1)
		if len(pages) < frames {
			pages = append(pages, page)
		} else {
			for isMarked[pages[hand]] {
				isMarked[pages[hand]] = false
				hand = (hand + 1) % frames
			}
			old := pages[hand]
			if slices.Contains(trace[faultAt[old]:k], access(1, old)) {
				written++
			}
			pages[hand] = page
			hand = (hand + 1) % frames
		}
		isMarked[page], faultAt[page] = true, k
	}
	return faults, written
}

func TestClockExamples(t *testing.T) {
	for _, x := range []struct {
		what, trace string
		frames      int64
		faults      []int64
		written     int64
	}{
		{"example", "0 1 0 2 0", 2, []int64{1, 1, 0, 1, 1}, 0},
		{"no uses", "", 1, nil, 0},
		{"one page", "63w*5", 1, []int64{1, 0, 0, 0, 0}, 0},
		{"one frame", "5 5w 6 5 6w 7 5", 1, []int64{1, 0, 1, 1, 1, 1, 1}, 2},
		{"as many frames as pages", "0w 1w 2w 0 1 2", 3, []int64{1, 1, 1, 0, 0, 0}, 0},
		{"more frames than pages", "0w 1w 2w 0 1 2", 16, []int64{1, 1, 1, 0, 0, 0}, 0},
		{"one frame less than pages, a hand over all frames once", "0 1 2 3 1", 3, []int64{1, 1, 1, 1, 0}, 0},
		{"the page at the hand is replaced behind a round", "0 1 2 3 0", 3, []int64{1, 1, 1, 1, 1}, 0},
		{"the hand goes on from where it is", "0 1 2 3 4 2", 3, []int64{1, 1, 1, 1, 1, 0}, 0},
		{"a mark saves the page at the hand", "0 1 2 3 1 4 1", 3, []int64{1, 1, 1, 1, 0, 1, 0}, 0},
		{"a mark saves it once", "0 1 2 3 1 4 5 1", 3, []int64{1, 1, 1, 1, 0, 1, 1, 1}, 0},
		{"the hand goes over the last frame to the first one", "0 1 2 3 4 2 5 4 6 3 4", 3, []int64{1, 1, 1, 1, 1, 0, 1, 0, 1, 1, 1}, 0},
		{"a page is marked by its fault", "0 1 2 3 4", 2, []int64{1, 1, 1, 1, 1}, 0},
		{"a write that is the fault", "0w 1 2", 2, []int64{1, 1, 1}, 1},
		{"a write behind the fault", "0 0w 1 2", 2, []int64{1, 0, 1, 1}, 1},
		{"two writes of one page", "0w*2 1 2", 2, []int64{1, 0, 1, 1}, 1},
		{"a write of a page that is not replaced", "0 1w 2", 2, []int64{1, 1, 1}, 0},
		{"a write before an earlier fault alone", "0w 1 0 2", 1, []int64{1, 1, 1, 1}, 1},
		{"writes before both faults", "0w 1 0w 2", 1, []int64{1, 1, 1, 1}, 2},
		{"a write by the page that replaces", "0 1w 2", 1, []int64{1, 1, 1}, 1},
	} {
		expect(t, x.what, of(impl.ClockRun(x.frames, traceWithText(x.trace))), of(x.faults, x.written, true))
	}
}

// TestClocks: clocks do what the document tells.
func TestClocks(t *testing.T) {
	for _, trace := range append(cacheTraces(), shortTraces(4)...) {
		uses, _ := impl.UsesOf(trace)
		gaps, _ := impl.GapsOf(uses)
		for frames := 1; frames <= impl.Frames; frames++ {
			what := fmt.Sprint(trace, " with frames ", frames)
			faults, written := toldClock(frames, trace)
			expect(t, what, of(impl.ClockRun(int64(frames), trace)), of(faults, written, true))
			for i, gap := range gaps {
				if frames == 1 && gap != 1 && faults[i] == 0 || frames >= countDifferent(uses) && (gap == 0) != (faults[i] == 1) {
					t.Errorf("%s: faults %v", what, faults)
				}
			}
		}
	}
}

func TestClockInvalid(t *testing.T) {
	for _, frames := range []int64{-1, 0, 17, 18, -16, 1 << 32, 1<<32 + 1, math.MinInt64, math.MaxInt64} {
		expect(t, fmt.Sprint("frames ", frames), of(impl.ClockRun(frames, nil)), of([]int64{}, 0, false))
		expect(t, fmt.Sprint("frames ", frames), of(impl.ClockRun(frames, traceWithText("0w 1 0"))), of([]int64{}, 0, false))
	}
	for _, trace := range badTraces() {
		for _, frames := range []int64{1, 2, 16} {
			expect(t, fmt.Sprint(trace), of(impl.ClockRun(frames, trace)), of([]int64{}, 0, false))
		}
	}
}

// TestSetFaults: faults are uses of pages that were not kept behind the use before, which gaps tell, too.
func TestSetFaults(t *testing.T) {
	for _, x := range []struct {
		uses         []int64
		window       int64
		faults, kept int64
	}{
		{[]int64{0, 1, 0, 2, 0}, 2, 3, 9}, {[]int64{0, 1, 0, 2, 0}, 1, 5, 5}, {nil, 1, 0, 0}, {nil, 60, 0, 0}, {[]int64{63}, 60, 1, 1},
		{[]int64{5, 1, 2, 5}, 2, 4, 7}, {[]int64{5, 1, 2, 5}, 3, 3, 9}, {[]int64{5, 1, 2, 5}, 4, 3, 9}, {[]int64{5, 5, 5}, 1, 1, 3}, {[]int64{5, 1, 5}, 1, 3, 3},
		{append(countedUp(59), 0), 58, 60, 58*59/2 + 58 + 58}, {append(countedUp(59), 0), 59, 59, 59*60/2 + 59}, {countedUp(60), 60, 60, 60 * 61 / 2}, {repeated(63, 60), 60, 1, 60},
	} {
		expect(t, fmt.Sprint(x.uses, x.window), of(impl.SetFaults(x.uses, x.window)), of(x.faults, x.kept, true))
	}
	for _, uses := range manyUses() {
		gaps, _ := impl.GapsOf(uses)
		for window := int64(1); window <= impl.MaxTrace; window += 1 + window/5 {
			var faults, told, kept int64
			var before []int64
			for i, page := range uses {
				if !slices.Contains(before, page) {
					faults++
				}
				if gaps[i] == 0 || gaps[i] > window {
					told++
				}
				before = sortedSet(uses[max(0, i+1-int(window)) : i+1])
				kept += int64(len(before))
			}
			what := fmt.Sprint(uses, " with the window ", window)
			expect(t, what, of(impl.SetFaults(uses, window)), of(faults, kept, true))
			expect(t, what, of(told), of(faults))
		}
	}
	for _, window := range []int64{-1, 0, 61, 62, -60, 1 << 32, 1<<32 + 1, math.MinInt64, math.MaxInt64} {
		expect(t, fmt.Sprint("window ", window), of(impl.SetFaults(nil, window)), of(0, 0, false))
		expect(t, fmt.Sprint("window ", window), of(impl.SetFaults([]int64{0, 1, 0}, window)), of(0, 0, false))
	}
	for _, uses := range badUses() {
		expect(t, fmt.Sprint(uses), of(impl.SetFaults(uses, 1)), of(0, 0, false))
		expect(t, fmt.Sprint(uses), of(impl.SetFaults(uses, 60)), of(0, 0, false))
	}
}
