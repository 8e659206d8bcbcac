package tests

import (
	"math"
	"slices"
	"strings"
	"testing"
	"unsafe"

	"loop.example/g00287/impl"
)

// filled is a sector of one byte.
func filled(c byte) string {
	return strings.Repeat(string([]byte{c}), impl.SectorSize)
}

// counted is a sector of which no two bytes are alike, nor like those of one
// that starts elsewhere.
func counted(start int) string {
	b := make([]byte, impl.SectorSize)
	for i := range b {
		b[i] = byte(start + i)
	}
	return string(b)
}

// diskOf has n sectors, each of its own letter, and these writes in its Cache.
func diskOf(n int, cache ...impl.Write) impl.Disk {
	d := impl.Disk{Cache: cache}
	for i := range n {
		d.Sectors = append(d.Sectors, filled(byte('a'+i%26)))
	}
	return d
}

// cacheOf has n writes, by turns of the first sectors.
func cacheOf(n, sectors int) []impl.Write {
	list := []impl.Write{}
	for i := range n {
		list = append(list, impl.Write{At: i % sectors, Text: counted(i)})
	}
	return list
}

func sameDisk(a, b impl.Disk) bool {
	return slices.Equal(a.Sectors, b.Sectors) && slices.Equal(a.Cache, b.Cache)
}

func ofDisk(d impl.Disk) impl.Disk {
	return impl.Disk{Sectors: slices.Clone(d.Sectors), Cache: slices.Clone(d.Cache)}
}

// wrongDisks is every way not to be right.
func wrongDisks() map[string]impl.Disk {
	short, long := filled('s')[1:], filled('l')+"l"
	at := func(n int, w impl.Write) impl.Disk {
		return diskOf(n, impl.Write{At: 0, Text: filled('0')}, w, impl.Write{At: 1, Text: filled('1')})
	}
	withSector := func(at int, text string) impl.Disk {
		d := diskOf(3, impl.Write{At: 0, Text: filled('0')})
		d.Sectors[at] = text
		return d
	}
	return map[string]impl.Disk{
		"nothing":                    {},
		"no sector, but a write":     {Cache: []impl.Write{{At: 0, Text: filled('0')}}},
		"too many sectors":           diskOf(impl.MaxSectors+1, impl.Write{At: 0, Text: filled('0')}),
		"far too many sectors":       diskOf(3 * impl.MaxSectors),
		"a first sector too short":   withSector(0, short),
		"a last sector too long":     withSector(2, long),
		"an empty sector":            withSector(1, ""),
		"a sector of noughts, short": withSector(1, strings.Repeat("\x00", impl.SectorSize-1)),
		"a sector of two":            withSector(1, filled('x')+filled('y')),
		"a write too short":          at(3, impl.Write{At: 2, Text: short}),
		"a write too long":           at(3, impl.Write{At: 2, Text: long}),
		"a write of nothing":         at(3, impl.Write{At: 2}),
		"a short write of noughts":   at(3, impl.Write{At: 2, Text: strings.Repeat("\x00", 5)}),
		"a write behind the last":    at(3, impl.Write{At: 3, Text: filled('w')}),
		"a write below 0":            at(3, impl.Write{At: -1, Text: filled('w')}),
		"a write far behind":         at(3, impl.Write{At: math.MaxInt, Text: filled('w')}),
		"a write far below":          at(3, impl.Write{At: math.MinInt, Text: filled('w')}),
		"a write at MaxSectors":      at(impl.MaxSectors, impl.Write{At: impl.MaxSectors, Text: filled('w')}),
		"one write too many":         diskOf(3, cacheOf(impl.MaxCache+1, 3)...),
		"far too many writes":        diskOf(3, cacheOf(3*impl.MaxCache, 3)...),
	}
}

// rightDisks has every limit met exactly.
func rightDisks() map[string]impl.Disk {
	return map[string]impl.Disk{
		"one sector":             diskOf(1),
		"two sectors":            diskOf(2, impl.Write{At: 1, Text: counted(7)}),
		"three, written thrice":  diskOf(3, cacheOf(9, 3)...),
		"one sector, full Cache": diskOf(1, cacheOf(impl.MaxCache, 1)...),
		"most sectors":           diskOf(impl.MaxSectors),
		"most of both":           diskOf(impl.MaxSectors, cacheOf(impl.MaxCache, impl.MaxSectors)...),
		"last of most":           diskOf(impl.MaxSectors, impl.Write{At: impl.MaxSectors - 1, Text: filled('w')}),
		"bytes of any kind":      diskOf(4, cacheOf(40, 4)...),
	}
}

func TestSectorsLimits(t *testing.T) {
	if impl.SectorSize != 32 || impl.MaxSectors != 100 || impl.MaxCache != 60 {
		t.Error("a limit is not what the document says")
	}
}

func TestDiskNew(t *testing.T) {
	for _, n := range []int{1, 2, 50, impl.MaxSectors - 1, impl.MaxSectors} {
		d, ok := impl.DiskNew(n)
		if !ok || len(d.Sectors) != n || len(d.Cache) != 0 || !impl.DiskOk(d) {
			t.Errorf("DiskNew(%d) has %d sectors, %d writes, %v", n, len(d.Sectors), len(d.Cache), ok)
		}
		for i, s := range d.Sectors {
			if s != filled(0) {
				t.Errorf("DiskNew(%d) has %q in sector %d", n, s, i)
			}
		}
	}
}

func TestDiskNewRefuses(t *testing.T) {
	for _, n := range []int{0, -1, impl.MaxSectors + 1, 2 * impl.MaxSectors, math.MaxInt, math.MinInt} {
		if d, ok := impl.DiskNew(n); ok || !sameDisk(d, impl.Disk{}) {
			t.Errorf("DiskNew(%d) has %d sectors, %v", n, len(d.Sectors), ok)
		}
	}
}

func TestDiskOk(t *testing.T) {
	for name, d := range rightDisks() {
		if !impl.DiskOk(d) {
			t.Errorf("not right: %s", name)
		}
	}
	for name, d := range wrongDisks() {
		if impl.DiskOk(d) {
			t.Errorf("right: %s", name)
		}
	}
}

func TestReadSectorReadsTheLastWrite(t *testing.T) {
	d := diskOf(4, impl.Write{At: 1, Text: counted(1)}, impl.Write{At: 3, Text: counted(2)}, impl.Write{At: 1, Text: counted(3)}, impl.Write{At: 3, Text: counted(4)}, impl.Write{At: 0, Text: counted(5)})
	for at, want := range []string{counted(5), counted(3), filled('c'), counted(4)} {
		if got, ok := impl.ReadSector(d, at); !ok || got != want {
			t.Errorf("ReadSector at %d: %q, %v, not %q", at, got, ok, want)
		}
	}
}

func TestReadSectorWhereThereIsNone(t *testing.T) {
	for name, d := range rightDisks() {
		for _, at := range []int{-1, len(d.Sectors), len(d.Sectors) + 1, impl.MaxSectors, math.MaxInt, math.MinInt} {
			if got, ok := impl.ReadSector(d, at); ok || got != "" {
				t.Errorf("%s: ReadSector at %d: %q, %v", name, at, got, ok)
			}
		}
		for _, at := range []int{0, len(d.Sectors) - 1} {
			if _, ok := impl.ReadSector(d, at); !ok {
				t.Errorf("%s: ReadSector at %d is false", name, at)
			}
		}
	}
}

// ReadSector does not ask whether the disk is right, just for the sector.
func TestReadSectorOfADiskThatIsNotRight(t *testing.T) {
	d := impl.Disk{
		Sectors: []string{"short", filled('b'), ""},
		Cache:   []impl.Write{{At: 1, Text: "x"}, {At: 7, Text: filled('w')}, {At: -1, Text: filled('v')}, {At: 1, Text: "longer than it may be, by some bytes"}},
	}
	for at, want := range []string{"short", "longer than it may be, by some bytes", ""} {
		if got, ok := impl.ReadSector(d, at); !ok || got != want {
			t.Errorf("ReadSector at %d: %q, %v, not %q", at, got, ok, want)
		}
	}
	for _, at := range []int{-1, 3, 7} {
		if got, ok := impl.ReadSector(d, at); ok || got != "" {
			t.Errorf("ReadSector at %d, which is just in the Cache: %q, %v", at, got, ok)
		}
	}
	for name, d := range wrongDisks() {
		for at := range d.Sectors {
			if got, ok := impl.ReadSector(d, at); !ok || got != readAsSaid(d, at) {
				t.Errorf("%s: ReadSector at %d: %q, %v", name, at, got, ok)
			}
		}
		if got, ok := impl.ReadSector(d, len(d.Sectors)); ok || got != "" {
			t.Errorf("%s: ReadSector behind the last: %q, %v", name, got, ok)
		}
	}
}

// readAsSaid is the document's own words, for a sector that is there.
func readAsSaid(d impl.Disk, at int) string {
	text := d.Sectors[at]
	for _, w := range d.Cache {
		if w.At == at {
			text = w.Text
		}
	}
	return text
}

func TestWriteSectorWaits(t *testing.T) {
	for name, d := range rightDisks() {
		if len(d.Cache) == impl.MaxCache {
			continue
		}
		for _, at := range []int{0, len(d.Sectors) / 2, len(d.Sectors) - 1} {
			got, ok := impl.WriteSector(d, at, counted(99))
			want := ofDisk(d)
			want.Cache = append(want.Cache, impl.Write{At: at, Text: counted(99)})
			if !ok || !sameDisk(got, want) {
				t.Errorf("%s: WriteSector at %d: %v, %d writes", name, at, ok, len(got.Cache))
			}
			if text, there := impl.ReadSector(got, at); !there || text != counted(99) {
				t.Errorf("%s: what is written at %d is not read at once: %q", name, at, text)
			}
		}
	}
}

func TestWriteSectorOfOneSectorAgain(t *testing.T) {
	d := diskOf(2)
	for i := range impl.MaxCache {
		next, ok := impl.WriteSector(d, i%2, counted(i))
		if !ok || len(next.Cache) != i+1 {
			t.Fatalf("write %d: %v, %d writes", i, ok, len(next.Cache))
		}
		if text, _ := impl.ReadSector(next, i%2); text != counted(i) {
			t.Errorf("write %d is read as %q", i, text)
		}
		d = next
	}
	if got, ok := impl.WriteSector(d, 0, filled('z')); ok || !sameDisk(got, d) {
		t.Errorf("a write more than MaxCache: %v, %d writes", ok, len(got.Cache))
	}
}

func TestWriteSectorRefuses(t *testing.T) {
	d := diskOf(3, impl.Write{At: 1, Text: counted(0)})
	for _, c := range []struct {
		at   int
		text string
	}{
		{-1, filled('x')}, {3, filled('x')}, {math.MaxInt, filled('x')}, {math.MinInt, filled('x')}, {impl.MaxSectors, filled('x')},
		{0, ""}, {0, filled('x')[1:]}, {2, filled('x') + "x"}, {1, filled('x') + filled('x')}, {0, strings.Repeat("\x00", impl.SectorSize-1)},
		{0, strings.Repeat("x", impl.MaxText)}, {3, ""},
	} {
		if got, ok := impl.WriteSector(d, c.at, c.text); ok || !sameDisk(got, d) {
			t.Errorf("WriteSector at %d of %d bytes: %v, %d writes", c.at, len(c.text), ok, len(got.Cache))
		}
	}
	for name, d := range wrongDisks() {
		if got, ok := impl.WriteSector(d, 0, filled('x')); ok || !sameDisk(got, d) {
			t.Errorf("%s: WriteSector: %v, %d sectors, %d writes", name, ok, len(got.Sectors), len(got.Cache))
		}
	}
}

func TestWhatIsWrittenIsNotInItsSectorBeforeItIsFlushed(t *testing.T) {
	d := diskOf(3)
	d, _ = impl.WriteSector(d, 1, counted(5))
	if !slices.Equal(d.Sectors, diskOf(3).Sectors) {
		t.Errorf("the sectors are %q before FlushDisk", d.Sectors)
	}
	d = impl.FlushDisk(d)
	if want := []string{filled('a'), counted(5), filled('c')}; !slices.Equal(d.Sectors, want) || len(d.Cache) != 0 {
		t.Errorf("flushed, the sectors are %q, with %d writes", d.Sectors, len(d.Cache))
	}
}

func TestFlushDisk(t *testing.T) {
	for name, d := range rightDisks() {
		want := impl.Disk{}
		for at := range d.Sectors {
			want.Sectors = append(want.Sectors, readAsSaid(d, at))
		}
		got := impl.FlushDisk(d)
		if !sameDisk(got, want) {
			t.Errorf("%s: flushed with %d sectors, %d writes, not as it was read", name, len(got.Sectors), len(got.Cache))
		}
		if again := impl.FlushDisk(got); !sameDisk(again, want) {
			t.Errorf("%s: flushed again it is another one", name)
		}
	}
	for name, d := range wrongDisks() {
		if got := impl.FlushDisk(d); !sameDisk(got, d) {
			t.Errorf("%s: flushed it is not as it was", name)
		}
	}
}

// crashAsSaid is the document's own words, byte by byte.
func crashAsSaid(d impl.Disk, keep []int, tear int) impl.Disk {
	size := (tear%33 + 33) % 33
	odd := func(i int) bool { return i < len(keep) && keep[i]&1 == 1 }
	last := -1
	for i := range d.Cache {
		if odd(i) {
			last = i
		}
	}
	out := impl.Disk{Sectors: slices.Clone(d.Sectors)}
	for i, w := range d.Cache {
		switch {
		case odd(i) && i == last:
			out.Sectors[w.At] = w.Text[:size] + out.Sectors[w.At][size:]
		case odd(i):
			out.Sectors[w.At] = w.Text
		}
	}
	return out
}

var tearsToTry = []int{0, 1, 16, 31, 32, 33, 34, 65, 66, -1, -2, -31, -32, -33, -34, -66, 1000000007, math.MaxInt, math.MaxInt - 1, math.MinInt, math.MinInt + 1}

func TestCrashDiskWithNothingChosen(t *testing.T) {
	for name, d := range rightDisks() {
		for _, keep := range [][]int{nil, {}, {0}, {0, 0, 0}, {2, 4, -2}, {math.MinInt, -4}} {
			for _, tear := range tearsToTry {
				if got := impl.CrashDisk(d, keep, tear); !slices.Equal(got.Sectors, d.Sectors) || len(got.Cache) != 0 {
					t.Errorf("%s: CrashDisk with %v, %d: other sectors, or %d writes", name, keep, tear, len(got.Cache))
				}
			}
		}
	}
}

func TestCrashDiskWithAllChosenAndWhole(t *testing.T) {
	keep := slices.Repeat([]int{1}, 2*impl.MaxCache)
	for name, d := range rightDisks() {
		for _, tear := range []int{impl.SectorSize, -1, 2*impl.SectorSize + 1, -1 - 33*1000} {
			if got := impl.CrashDisk(d, keep, tear); !sameDisk(got, impl.FlushDisk(d)) {
				t.Errorf("%s: CrashDisk with all chosen, %d, is not as if it was flushed", name, tear)
			}
		}
	}
}

func TestCrashDiskWithSomeChosen(t *testing.T) {
	keeps := [][]int{
		{1}, {0, 1}, {1, 0, 1}, {1, 1, 0}, {0, 0, 0, 1}, {3, 2, 5, 4, 7}, {-1}, {-1, -2, -3}, {-2, -1}, {math.MaxInt}, {math.MinInt, math.MinInt + 1},
		{0, 1, 0, 1, 0, 1, 0, 1, 0, 1}, slices.Repeat([]int{1}, impl.MaxCache-1), slices.Repeat([]int{1}, impl.MaxCache+5), append(make([]int, impl.MaxCache), 1, 1, 1),
	}
	for name, d := range rightDisks() {
		for _, keep := range keeps {
			for _, tear := range tearsToTry {
				if got := impl.CrashDisk(d, keep, tear); !sameDisk(got, crashAsSaid(d, keep, tear)) {
					t.Errorf("%s: CrashDisk with %v, %d: %q", name, keep, tear, got.Sectors)
				}
			}
		}
	}
}

func TestCrashDiskWithEveryChoice(t *testing.T) {
	d := diskOf(2, cacheOf(5, 2)...)
	for choice := range 1 << 5 {
		keep := make([]int, 5)
		for i := range keep {
			keep[i] = choice >> i & 1
		}
		for tear := -40; tear <= 70; tear++ {
			if got := impl.CrashDisk(d, keep, tear); !sameDisk(got, crashAsSaid(d, keep, tear)) {
				t.Fatalf("CrashDisk with %v, %d: %q", keep, tear, got.Sectors)
			}
		}
	}
}

// What an earlier chosen write left in a sector stays behind the torn bytes.
func TestCrashDiskTearsOverAnEarlierWrite(t *testing.T) {
	d := diskOf(2, impl.Write{At: 0, Text: filled('1')}, impl.Write{At: 1, Text: filled('2')}, impl.Write{At: 0, Text: filled('3')}, impl.Write{At: 0, Text: filled('4')})
	for _, c := range []struct {
		keep  []int
		tear  int
		first string
		other string
	}{
		{[]int{1, 0, 1, 0}, 5, "33333" + filled('1')[5:], filled('b')},
		{[]int{1, 1, 1, 1}, 5, "44444" + filled('3')[5:], filled('2')},
		{[]int{1, 1, 0, 1}, 31, filled('4')[:31] + "1", filled('2')},
		{[]int{0, 1, 1}, 1, "3" + filled('a')[1:], filled('2')},
		{[]int{0, 0, 0, 1}, 0, filled('a'), filled('b')},
		{[]int{1, 1, 0, 0}, 3, filled('1'), "222" + filled('b')[3:]},
		{[]int{1, 0, 1, 0}, 33, filled('1'), filled('b')},
		{[]int{1, 0, 1, 0}, 32, filled('3'), filled('b')},
	} {
		got := impl.CrashDisk(d, c.keep, c.tear)
		if !slices.Equal(got.Sectors, []string{c.first, c.other}) || len(got.Cache) != 0 {
			t.Errorf("CrashDisk with %v, %d: %q, %d writes", c.keep, c.tear, got.Sectors, len(got.Cache))
		}
	}
}

func TestCrashDiskLeavesWhatIsNotRight(t *testing.T) {
	for name, d := range wrongDisks() {
		for _, keep := range [][]int{nil, {1}, {1, 1, 1}} {
			for _, tear := range []int{0, 5, impl.SectorSize} {
				if got := impl.CrashDisk(d, keep, tear); !sameDisk(got, d) {
					t.Errorf("%s: CrashDisk with %v, %d: not as it was", name, keep, tear)
				}
			}
		}
	}
}

// Promise 3: what is flushed stays, whatever is written and chosen after it.
func TestWhatIsFlushedStays(t *testing.T) {
	d, _ := impl.DiskNew(4)
	for at := range 4 {
		d, _ = impl.WriteSector(d, at, counted(10*at))
	}
	d = impl.FlushDisk(d)
	d, _ = impl.WriteSector(d, 2, filled('n'))
	d, _ = impl.WriteSector(d, 1, filled('m'))
	for choice := range 4 {
		for tear := range impl.SectorSize + 1 {
			got := impl.CrashDisk(d, []int{choice & 1, choice >> 1}, tear)
			if got.Sectors[0] != counted(0) || got.Sectors[3] != counted(30) {
				t.Fatalf("choice %d, torn at %d: what was not written again is another: %q", choice, tear, got.Sectors)
			}
			if choice&1 == 0 && got.Sectors[2] != counted(20) || choice>>1 == 0 && got.Sectors[1] != counted(10) {
				t.Fatalf("choice %d, torn at %d: what was not chosen is another: %q", choice, tear, got.Sectors)
			}
			if choice>>1 == 1 && got.Sectors[1] != filled('m')[:tear]+counted(10)[tear:] {
				t.Fatalf("choice %d, torn at %d: the torn sector is %q", choice, tear, got.Sectors[1])
			}
		}
	}
}

func TestSectorText(t *testing.T) {
	for name, d := range rightDisks() {
		whole := ""
		for at := range d.Sectors {
			whole += readAsSaid(d, at)
		}
		n := len(d.Sectors)
		for from := range n {
			for _, count := range []int{0, 1, 2, n / 2, n - from} {
				if from+count > n {
					continue
				}
				want := whole[from*impl.SectorSize : (from+count)*impl.SectorSize]
				if got, ok := impl.SectorText(d, from, count); !ok || got != want {
					t.Errorf("%s: SectorText of %d from %d: %d bytes, %v", name, count, from, len(got), ok)
				}
			}
		}
	}
}

func TestSectorTextRefuses(t *testing.T) {
	for name, d := range rightDisks() {
		n := len(d.Sectors)
		for _, c := range []struct{ from, n int }{
			{0, -1}, {0, math.MinInt}, {0, n + 1}, {0, impl.MaxSectors + 1}, {0, math.MaxInt}, {1, n}, {n, 1}, {n - 1, 2}, {-1, 1}, {-1, 2},
			{math.MaxInt, 1}, {math.MaxInt, impl.MaxSectors}, {math.MinInt, impl.MaxSectors}, {n, -1}, {1, math.MaxInt}, {-impl.MaxSectors, impl.MaxSectors},
		} {
			if got, ok := impl.SectorText(d, c.from, c.n); ok || got != "" {
				t.Errorf("%s: SectorText of %d from %d: %d bytes, %v", name, c.n, c.from, len(got), ok)
			}
		}
	}
}

// Of no sectors none is missing, wherever they would begin.
func TestSectorTextOfNone(t *testing.T) {
	for name, d := range rightDisks() {
		for _, from := range []int{0, 1, len(d.Sectors), -1, math.MaxInt, math.MinInt} {
			if got, ok := impl.SectorText(d, from, 0); !ok || got != "" {
				t.Errorf("%s: SectorText of none from %d: %q, %v", name, from, got, ok)
			}
		}
	}
	if got, ok := impl.SectorText(impl.Disk{}, 0, 0); !ok || got != "" {
		t.Errorf("SectorText of none of no disk: %q, %v", got, ok)
	}
}

// SectorText does not ask whether the disk is right, just for its sectors.
func TestSectorTextOfADiskThatIsNotRight(t *testing.T) {
	for name, d := range wrongDisks() {
		n, want := min(len(d.Sectors), impl.MaxSectors), ""
		for at := range n {
			want += readAsSaid(d, at)
		}
		if got, ok := impl.SectorText(d, 0, n); !ok || got != want {
			t.Errorf("%s: SectorText of %d: %d bytes, %v", name, n, len(got), ok)
		}
		if got, ok := impl.SectorText(d, 0, n+1); ok || got != "" {
			t.Errorf("%s: SectorText of %d: %d bytes, %v", name, n+1, len(got), ok)
		}
		if len(d.Sectors) > impl.MaxSectors {
			last := len(d.Sectors) - 1
			if got, ok := impl.SectorText(d, last, 1); !ok || got != readAsSaid(d, last) {
				t.Errorf("%s: SectorText of the last: %q, %v", name, got, ok)
			}
		}
	}
}

// wroteAsSaid asks for each touched sector in its turn, as it was with those
// bytes, behind all in the Cache.
func wroteAsSaid(t *testing.T, d impl.Disk, sector, at int, text string) {
	t.Helper()
	first := sector + at/impl.SectorSize
	end := sector*impl.SectorSize + at + len(text)
	want := ofDisk(d)
	for place := first; len(text) > 0 && place*impl.SectorSize < end; place++ {
		b := []byte(readAsSaid(d, place))
		for i := range b {
			if k := place*impl.SectorSize + i - sector*impl.SectorSize - at; k >= 0 && k < len(text) {
				b[i] = text[k]
			}
		}
		want.Cache = append(want.Cache, impl.Write{At: place, Text: string(b)})
	}
	if got, ok := impl.WriteBytes(d, sector, at, text); !ok || !sameDisk(got, want) {
		t.Errorf("WriteBytes of %d bytes at %d from sector %d of %d: %v, %d writes, not %d", len(text), at, sector, len(d.Sectors), ok, len(got.Cache), len(want.Cache))
	}
}

func TestWriteBytes(t *testing.T) {
	d := diskOf(6, impl.Write{At: 2, Text: counted(0)}, impl.Write{At: 2, Text: counted(50)}, impl.Write{At: 5, Text: counted(100)})
	for _, sector := range []int{0, 1, 2, 5} {
		for at := range 3*impl.SectorSize + 1 {
			for _, n := range []int{0, 1, 2, 31, 32, 33, 63, 64, 65, 96, 130} {
				if n > 0 && sector*impl.SectorSize+at+n > 6*impl.SectorSize {
					continue
				}
				wroteAsSaid(t, d, sector, at, strings.Repeat("\xf7", n))
			}
		}
	}
}

func TestWriteBytesIsReadWithAllAroundIt(t *testing.T) {
	d := diskOf(4, impl.Write{At: 1, Text: counted(0)})
	before, _ := impl.SectorText(d, 0, 4)
	for at := range 4 * impl.SectorSize {
		for _, n := range []int{1, 5, 32, 40} {
			if at+n > 4*impl.SectorSize {
				continue
			}
			text := strings.Repeat("!", n)
			got, ok := impl.WriteBytes(d, 0, at, text)
			after, _ := impl.SectorText(got, 0, 4)
			if !ok || after != before[:at]+text+before[at+n:] {
				t.Errorf("%d bytes at %d: %v, read as %q", n, at, ok, after)
			}
			if !slices.Equal(got.Sectors, d.Sectors) {
				t.Errorf("%d bytes at %d: in their sectors before FlushDisk", n, at)
			}
			flushed, _ := impl.SectorText(impl.FlushDisk(got), 0, 4)
			if flushed != after {
				t.Errorf("%d bytes at %d: flushed as %q", n, at, flushed)
			}
		}
	}
}

func TestWriteBytesOfNoText(t *testing.T) {
	for name, d := range rightDisks() {
		for _, sector := range []int{0, len(d.Sectors) - 1} {
			for _, at := range []int{0, 1, 32, 33, impl.SectorSize*impl.MaxSectors - 1, impl.SectorSize * impl.MaxSectors} {
				if got, ok := impl.WriteBytes(d, sector, at, ""); !ok || !sameDisk(got, d) {
					t.Errorf("%s: nothing at %d from sector %d: %v, %d writes", name, at, sector, ok, len(got.Cache))
				}
			}
			for _, at := range []int{-1, impl.SectorSize*impl.MaxSectors + 1, math.MaxInt, math.MinInt} {
				if got, ok := impl.WriteBytes(d, sector, at, ""); ok || !sameDisk(got, d) {
					t.Errorf("%s: nothing at %d from sector %d: %v, %d writes", name, at, sector, ok, len(got.Cache))
				}
			}
		}
		for _, sector := range []int{-1, len(d.Sectors), math.MaxInt, math.MinInt} {
			if got, ok := impl.WriteBytes(d, sector, 0, ""); ok || !sameDisk(got, d) {
				t.Errorf("%s: nothing from sector %d: %v, %d writes", name, sector, ok, len(got.Cache))
			}
		}
	}
}

func TestWriteBytesToTheEnd(t *testing.T) {
	for _, n := range []int{1, 2, 5, impl.MaxSectors} {
		d := diskOf(n)
		size := n * impl.SectorSize
		for _, length := range []int{1, 31, 32} {
			wroteAsSaid(t, d, n-1, impl.SectorSize-length, strings.Repeat("e", length))
			wroteAsSaid(t, d, 0, size-length, strings.Repeat("e", length))
			for _, c := range []struct{ sector, at int }{{n - 1, impl.SectorSize - length}, {0, size - length}} {
				if got, ok := impl.WriteBytes(d, c.sector, c.at, strings.Repeat("e", length+1)); ok || !sameDisk(got, d) {
					t.Errorf("a byte more than %d sectors have: %v, %d writes", n, ok, len(got.Cache))
				}
			}
		}
		if got, ok := impl.WriteBytes(d, 0, size, "x"); ok || !sameDisk(got, d) {
			t.Errorf("a byte behind %d sectors: %v, %d writes", n, ok, len(got.Cache))
		}
	}
}

func TestWriteBytesFillsTheCache(t *testing.T) {
	for _, waiting := range []int{0, 1, 58, 59, 60} {
		d := diskOf(impl.MaxSectors, cacheOf(waiting, 7)...)
		room := impl.MaxCache - waiting
		if room > 0 {
			wroteAsSaid(t, d, 3, 0, strings.Repeat("f", room*impl.SectorSize))
			wroteAsSaid(t, d, 3, 31, strings.Repeat("f", (room-1)*impl.SectorSize+1))
		}
		for _, c := range []struct{ at, n int }{{0, room*impl.SectorSize + 1}, {31, room*impl.SectorSize + 2}, {31, max(1, (room-1)*impl.SectorSize+2)}} {
			if got, ok := impl.WriteBytes(d, 3, c.at, strings.Repeat("f", c.n)); ok || !sameDisk(got, d) {
				t.Errorf("%d bytes at %d behind %d writes: %v, %d writes", c.n, c.at, waiting, ok, len(got.Cache))
			}
		}
	}
}

func TestWriteBytesRefuses(t *testing.T) {
	d := diskOf(impl.MaxSectors, impl.Write{At: 1, Text: counted(0)})
	far := impl.SectorSize * impl.MaxSectors
	for _, c := range []struct {
		sector, at int
		text       string
	}{
		{0, -1, "x"}, {1, -1, "x"}, {1, -32, "x"}, {0, math.MinInt, "x"}, {0, far, "x"}, {0, far + 1, "x"}, {0, math.MaxInt, "x"},
		{-1, 0, "x"}, {-1, 32, "x"}, {-1, 40, "x"}, {impl.MaxSectors, 0, "x"}, {math.MaxInt, 0, "x"}, {math.MinInt, 0, "x"}, {math.MaxInt, far, "x"},
		{0, far - 1, "xy"}, {99, 32, "x"}, {99, far, "x"}, {0, 0, strings.Repeat("x", far+1)}, {0, 0, strings.Repeat("x", 100*far)},
	} {
		if got, ok := impl.WriteBytes(d, c.sector, c.at, c.text); ok || !sameDisk(got, d) {
			t.Errorf("WriteBytes of %d bytes at %d from sector %d: %v, %d writes", len(c.text), c.at, c.sector, ok, len(got.Cache))
		}
	}
}

// A disk that is not right refuses a write; of no text there is none.
func TestWriteBytesOfADiskThatIsNotRight(t *testing.T) {
	for name, d := range wrongDisks() {
		for _, text := range []string{"x", filled('x'), filled('x') + "x"} {
			if got, ok := impl.WriteBytes(d, 0, 0, text); ok || !sameDisk(got, d) {
				t.Errorf("%s: WriteBytes of %d bytes: %v, %d writes", name, len(text), ok, len(got.Cache))
			}
		}
		if got, ok := impl.WriteBytes(d, 0, 0, ""); ok != (len(d.Sectors) > 0) || !sameDisk(got, d) {
			t.Errorf("%s: WriteBytes of no text: %v, %d writes", name, ok, len(got.Cache))
		}
		if got, ok := impl.WriteBytes(d, len(d.Sectors), 0, ""); ok || !sameDisk(got, d) {
			t.Errorf("%s: WriteBytes of no text behind the last: %v, %d writes", name, ok, len(got.Cache))
		}
	}
}

// answersOfDisk is every disk that the chapter's functions make of one.
func answersOfDisk(d impl.Disk, keep []int, text string) map[string]impl.Disk {
	out := map[string]impl.Disk{"FlushDisk": impl.FlushDisk(d), "CrashDisk": impl.CrashDisk(d, keep, 5)}
	out["WriteSector"], _ = impl.WriteSector(d, 0, text)
	out["WriteSector, refused"], _ = impl.WriteSector(d, -1, text)
	out["WriteBytes"], _ = impl.WriteBytes(d, 0, 0, text)
	out["WriteBytes over two"], _ = impl.WriteBytes(d, 0, 9, text)
	out["WriteBytes of nothing"], _ = impl.WriteBytes(d, 0, 0, "")
	out["WriteBytes, refused"], _ = impl.WriteBytes(d, -1, 0, text)
	out["WriteBytes, refused late"], _ = impl.WriteBytes(d, 0, 0, strings.Repeat(text, 101))
	return out
}

// scribble writes over both lists, and into their spare room.
func scribble(d impl.Disk) {
	for i := range d.Sectors[:cap(d.Sectors)] {
		d.Sectors[:cap(d.Sectors)][i] = "scribble"
	}
	for i := range d.Cache[:cap(d.Cache)] {
		d.Cache[:cap(d.Cache)][i] = impl.Write{At: 77, Text: "scribble"}
	}
}

// withRoom has the same lists with spare room behind them.
func withRoom(d impl.Disk) impl.Disk {
	sectors := append(append(make([]string, 0, len(d.Sectors)+5), d.Sectors...), "r", "o", "o", "m")
	cache := append(append(make([]impl.Write, 0, len(d.Cache)+5), d.Cache...), impl.Write{At: 9, Text: "room"}, impl.Write{At: 8, Text: "room"})
	return impl.Disk{Sectors: sectors[:len(d.Sectors)], Cache: cache[:len(d.Cache)]}
}

// fully has the lists with their spare room in sight.
func fully(d impl.Disk) impl.Disk {
	return impl.Disk{Sectors: d.Sectors[:cap(d.Sectors)], Cache: d.Cache[:cap(d.Cache)]}
}

func TestNoDiskSharesMemory(t *testing.T) {
	disks := rightDisks()
	for name, d := range wrongDisks() {
		disks[name] = d
	}
	for name, plain := range disks {
		d := withRoom(plain)
		before := ofDisk(fully(d))
		keep := append(make([]int, 0, 8), 1, 0, 1, 9, 9)[:3]
		text := strings.Clone(counted(40))
		answers := answersOfDisk(d, keep, text)
		again := answersOfDisk(d, keep, text)
		for what, got := range answers {
			if !sameDisk(got, again[what]) {
				t.Errorf("%s: %s answers another time something else", name, what)
			}
			scribble(got)
			if !sameDisk(fully(d), before) || !slices.Equal(keep[:5], []int{1, 0, 1, 9, 9}) {
				t.Fatalf("%s: %s writes into its argument, or shares it", name, what)
			}
			sharesNoText(t, name+": "+what, again[what], append(textsOfDisk(d), text))
		}
		for what, got := range again {
			if sameDisk(got, answers[what]) && len(got.Sectors) > 0 {
				t.Errorf("%s: two answers of %s share memory", name, what)
			}
		}
	}
}

func textsOfDisk(d impl.Disk) []string {
	list := slices.Clone(d.Sectors)
	for _, w := range d.Cache {
		list = append(list, w.Text)
	}
	return list
}

// sharesNoText asks that no text of the answer lies where one of the
// argument's lies.
func sharesNoText(t *testing.T, what string, answer impl.Disk, given []string) {
	t.Helper()
	places := map[*byte]bool{}
	for _, s := range given {
		if s != "" {
			places[unsafe.StringData(s)] = true
		}
	}
	for _, s := range textsOfDisk(answer) {
		if s != "" && places[unsafe.StringData(s)] {
			t.Errorf("%s: a text of the answer is one of the argument's", what)
			return
		}
	}
}

func TestNoTextReadIsTheDisks(t *testing.T) {
	d := diskOf(3, impl.Write{At: 1, Text: strings.Clone(counted(1))})
	for at := range 3 {
		read, _ := impl.ReadSector(d, at)
		one, _ := impl.SectorText(d, at, 1)
		sharesNoText(t, "ReadSector", impl.Disk{Sectors: []string{read, one}}, textsOfDisk(d))
	}
}
