package tests

import (
	"fmt"
	"math"
	"slices"
	"strings"
	"testing"

	"loop.example/g00287/impl"
)

// checkRightAsSaid is the document's own words.
func checkRightAsSaid(c impl.Check) bool {
	for _, n := range []int{c.Stamp, c.NextGen, c.NextSeq, c.NextValid} {
		if n < 1 || n > 1000000000 {
			return false
		}
	}
	if len(c.Refs) < 1 || len(c.Refs) > 11 {
		return false
	}
	for i, r := range c.Refs {
		if r.Gen < 1 || r.Gen > c.NextGen-1 || r.No < 0 || r.No > 10 {
			return false
		}
		for _, earlier := range c.Refs[:i] {
			if earlier.Gen >= r.Gen || earlier.No == r.No {
				return false
			}
		}
	}
	return true
}

// checkNumbers are those that a check is written as, one behind the other.
func checkNumbers(c impl.Check) []int {
	list := []int{c.Stamp, c.NextGen, c.NextSeq, c.NextValid, len(c.Refs)}
	for _, r := range c.Refs {
		list = append(list, r.No, r.Gen)
	}
	return list
}

func numbersText(list []int) string {
	text := ""
	for _, n := range list {
		text += varAsSaid(n)
	}
	return text
}

// sealedShort has a right length and a right sum, whatever lies within.
func sealedShort(text string) string {
	sealed := sealedAsSaid(text)
	return varAsSaid(len(sealed)) + sealed
}

// checkAsSaid is the document's own words, also of a check that is not right
// (as long as nothing in it is below 0).
func checkAsSaid(c impl.Check) string {
	return sealedShort(numbersText(checkNumbers(c)))
}

// readCheckAsSaid is the document's own words.
func readCheckAsSaid(t string) (impl.Check, bool) {
	size, from, ok := impl.ReadVar(t, 0)
	if !ok || size < 4 || size > len(t)-from {
		return impl.Check{}, false
	}
	numbers := []int{}
	for at := from; at < from+size-4; {
		n, behind, ok := impl.ReadVar(t, at)
		if !ok {
			return impl.Check{}, false
		}
		numbers, at = append(numbers, n), behind
	}
	if len(numbers) < 5 || len(numbers) != 5+2*numbers[4] {
		return impl.Check{}, false
	}
	c := impl.Check{Stamp: numbers[0], NextGen: numbers[1], NextSeq: numbers[2], NextValid: numbers[3]}
	for i := range numbers[4] {
		c.Refs = append(c.Refs, impl.Ref{No: numbers[5+2*i], Gen: numbers[6+2*i]})
	}
	if !checkRightAsSaid(c) || !strings.HasPrefix(t, checkAsSaid(c)) {
		return impl.Check{}, false
	}
	return c, true
}

// fixAsSaid is the document's own words.
func fixAsSaid(d impl.Disk, c impl.Check) (impl.Disk, bool) {
	if !impl.DiskOk(d) || !checkRightAsSaid(c) {
		return d, false
	}
	text, first := checkAsSaid(c), 4*(c.Stamp%2)
	sectors := (len(text) + 31) / 32
	if first+sectors > len(d.Sectors) || len(d.Cache)+sectors > 60 {
		return d, false
	}
	return putFrom(d, first*32, text), true
}

// newestAsSaid is the document's own words; of two with one Stamp the one of
// the first region.
func newestAsSaid(d impl.Disk) (impl.Check, bool) {
	newest, found := impl.Check{}, false
	for region := range 2 {
		text := ""
		for at := 4 * region; at < 4*region+4 && at < len(d.Sectors); at++ {
			text += readAsSaid(d, at)
		}
		if c, ok := readCheckAsSaid(text); ok && (!found || c.Stamp > newest.Stamp) {
			newest, found = c, true
		}
	}
	return newest, found
}

func sameCheck(a, b impl.Check) bool {
	return a.Stamp == b.Stamp && a.NextGen == b.NextGen && a.NextSeq == b.NextSeq && a.NextValid == b.NextValid && slices.Equal(a.Refs, b.Refs)
}

func copyOfCheck(c impl.Check) impl.Check {
	c.Refs = slices.Clone(c.Refs)
	return c
}

// plainCheck has this Stamp, and three Refs.
func plainCheck(stamp int) impl.Check {
	return impl.Check{Stamp: stamp, NextGen: 300, NextSeq: 40, NextValid: 8, Refs: []impl.Ref{{No: 4, Gen: 3}, {No: 0, Gen: 5}, {No: 6, Gen: 200}}}
}

// leastCheck is as short as may be, greatestCheck as long.
func leastCheck(stamp int) impl.Check {
	return impl.Check{Stamp: stamp, NextGen: 2, NextSeq: 1, NextValid: 1, Refs: []impl.Ref{{No: 0, Gen: 1}}}
}

func greatestCheck(stamp int) impl.Check {
	c := impl.Check{Stamp: stamp, NextGen: impl.MaxNumber, NextSeq: impl.MaxNumber, NextValid: impl.MaxNumber}
	for i := range impl.MaxSegs {
		c.Refs = append(c.Refs, impl.Ref{No: impl.MaxSegs - 1 - i, Gen: impl.MaxNumber - impl.MaxSegs + i})
	}
	return c
}

// turnedCheck is plainCheck with one thing made another one.
func turnedCheck(turn func(c *impl.Check)) impl.Check {
	c := plainCheck(7)
	turn(&c)
	return c
}

// checkFields are the numbers of a check, by their names.
func checkFields() map[string]func(c *impl.Check) *int {
	return map[string]func(c *impl.Check) *int{
		"Stamp": func(c *impl.Check) *int { return &c.Stamp }, "NextGen": func(c *impl.Check) *int { return &c.NextGen },
		"NextSeq": func(c *impl.Check) *int { return &c.NextSeq }, "NextValid": func(c *impl.Check) *int { return &c.NextValid },
	}
}

// refsOf has n Refs, out of order on the disk.
func refsOf(n int) []impl.Ref {
	out := []impl.Ref{}
	for i := range n {
		out = append(out, impl.Ref{No: (3 + 4*i) % 11, Gen: 10 + 9*i})
	}
	return out
}

// rightChecks has every limit met exactly.
func rightChecks() map[string]impl.Check {
	checks := map[string]impl.Check{
		"plain": plainCheck(7), "least": leastCheck(1), "greatest": greatestCheck(impl.MaxNumber), "an even Stamp": plainCheck(8),
		"a Gen just below NextGen": turnedCheck(func(c *impl.Check) { c.NextGen = 201 }),
		"a Gen of 1":               turnedCheck(func(c *impl.Check) { c.Refs[0].Gen = 1 }),
		"Gens one by one": turnedCheck(func(c *impl.Check) {
			c.Refs = []impl.Ref{{No: 2, Gen: 1}, {No: 1, Gen: 2}, {No: 0, Gen: 3}}
			c.NextGen = 4
		}),
		"a No of 0 alone":  turnedCheck(func(c *impl.Check) { c.Refs = c.Refs[1:2] }),
		"the greatest No":  turnedCheck(func(c *impl.Check) { c.Refs[1].No = impl.MaxSegs - 1 }),
		"the greatest Gen": {Stamp: 1, NextGen: impl.MaxNumber, NextSeq: 1, NextValid: 1, Refs: []impl.Ref{{No: 3, Gen: impl.MaxNumber - 1}}},
	}
	for name, field := range checkFields() {
		for _, n := range frameNumbers {
			// NextGen is above every Gen.
			if name != "NextGen" || n > 200 {
				checks[fmt.Sprint(name, " of ", n)] = turnedCheck(func(c *impl.Check) { *field(c) = n })
			}
		}
	}
	for n := 1; n <= impl.MaxSegs; n++ {
		checks[fmt.Sprint(n, " Refs")] = turnedCheck(func(c *impl.Check) { c.Refs = refsOf(n) })
	}
	return checks
}

// wrongChecks part from being right in one thing alone.
func wrongChecks() map[string]impl.Check {
	checks := map[string]impl.Check{
		"nothing":                   {},
		"no Refs":                   turnedCheck(func(c *impl.Check) { c.Refs = nil }),
		"an empty list of Refs":     turnedCheck(func(c *impl.Check) { c.Refs = []impl.Ref{} }),
		"a Ref of nothing":          turnedCheck(func(c *impl.Check) { c.Refs = []impl.Ref{{}} }),
		"one Ref more than MaxSegs": turnedCheck(func(c *impl.Check) { c.Refs = append(refsOf(11), impl.Ref{No: 1, Gen: 250}) }),
		"200 Refs":                  turnedCheck(func(c *impl.Check) { c.Refs = refsOf(200); c.NextGen = 5000 }),
		"two of one Gen":            turnedCheck(func(c *impl.Check) { c.Refs[1].Gen = 3 }),
		"the last two of one Gen":   turnedCheck(func(c *impl.Check) { c.Refs[2].Gen = 5 }),
		"Gens that go down":         turnedCheck(func(c *impl.Check) { c.Refs[1].Gen = 2 }),
		"Gens that go down behind":  turnedCheck(func(c *impl.Check) { c.Refs[2].Gen = 4 }),
		"Gens in the other order":   turnedCheck(func(c *impl.Check) { slices.Reverse(c.Refs) }),
		"the same Ref twice":        turnedCheck(func(c *impl.Check) { c.Refs = append(c.Refs, c.Refs[2]) }),
		"a No twice, side by side":  turnedCheck(func(c *impl.Check) { c.Refs[1].No = 4 }),
		"a No twice, far off":       turnedCheck(func(c *impl.Check) { c.Refs[2].No = 4 }),
		"NextGen is the last Gen":   turnedCheck(func(c *impl.Check) { c.NextGen = 200 }),
		"NextGen is below the last": turnedCheck(func(c *impl.Check) { c.NextGen = 199 }),
		"NextGen is 1":              turnedCheck(func(c *impl.Check) { c.NextGen = 1 }),
		"a Gen of NextGen, alone":   {Stamp: 1, NextGen: 1, NextSeq: 1, NextValid: 1, Refs: []impl.Ref{{No: 0, Gen: 1}}},
		"a Gen of MaxNumber":        {Stamp: 1, NextGen: impl.MaxNumber, NextSeq: 1, NextValid: 1, Refs: []impl.Ref{{No: 0, Gen: impl.MaxNumber}}},
	}
	for name, field := range checkFields() {
		for _, n := range numbersOutside {
			checks[fmt.Sprint(name, " of ", n)] = turnedCheck(func(c *impl.Check) { *field(c) = n })
		}
	}
	for at := range 3 {
		for _, no := range wrongSegs {
			checks[fmt.Sprint("a No of ", no, " at ", at)] = turnedCheck(func(c *impl.Check) { c.Refs[at].No = no })
		}
		for _, gen := range []int{0, -1, 300, 301, impl.MaxNumber, math.MaxInt, math.MinInt} {
			checks[fmt.Sprint("a Gen of ", gen, " at ", at)] = turnedCheck(func(c *impl.Check) { c.Refs[at].Gen = gen })
		}
	}
	return checks
}

func TestCheckOk(t *testing.T) {
	for what, c := range rightChecks() {
		if !impl.CheckOk(c) || !checkRightAsSaid(c) {
			t.Errorf("%s: not right: %+v", what, c)
		}
	}
	for what, c := range wrongChecks() {
		if impl.CheckOk(c) || checkRightAsSaid(c) {
			t.Errorf("%s: right: %+v", what, c)
		}
	}
}

func TestCheckTextOfKnownChecks(t *testing.T) {
	for what, c := range map[string]struct {
		check impl.Check
		size  string
		body  string
	}{
		"least":       {leastCheck(1), "\x0b", "\x01\x02\x01\x01\x01\x00\x01"},
		"three Refs":  {plainCheck(7), "\x11", "\x07\xac\x02\x28\x08\x03\x04\x03\x00\x05\x06\xc8\x01"},
		"great ones":  {impl.Check{Stamp: impl.MaxNumber, NextGen: 128, NextSeq: 127, NextValid: 16384, Refs: []impl.Ref{{No: 10, Gen: 127}}}, "\x12", "\x80\x94\xeb\xdc\x03\x80\x01\x7f\x80\x80\x01\x01\x0a\x7f"},
		"two of them": {impl.Check{Stamp: 2, NextGen: 3, NextSeq: 9, NextValid: 4, Refs: []impl.Ref{{No: 1, Gen: 1}, {No: 0, Gen: 2}}}, "\x0d", "\x02\x03\x09\x04\x02\x01\x01\x00\x02"},
	} {
		want := c.size + sealedAsSaid(c.body)
		if got, ok := impl.CheckText(c.check); !ok || got != want {
			t.Errorf("%s: %v, %q, not %q", what, ok, got, want)
		}
	}
}

func TestCheckTextIsWhatTheDocumentSays(t *testing.T) {
	for what, c := range rightChecks() {
		if got, ok := impl.CheckText(c); !ok || got != checkAsSaid(c) {
			t.Errorf("%s: %v, %q, not %q", what, ok, got, checkAsSaid(c))
		}
	}
	for what, c := range wrongChecks() {
		if got, ok := impl.CheckText(c); ok || got != "" {
			t.Errorf("%s: %v, %q", what, ok, got)
		}
	}
}

// No right check is longer than its region, nor as long: the longest one has
// 92 bytes.
func TestCheckTextOfTheLongest(t *testing.T) {
	got, ok := impl.CheckText(greatestCheck(impl.MaxNumber))
	if !ok || len(got) != 92 || len(got) > impl.CheckSectors*impl.SectorSize {
		t.Errorf("the longest text has %d bytes, %v", len(got), ok)
	}
	for what, c := range rightChecks() {
		if n := len(checkAsSaid(c)); n > 92 || n < 12 {
			t.Errorf("%s: %d bytes", what, n)
		}
	}
}

func readsCheck(t *testing.T, what, text string, want impl.Check) {
	t.Helper()
	if got, ok := impl.ReadCheck(text); !ok || !sameCheck(got, want) {
		t.Errorf("%s: of %q is read %+v, %v, not %+v", what, text, got, ok, want)
	}
}

func refusesCheck(t *testing.T, what, text string) {
	t.Helper()
	if got, ok := impl.ReadCheck(text); ok || !sameCheck(got, impl.Check{}) {
		t.Errorf("%s: of %q is read %+v, %v", what, text, got, ok)
	}
}

func TestReadCheckReadsBack(t *testing.T) {
	for what, c := range rightChecks() {
		text, _ := impl.CheckText(c)
		for _, behind := range []string{"", "\x00", "\xff", "x", filled(0), text, bodyOf(300), bodyOf(impl.MaxText + 1)} {
			readsCheck(t, what, text+behind, c)
		}
		for _, ahead := range []string{"\x00", "\x01", "\xff", "\x80", "x"} {
			refusesCheck(t, what+", not from the beginning on", ahead+text)
		}
	}
}

func TestReadCheckOfWhatIsCut(t *testing.T) {
	for what, c := range rightChecks() {
		text := checkAsSaid(c)
		for n := range len(text) {
			refusesCheck(t, what+", cut", text[:n])
			if last := strings.TrimRight(text, "\x00"); n < len(last) {
				refusesCheck(t, what+", cut, with noughts behind", text[:n]+strings.Repeat("\x00", 128-n))
			}
			refusesCheck(t, what+", without its beginning", text[n+1:])
		}
	}
	refusesCheck(t, "noughts", strings.Repeat("\x00", 128))
	refusesCheck(t, "no text", "")
}

func TestReadCheckRefusesOneByteTurned(t *testing.T) {
	for what, c := range map[string]impl.Check{"least": leastCheck(1), "plain": plainCheck(7), "greatest": greatestCheck(impl.MaxNumber - 1)} {
		text := checkAsSaid(c)
		for i := range len(text) {
			for turn := 1; turn < 256; turn++ {
				turned := text[:i] + string([]byte{text[i] ^ byte(turn)}) + text[i+1:]
				refusesCheck(t, what+", one byte turned", turned)
				refusesCheck(t, what+", one byte turned, with bytes behind", turned+filled(0)+text)
			}
		}
	}
}

// What is in such a text has a right length and a right sum; it is refused
// for what it is.
func TestReadCheckRefusesWhatNoCheckTextWrites(t *testing.T) {
	for what, c := range wrongChecks() {
		if slices.Min(checkNumbers(c)) >= 0 {
			refusesCheck(t, what, checkAsSaid(c))
			refusesCheck(t, what+", with bytes behind", checkAsSaid(c)+filled(0))
		}
	}
	for what, c := range map[string]impl.Check{"least": leastCheck(3), "plain": plainCheck(7), "eleven Refs": turnedCheck(func(c *impl.Check) { c.Refs = refsOf(11) })} {
		numbers := checkNumbers(c)
		body := numbersText(numbers)
		readsCheck(t, what, sealedShort(body), c)
		for i, n := range numbers {
			form := numbersText(numbers[:i]) + longer(n) + numbersText(numbers[i+1:])
			refusesCheck(t, fmt.Sprint(what, ", number ", i, " in a longer form"), sealedShort(form))
			refusesCheck(t, fmt.Sprint(what, ", without number ", i), sealedShort(numbersText(slices.Concat(numbers[:i], numbers[i+1:]))))
			refusesCheck(t, fmt.Sprint(what, ", number ", i, " of MaxNumber and 1"), sealedShort(numbersText(slices.Concat(numbers[:i], []int{impl.MaxNumber + 1}, numbers[i+1:]))))
		}
		for _, more := range []string{"\x00", "\x01", "\xff", "\x09\x01", "\x00\x00\x00\x00", body} {
			refusesCheck(t, what+", bytes left over", sealedShort(body+more))
			refusesCheck(t, what+", bytes left over, with bytes behind", sealedShort(body+more)+filled(0))
		}
		for n := range len(body) {
			refusesCheck(t, what+", cut within what is sealed", sealedShort(body[:n]))
			refusesCheck(t, what+", begun later within what is sealed", sealedShort(body[n+1:]))
		}
		for _, count := range []int{0, len(c.Refs) - 1, len(c.Refs) + 1, 11, 12, 13, 128, impl.MaxNumber} {
			if count != len(c.Refs) {
				numbers[4] = count
				refusesCheck(t, fmt.Sprint(what, ", told as ", count, " Refs"), sealedShort(numbersText(numbers)))
			}
		}
	}
}

func TestReadCheckRefusesAnotherLengthOrSum(t *testing.T) {
	for what, c := range map[string]impl.Check{"least": leastCheck(3), "plain": plainCheck(7), "greatest": greatestCheck(impl.MaxNumber)} {
		body := numbersText(checkNumbers(c))
		sealed := sealedAsSaid(body)
		sum := sealed[len(body):]
		for n := range 200 {
			if n != len(sealed) {
				refusesCheck(t, fmt.Sprint(what, ", a length of ", n), varAsSaid(n)+sealed+filled(0))
			}
		}
		for _, n := range []int{impl.MaxText, impl.MaxText + 1, impl.MaxNumber, impl.MaxNumber + 1, 1 << 40} {
			refusesCheck(t, fmt.Sprint(what, ", a length of ", n), varAsSaid(n)+sealed+filled(0))
		}
		refusesCheck(t, what+", a length in a longer form", longer(len(sealed))+sealed)
		refusesCheck(t, what+", no length", sealed)
		refusesCheck(t, what+", not sealed", varAsSaid(len(body))+body+sum)
		refusesCheck(t, what+", the length sealed with it", sealedAsSaid(varAsSaid(len(sealed))+body))
		for how, four := range map[string]string{
			"lowest byte first": string([]byte{sum[3], sum[2], sum[1], sum[0]}), "noughts": "\x00\x00\x00\x00", "full": "\xff\xff\xff\xff",
			"all bits over": string([]byte{^sum[0], ^sum[1], ^sum[2], ^sum[3]}), "of another one": sealedAsSaid("\x01" + body)[len(body)+1:],
		} {
			refusesCheck(t, what+", a sum "+how, varAsSaid(len(sealed))+body+four)
		}
	}
}

// drawnCheck is right more often than not.
func drawnCheck(d *drawing) impl.Check {
	number := func() int { return d.of(1, 2, 127, 128, 16384, 1000, impl.MaxNumber, impl.MaxNumber-1) }
	c := impl.Check{Stamp: number(), NextSeq: number(), NextValid: number()}
	gen, nos := d.of(1, 1, 2, 120, 16380), []int{}
	for range d.of(1, 2, 3, 5, 11) {
		no := d.below(11)
		for slices.Contains(nos, no) {
			no = (no + 1) % 11
		}
		nos = append(nos, no)
		c.Refs = append(c.Refs, impl.Ref{No: no, Gen: gen})
		gen += d.of(1, 1, 2, 70)
	}
	c.NextGen = gen + d.of(0, 0, 5, 1000)
	switch at := d.below(len(c.Refs)); d.below(12) {
	case 0:
		c.Refs[at].No = d.below(13) - 1
	case 1:
		c.Refs[at].Gen += d.below(5) - 2
	case 2:
		c.NextGen -= d.below(5)
	case 3:
		c.Stamp = d.of(0, -1, impl.MaxNumber+1, 1, 2)
	}
	return c
}

func TestDrawnChecks(t *testing.T) {
	d, right := drawing(5), 0
	for range 4000 {
		c := drawnCheck(&d)
		is := checkRightAsSaid(c)
		text, ok := impl.CheckText(c)
		if impl.CheckOk(c) != is || ok != is {
			t.Fatalf("right is %v, not %v: %+v", ok, is, c)
		}
		if !is {
			continue
		}
		right++
		if text != checkAsSaid(c) {
			t.Fatalf("%+v: %q", c, text)
		}
		readsCheck(t, "drawn", text+"xyz", c)
	}
	if right < 1000 || right > 3900 {
		t.Errorf("%d of 4000 are right", right)
	}
}

// What is read of any text is just what the document says.
func TestReadCheckOfDrawnTexts(t *testing.T) {
	d, read := drawing(11), 0
	for range 20000 {
		numbers := []int{}
		for range d.of(3, 5, 6, 7, 7, 7, 9, 9, 11) {
			numbers = append(numbers, d.of(0, 1, 1, 2, 2, 3, 4, 5, 9, 10, 11, 130))
		}
		text := sealedShort(numbersText(numbers)) + strings.Repeat("\x01", d.below(3))
		if d.below(10) == 0 {
			text = text[:d.below(len(text)+1)] + "\x02" + text
		}
		want, ok := readCheckAsSaid(text)
		if ok {
			read++
			readsCheck(t, "drawn", text, want)
			continue
		}
		refusesCheck(t, "drawn", text)
	}
	if read < 50 {
		t.Errorf("%d texts are read", read)
	}
}

// checkOfAsSaid is the document's own words.
func checkOfAsSaid(g impl.Log) impl.Check {
	c := impl.Check{Stamp: g.Stamp + 1, NextGen: g.NextGen, NextSeq: g.NextSeq, NextValid: g.NextValid}
	for i := range g.Used {
		c.Refs = append(c.Refs, impl.Ref{No: g.Used[i].No, Gen: g.Used[i].Gen})
	}
	return c
}

func TestCheckOfKnownLogs(t *testing.T) {
	for what, c := range map[string]struct {
		log  impl.Log
		want impl.Check
	}{
		"several":       {severalLog(), impl.Check{Stamp: 3, NextGen: 12, NextSeq: 40, NextValid: 8, Refs: []impl.Ref{{No: 4, Gen: 3}, {No: 0, Gen: 5}, {No: 6, Gen: 9}}}},
		"new":           {newLog(5), leastCheck(2)},
		"nothing":       {impl.Log{}, impl.Check{Stamp: 1}},
		"all different": {impl.Log{Segs: 77, Stamp: 4, NextGen: 6, NextSeq: 7, NextValid: 8, Used: []impl.Seg{{No: 1, Gen: 2, End: 3}}}, impl.Check{Stamp: 5, NextGen: 6, NextSeq: 7, NextValid: 8, Refs: []impl.Ref{{No: 1, Gen: 2}}}},
	} {
		if got := impl.CheckOf(c.log); !sameCheck(got, c.want) {
			t.Errorf("%s: %+v, not %+v", what, got, c.want)
		}
	}
}

// CheckOf does not ask whether the log is right; of a right one it makes a
// right check, unless its Stamp is the greatest.
func TestCheckOf(t *testing.T) {
	for what, g := range rightLogs() {
		got := impl.CheckOf(g)
		if !sameCheck(got, checkOfAsSaid(g)) || impl.CheckOk(got) != (g.Stamp < impl.MaxNumber) {
			t.Errorf("%s: %+v of %s", what, got, tellLog(g))
		}
	}
	for what, g := range wrongLogs() {
		if got := impl.CheckOf(g); !sameCheck(got, checkOfAsSaid(g)) {
			t.Errorf("%s: %+v of %s", what, got, tellLog(g))
		}
	}
	long := impl.Log{Stamp: -9, Used: slices.Repeat([]impl.Seg{{No: -4, Gen: 77}}, 30)}
	if got := impl.CheckOf(long); got.Stamp != -8 || len(got.Refs) != 30 || got.Refs[29] != (impl.Ref{No: -4, Gen: 77}) {
		t.Errorf("of 30 segments in use CheckOf has %+v", got)
	}
}

// fixes asks for the answer as the document says it, and that the disk and
// the check that were handed in are as they were.
func fixes(t *testing.T, what string, d impl.Disk, c impl.Check) (impl.Disk, bool) {
	t.Helper()
	disk, check := ofDisk(d), copyOfCheck(c)
	want, right := fixAsSaid(d, c)
	got, ok := impl.WriteCheck(d, c)
	if ok != right || !sameDisk(got, want) {
		t.Errorf("%s: WriteCheck of %+v is %v, not %v, or leaves another disk", what, c, ok, right)
	}
	if !sameDisk(d, disk) || !sameCheck(c, check) {
		t.Errorf("%s: what is handed in is written on", what)
	}
	return got, ok
}

// newest asks for the answer as the document says it.
func newest(t *testing.T, what string, d impl.Disk) (impl.Check, bool) {
	t.Helper()
	before := ofDisk(d)
	want, right := newestAsSaid(d)
	got, ok := impl.NewestCheck(d)
	if ok != right || !sameCheck(got, want) {
		t.Errorf("%s: NewestCheck is %+v, %v, not %+v, %v", what, got, ok, want, right)
	}
	if !sameDisk(d, before) {
		t.Errorf("%s: the disk handed in is written on", what)
	}
	return got, ok
}

// tellsNewest asks for this check.
func tellsNewest(t *testing.T, what string, d impl.Disk, want impl.Check) {
	t.Helper()
	if got, ok := newest(t, what, d); !ok || !sameCheck(got, want) {
		t.Errorf("%s: NewestCheck is %+v, %v, not %+v", what, got, ok, want)
	}
}

func tellsNoCheck(t *testing.T, what string, d impl.Disk) {
	t.Helper()
	if got, ok := newest(t, what, d); ok || !sameCheck(got, impl.Check{}) {
		t.Errorf("%s: NewestCheck is %+v, %v", what, got, ok)
	}
}

func TestWriteCheckOnAKnownDisk(t *testing.T) {
	d := unlikeDisk(sectorsOf(5))
	for stamp, first := range map[int]int{7: 4, 8: 0} {
		c := plainCheck(stamp)
		got, ok := impl.WriteCheck(d, c)
		text := checkAsSaid(c)
		if !ok || len(got.Sectors) != len(d.Sectors) || len(got.Cache) != 0 {
			t.Fatalf("Stamp %d: %v, %d sectors, %d writes", stamp, ok, len(got.Sectors), len(got.Cache))
		}
		for at, s := range got.Sectors {
			want := d.Sectors[at]
			if at == first {
				want = text + want[len(text):]
			}
			if s != want {
				t.Errorf("Stamp %d: sector %d is %q", stamp, at, s)
			}
		}
	}
	long := greatestCheck(impl.MaxNumber - 1)
	got, ok := impl.WriteCheck(d, long)
	text := checkAsSaid(long)
	if !ok || strings.Join(got.Sectors[4:7], "") != text+d.Sectors[6][len(text)-64:] || !slices.Equal(got.Sectors[7:], d.Sectors[7:]) || !slices.Equal(got.Sectors[:4], d.Sectors[:4]) {
		t.Errorf("%v: the longest one is written elsewhere, or more than it", ok)
	}
}

func TestWriteCheckInBothRegions(t *testing.T) {
	for what, c := range rightChecks() {
		for _, n := range []int{8, 9, sectorsOf(5), impl.MaxSectors} {
			d := unlikeDisk(n)
			for range 2 {
				got, ok := fixes(t, what, d, c)
				if !ok {
					t.Fatalf("%s: not written on %d sectors", what, n)
				}
				tellsNewest(t, what, got, c)
				again, _ := fixes(t, what+", again", got, c)
				if !sameDisk(again, got) {
					t.Errorf("%s: written again it is another disk", what)
				}
				if c.Stamp > 1 {
					d = putFrom(d, 128*(1-c.Stamp%2), checkAsSaid(plainCheck(c.Stamp-1)))
				}
			}
		}
	}
}

func TestWriteCheckOverAnother(t *testing.T) {
	for _, stamp := range []int{7, 8} {
		for _, over := range []int{stamp, stamp - 2, stamp + 2, impl.MaxNumber - stamp%2} {
			for what, old := range map[string]impl.Check{"shorter": leastCheck(over), "as long": plainCheck(over), "longer": greatestCheck(over)} {
				d := putFrom(unlikeDisk(sectorsOf(5)), 128*(over%2), checkAsSaid(old))
				got, ok := fixes(t, what, d, plainCheck(stamp))
				if !ok {
					t.Errorf("%s: not written", what)
				}
				tellsNewest(t, what, got, plainCheck(stamp))
			}
		}
	}
}

func TestWriteCheckRefusesWrongChecks(t *testing.T) {
	d := unlikeDisk(sectorsOf(5), impl.Write{At: 2, Text: filled('w')})
	d = impl.Disk{Sectors: putFrom(d, 0, checkAsSaid(plainCheck(8))).Sectors, Cache: d.Cache[:1]}
	for what, c := range wrongChecks() {
		if got, ok := fixes(t, what, d, c); ok || !sameDisk(got, d) {
			t.Errorf("%s: written", what)
		}
	}
}

// wrongCheckDisks are disks that have both regions, but are not right.
func wrongCheckDisks() map[string]impl.Disk {
	disks := wrongSegmentDisks()
	for what, d := range wrongDisks() {
		disks[what+", few sectors"] = d
	}
	return disks
}

func TestWriteCheckRefusesWrongDisks(t *testing.T) {
	for what, d := range wrongCheckDisks() {
		for _, c := range []impl.Check{leastCheck(1), leastCheck(2), plainCheck(7), plainCheck(8), greatestCheck(9), {}} {
			if got, ok := fixes(t, what, d, c); ok || !sameDisk(got, d) {
				t.Errorf("%s: written", what)
			}
		}
	}
}

// On a disk that ends within a region, a check is written that fits there, and
// is read again; one that does not is refused.
func TestWriteCheckOnADiskThatIsTooSmall(t *testing.T) {
	for n := 1; n < 8; n++ {
		for _, cache := range [][]impl.Write{nil, {{At: 0, Text: filled('w')}}} {
			for _, stamp := range []int{1, 2} {
				for _, c := range []impl.Check{leastCheck(stamp), turnedCheck(func(c *impl.Check) { c.Stamp, c.Refs = stamp, refsOf(11) }), greatestCheck(stamp)} {
					d := unlikeDisk(n, cache...)
					got, ok := fixes(t, fmt.Sprint(n, " sectors"), d, c)
					if fits := len(checkAsSaid(c)) <= 32*(n-4*(stamp%2)); ok != fits {
						t.Errorf("%d bytes with Stamp %d on %d sectors: %v", len(checkAsSaid(c)), stamp, n, ok)
					}
					if ok {
						tellsNewest(t, fmt.Sprint(n, " sectors"), got, c)
						continue
					}
					tellsNoCheck(t, fmt.Sprint(n, " sectors"), got)
				}
			}
		}
	}
}

func TestWriteCheckFlushesWhatWaits(t *testing.T) {
	for _, c := range []impl.Check{leastCheck(1), plainCheck(8), greatestCheck(impl.MaxNumber), greatestCheck(5)} {
		need := (len(checkAsSaid(c)) + 31) / 32
		for _, waiting := range []int{1, 5, 30, impl.MaxCache - need - 1, impl.MaxCache - need, impl.MaxCache - need + 1, impl.MaxCache} {
			d := unlikeDisk(sectorsOf(6), cacheOf(waiting, 20)...)
			got, ok := fixes(t, "what waits", d, c)
			if ok != (waiting+need <= impl.MaxCache) {
				t.Errorf("%d writes wait, %d more: %v", waiting, need, ok)
			}
			if !ok {
				if !sameDisk(got, d) {
					t.Errorf("%d writes wait: refused, it is another disk", waiting)
				}
				continue
			}
			tellsNewest(t, "what waits", got, c)
			flushed := impl.FlushDisk(d)
			if len(got.Cache) != 0 || !slices.Equal(got.Sectors[8:], flushed.Sectors[8:]) {
				t.Errorf("%d writes wait: they are not flushed with it", waiting)
			}
		}
	}
}

// withChecks has these texts in the regions.
func withChecks(n int, first, second string) impl.Disk {
	return putFrom(putFrom(unlikeDisk(n), 0, first), 128, second)
}

func TestNewestCheck(t *testing.T) {
	one := func(stamp int) string { return checkAsSaid(plainCheck(stamp)) }
	for what, c := range map[string]struct {
		first, second string
		want          impl.Check
	}{
		"none":                                   {"", "", impl.Check{}},
		"in the first region":                    {one(8), "", plainCheck(8)},
		"in the second region":                   {"", one(7), plainCheck(7)},
		"the newer one in the first":             {one(8), one(7), plainCheck(8)},
		"the newer one in the second":            {one(8), one(9), plainCheck(9)},
		"far newer in the first":                 {one(impl.MaxNumber), one(1), plainCheck(impl.MaxNumber)},
		"far newer in the second":                {one(2), one(impl.MaxNumber - 1), plainCheck(impl.MaxNumber - 1)},
		"a Stamp that is less byte by byte":      {one(128), one(127), plainCheck(128)},
		"the first one torn":                     {one(8)[:9] + "\x00", one(7), plainCheck(7)},
		"the newer one torn in the second":       {one(8), one(9)[:16] + "\x00\x00\x00\x00", plainCheck(8)},
		"both torn":                              {one(8)[:9] + "\x00", one(9)[:9] + "\x00", impl.Check{}},
		"the first one not right":                {checkAsSaid(wrongChecks()["a No twice, far off"]), one(1), plainCheck(1)},
		"the second one not right, but newer":    {one(2), checkAsSaid(turnedCheck(func(c *impl.Check) { c.Stamp, c.Refs = 9, nil })), plainCheck(2)},
		"one byte further on":                    {"\x00" + one(8), "\x00" + one(9), impl.Check{}},
		"in the region that is not its own":      {one(7), "", plainCheck(7)},
		"in the other that is not its own":       {"", one(8), plainCheck(8)},
		"both in one that is not their own":      {one(9), one(8), plainCheck(9)},
		"newer in the second, not their own":     {one(7), one(8), plainCheck(8)},
		"the same one in both":                   {one(8), one(8), plainCheck(8)},
		"two of one Stamp, the first one told":   {checkAsSaid(leastCheck(8)), one(8), leastCheck(8)},
		"two of one Stamp, the first one's own":  {checkAsSaid(leastCheck(9)), one(9), leastCheck(9)},
		"two of one Stamp, the other way about":  {one(9), checkAsSaid(leastCheck(9)), plainCheck(9)},
		"two of one Stamp, the first one torn":   {checkAsSaid(leastCheck(8))[:11] + "\xff", one(8), plainCheck(8)},
		"the longest in both":                    {checkAsSaid(greatestCheck(4)), checkAsSaid(greatestCheck(5)), greatestCheck(5)},
		"two behind each other in one region":    {checkAsSaid(leastCheck(2)) + one(4), "", leastCheck(2)},
		"other numbers greater than the other's": {checkAsSaid(greatestCheck(2)), checkAsSaid(leastCheck(3)), leastCheck(3)},
	} {
		for _, n := range []int{8, sectorsOf(5), impl.MaxSectors} {
			d := withChecks(n, c.first, c.second)
			if c.want.Stamp == 0 {
				tellsNoCheck(t, what, d)
				continue
			}
			tellsNewest(t, what, d, c.want)
		}
	}
}

func TestNewestCheckOfOtherDisks(t *testing.T) {
	for what, d := range rightDisks() {
		tellsNoCheck(t, what, d)
	}
	for what, d := range wrongCheckDisks() {
		tellsNoCheck(t, what, d)
	}
	for n := 1; n <= impl.MaxSectors; n++ {
		d, _ := impl.DiskNew(n)
		tellsNoCheck(t, "a new disk", d)
	}
	for seg := range 5 {
		tellsNoCheck(t, "a check in a segment", putAsSaid(unlikeDisk(sectorsOf(5)), seg, 0, checkAsSaid(plainCheck(8))))
	}
	for _, from := range []int{32, 64, 96, 160, 192, 224} {
		tellsNoCheck(t, "a check within a region", putFrom(unlikeDisk(sectorsOf(5)), from, checkAsSaid(leastCheck(8))))
	}
	tellsNewest(t, "a disk that ends with its first region", putFrom(unlikeDisk(4), 0, checkAsSaid(plainCheck(8))), plainCheck(8))
}

// NewestCheck does not ask whether the disk is right: what is read in the
// regions counts, also what waits.
func TestNewestCheckOfWhatIsRead(t *testing.T) {
	older, newer := plainCheck(8), plainCheck(9)
	d := withChecks(sectorsOf(5), checkAsSaid(older), "")
	waiting, _ := impl.WriteBytes(d, 4, 0, checkAsSaid(newer))
	if len(waiting.Cache) == 0 {
		t.Fatal("nothing waits")
	}
	tellsNewest(t, "what waits", waiting, newer)
	tellsNewest(t, "what went", impl.CrashDisk(waiting, nil, 0), older)
	torn, _ := impl.WriteBytes(d, 0, 3, "\xff")
	tellsNoCheck(t, "what waits over it", torn)
	wrong := ofDisk(d)
	wrong.Sectors[40] = "short"
	tellsNewest(t, "a disk that is not right", wrong, older)
	wrong = ofDisk(d)
	wrong.Cache = []impl.Write{{At: 0, Text: checkAsSaid(leastCheck(4))}}
	tellsNewest(t, "a write that is too short", wrong, leastCheck(4))
	wrong.Cache = []impl.Write{{At: 4, Text: checkAsSaid(greatestCheck(10))}}
	tellsNewest(t, "a write that is too long", wrong, greatestCheck(10))
	wrong.Cache = []impl.Write{{At: 4, Text: checkAsSaid(greatestCheck(10))[:40]}, {At: 5, Text: checkAsSaid(greatestCheck(10))[40:]}}
	tellsNewest(t, "one in two sectors that are not right", wrong, greatestCheck(10))
}

// formatAsSaid is the document's own words.
func formatAsSaid(segs int) impl.Log {
	d, _ := impl.DiskNew(8 + 8*segs)
	mark := frameAsSaid(impl.Frame{Gen: 1, Seq: 1, Body: "seg"})
	d = putFrom(d, 256, mark)
	d = putFrom(d, 128, checkAsSaid(impl.Check{Stamp: 1, NextGen: 2, NextSeq: 1, NextValid: 1, Refs: []impl.Ref{{No: 0, Gen: 1}}}))
	return impl.Log{Disk: d, Segs: segs, Used: []impl.Seg{{No: 0, Gen: 1, End: len(mark)}}, NextGen: 2, NextSeq: 1, Stamp: 1, NextValid: 1}
}

func TestFormatDisk(t *testing.T) {
	for segs := impl.MinSegs; segs <= impl.MaxSegs; segs++ {
		g, ok := impl.FormatDisk(segs)
		if want := formatAsSaid(segs); !ok || !alikeLogs(g, want) {
			t.Errorf("FormatDisk(%d) is %v, %s, not %s, or has another disk", segs, ok, tellLog(g), tellLog(want))
			continue
		}
		isRight(t, "a new one", g)
		tellsNewest(t, "a new one", g.Disk, leastCheck(1))
		if impl.SegsOf(g.Disk) != segs || len(g.Disk.Sectors) != sectorsOf(segs) || len(impl.FreeSegs(g)) != segs-1 || len(impl.ItemsOf(g)) != 0 {
			t.Errorf("FormatDisk(%d) has %d segments, %v free", segs, impl.SegsOf(g.Disk), impl.FreeSegs(g))
		}
		segHas(t, "a new one", g.Disk, 0, 1, nil, 10)
		for seg := 1; seg < segs; seg++ {
			if impl.SegText(g.Disk, seg) != strings.Repeat("\x00", impl.SegSize) {
				t.Errorf("FormatDisk(%d) has something in segment %d", segs, seg)
			}
		}
		if first, _ := impl.SectorText(g.Disk, 0, 4); first != strings.Repeat("\x00", 128) {
			t.Errorf("FormatDisk(%d) has something in the first region", segs)
		}
	}
}

func TestFormatDiskRefuses(t *testing.T) {
	for _, segs := range []int{impl.MinSegs - 1, impl.MaxSegs + 1, 0, 1, 3, -1, -impl.MinSegs, 12, 100, 5 + 256, 5 + 1<<32, 1 << 61, math.MaxInt, math.MinInt} {
		if g, ok := impl.FormatDisk(segs); ok || !alikeLogs(g, impl.Log{}) {
			t.Errorf("FormatDisk(%d) is %v, %s", segs, ok, tellLog(g))
		}
	}
}

// fixLog writes the log's check, whose Stamp it has from then on.
func fixLog(t *testing.T, what string, g impl.Log) impl.Log {
	t.Helper()
	c := impl.CheckOf(g)
	d, ok := fixes(t, what, g.Disk, c)
	if !ok {
		t.Fatalf("%s: %+v is not written", what, c)
	}
	tellsNewest(t, what, d, c)
	for seg := range g.Segs {
		if impl.SegText(d, seg) != impl.SegText(g.Disk, seg) {
			t.Errorf("%s: segment %d is another", what, seg)
		}
	}
	g.Disk, g.Stamp = d, c.Stamp
	isRight(t, what, g)
	return g
}

// Promise 10, of a log that is appended to, and fixed again and again.
func TestWhatIsFixedIsReadAgain(t *testing.T) {
	for segs := impl.MinSegs; segs <= impl.MaxSegs; segs++ {
		g, _ := impl.FormatDisk(segs)
		g = fixLog(t, "at once", g)
		g = fixLog(t, "and again", g)
		d := drawing(segs)
		for i := range 60 {
			last, _ := impl.NewestCheck(g.Disk)
			g = liveOn(t, &d, g)
			tellsNewest(t, "before it is fixed", g.Disk, last)
			g = fixLog(t, "a drawn life", g)
			if t.Failed() {
				t.Fatalf("%d segments, step %d", segs, i)
			}
		}
		if g.Stamp != 63 {
			t.Errorf("after 63 checks the Stamp is %d", g.Stamp)
		}
	}
}

// keepsOf is every choice among n writes.
func keepsOf(n int) [][]int {
	out := [][]int{}
	for bits := range 1 << n {
		keep := []int{}
		for i := range n {
			keep = append(keep, bits>>i&1)
		}
		out = append(out, keep)
	}
	return out
}

// Promise 10, of what is torn while a check is written: whatever is kept of
// it, the older one is told, or the newer one.
func TestATornCheckTellsTheOlderOrTheNewer(t *testing.T) {
	told := map[string]int{}
	for _, older := range []impl.Check{leastCheck(8), plainCheck(8), greatestCheck(8), plainCheck(9), greatestCheck(9)} {
		newer := older.Stamp + 1
		for _, next := range []impl.Check{leastCheck(newer), plainCheck(newer), turnedCheck(func(c *impl.Check) { c.Stamp, c.Refs = newer, refsOf(11) }), greatestCheck(newer)} {
			// What lay in the region is one still older, or none.
			for _, lay := range []string{"", checkAsSaid(leastCheck(newer - 2)), checkAsSaid(plainCheck(newer - 2)), checkAsSaid(greatestCheck(newer - 2)), filled(0) + filled(0) + filled(0)} {
				d := putFrom(unlikeDisk(sectorsOf(5)), 128*(newer%2), lay)
				d = putFrom(d, 128*(older.Stamp%2), checkAsSaid(older))
				waiting, ok := impl.WriteBytes(d, 4*(newer%2), 0, checkAsSaid(next))
				if !ok || len(waiting.Cache) < 1 || len(waiting.Cache) > 3 {
					t.Fatalf("%v, %d writes", ok, len(waiting.Cache))
				}
				for _, keep := range keepsOf(len(waiting.Cache)) {
					for tear := range 33 {
						torn := impl.CrashDisk(waiting, keep, tear)
						got, ok := newest(t, "torn", torn)
						switch {
						case ok && sameCheck(got, older):
							told["older"]++
						case ok && sameCheck(got, next):
							told["newer"]++
						default:
							t.Fatalf("kept %v, torn at %d: %+v, %v; neither %+v nor %+v", keep, tear, got, ok, older, next)
						}
						if whole := !slices.Contains(keep, 0) && tear == 32; whole && !sameCheck(got, next) {
							t.Errorf("all is kept, and %+v is told", got)
						}
						if !slices.Contains(keep, 1) && !sameCheck(got, older) {
							t.Errorf("nothing is kept, and %+v is told", got)
						}
					}
				}
			}
		}
	}
	if told["older"] < 100 || told["newer"] < 100 {
		t.Errorf("told: %v", told)
	}
}

// What is torn is another check where it has that one's sum: what lay there
// was the end of it.
func TestATornCheckThatHasTheSumOfAnotherOne(t *testing.T) {
	older, next, other := plainCheck(8), plainCheck(9), plainCheck(9)
	other.Refs[2].Gen = 201
	text, rest := checkAsSaid(next), checkAsSaid(other)
	from := 0
	for text[from] == rest[from] {
		from++
	}
	d := withChecks(sectorsOf(5), checkAsSaid(older), strings.Repeat("\xff", from)+rest[from:])
	tellsNewest(t, "before", d, older)
	waiting, _ := impl.WriteBytes(d, 4, 0, text)
	tellsNewest(t, "torn", impl.CrashDisk(waiting, []int{1}, from), other)
	tellsNewest(t, "torn a byte earlier", impl.CrashDisk(waiting, []int{1}, from-1), older)
	tellsNewest(t, "torn a byte later", impl.CrashDisk(waiting, []int{1}, from+1), older)
	tellsNewest(t, "whole", impl.CrashDisk(waiting, []int{1}, 32), next)
}

// The check of a new disk comes up whatever is torn of the next one.
func TestATornCheckBesideThatOfANewDisk(t *testing.T) {
	g, _ := impl.FormatDisk(impl.MinSegs)
	g, _ = impl.AppendRec(g, boxItem(0, 1, 1, "ann", "inbox").Rec, 2)
	waiting, _ := impl.WriteBytes(g.Disk, 0, 0, checkAsSaid(impl.CheckOf(g)))
	for tear := range 33 {
		want := leastCheck(1)
		if tear >= len(checkAsSaid(impl.CheckOf(g))) {
			want = impl.CheckOf(g)
		}
		torn := copyOfLog(g)
		torn.Disk = impl.CrashDisk(waiting, []int{1}, tear)
		tellsNewest(t, fmt.Sprint("torn at ", tear), torn.Disk, want)
		isRight(t, "torn", torn)
	}
}

func roomyCheck(c impl.Check) impl.Check {
	refs := append(append(make([]impl.Ref, 0, len(c.Refs)+2), c.Refs...), impl.Ref{No: 55}, impl.Ref{No: 56})
	c.Refs = refs[:len(c.Refs)]
	return c
}

func TestNoCheckIsWrittenOn(t *testing.T) {
	checks := rightChecks()
	for what, c := range wrongChecks() {
		checks[what] = c
	}
	for what, plain := range checks {
		c := roomyCheck(plain)
		before := slices.Clone(c.Refs[:cap(c.Refs)])
		text, ok := impl.CheckText(c)
		again, _ := impl.CheckText(c)
		impl.CheckOk(c)
		noneShared(t, what, []string{text, again})
		given, buffer := roomy(text)
		first, _ := impl.ReadCheck(given)
		second, _ := impl.ReadCheck(given)
		scribbleOver(first.Refs, impl.Ref{No: 66, Gen: 66})
		if ok && !sameCheck(second, plain) || string(buffer) != text+"room behind it" {
			t.Errorf("%s: two that are read share memory, or the text is written on", what)
		}
		if !slices.Equal(c.Refs[:cap(c.Refs)], before) || !sameCheck(c, plain) {
			t.Errorf("%s: the check is written on", what)
		}
	}
}

func TestNoDiskIsWrittenOnByACheck(t *testing.T) {
	disks := map[string]impl.Disk{
		"two checks": withChecks(sectorsOf(6), checkAsSaid(plainCheck(8)), checkAsSaid(greatestCheck(9))),
		"none":       unlikeDisk(sectorsOf(5), cacheOf(7, 30)...), "a full Cache": unlikeDisk(9, cacheOf(impl.MaxCache, 9)...), "too small": unlikeDisk(3),
	}
	for what, d := range wrongCheckDisks() {
		disks[what] = d
	}
	for what, plain := range disks {
		for _, c := range []impl.Check{plainCheck(10), plainCheck(11), greatestCheck(12), {}} {
			given := roomyLog(impl.Log{Disk: plain}).Disk
			check := roomyCheck(c)
			before, refs := ofDisk(fully(given)), slices.Clone(check.Refs[:cap(check.Refs)])
			first, _ := impl.WriteCheck(given, check)
			second, _ := impl.WriteCheck(given, check)
			told, _ := impl.NewestCheck(given)
			toldAgain, _ := impl.NewestCheck(given)
			noneOfManyShared(t, what, slices.Concat(textsOfDisk(given), textsOfDisk(first), textsOfDisk(second)))
			want, _ := fixAsSaid(plain, c)
			wantTold, _ := newestAsSaid(plain)
			scribble(first)
			scribbleOver(told.Refs, impl.Ref{No: 66, Gen: 66})
			if !sameDisk(second, want) || !sameCheck(toldAgain, wantTold) {
				t.Errorf("%s: two answers share memory", what)
			}
			if !sameDisk(fully(given), before) || !slices.Equal(check.Refs[:cap(check.Refs)], refs) {
				t.Errorf("%s: what is handed in is written on", what)
			}
		}
	}
}

func TestNoLogIsWrittenOnByCheckOf(t *testing.T) {
	for what, plain := range map[string]impl.Log{"several": severalLog(), "new": newLog(5), "nothing": {}, "great": greatLog(), "full": fullestLog(7)} {
		g := roomyLog(plain)
		before := fullLog(g)
		first, second := impl.CheckOf(g), impl.CheckOf(g)
		scribbleOver(first.Refs, impl.Ref{No: 66, Gen: 66})
		if !sameCheck(second, checkOfAsSaid(plain)) {
			t.Errorf("%s: two answers share memory", what)
		}
		if !alikeLogs(fullLog(g), before) || !alikeLogs(g, plain) {
			t.Errorf("%s: the log handed in is written on", what)
		}
	}
}

func TestNoNewDiskSharesMemory(t *testing.T) {
	first, _ := impl.FormatDisk(7)
	second, _ := impl.FormatDisk(7)
	noneOfManyShared(t, "two new ones", slices.Concat(textsOfLog(first), textsOfLog(second)))
	listsOfTheirOwn(t, "a new one", first)
	scribbleLog(first)
	if !alikeLogs(second, formatAsSaid(7)) {
		t.Error("two new ones share memory")
	}
}
