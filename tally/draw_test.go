package tally

import (
	"math/rand"
	"strings"
)

// drawing is a drawn text by the rules of proofs, and what comes of it by the document's words. Most drawings are of no table.
type drawing struct {
	source *rand.Rand
	keys   []int
	// faults lets parts of the text break the rules; broken tells whether one does.
	faults, broken bool
	told           map[int]string
	asides         []asideRange
	text           string
	sum            Sum
}

// asideRange is what a drawing has aside: count is 0, 1, or 2 for more.
type asideRange struct {
	first, last, count int
	sum                Sum
}

func draw(source *rand.Rand, keys []int, faults bool) *drawing {
	d := &drawing{source: source, keys: keys, faults: faults, told: map[int]string{}}
	d.text, d.sum = d.drawNode(0, maxKey)
	switch {
	case d.breaks():
		d.text = d.text[:source.Intn(len(d.text))]
	case d.breaks():
		d.text += strings.Repeat(string([]byte{byte(source.Intn(6))}), 1+source.Intn(3))
	}
	return d
}

// breaks decides whether a fault is made.
func (d *drawing) breaks() bool {
	if !d.faults || d.source.Intn(40) > 0 {
		return false
	}
	d.broken = true
	return true
}

func (d *drawing) drawNode(first, last int) (string, Sum) {
	if d.breaks() {
		return string([]byte{byte(6 + d.source.Intn(250))}), Sum{}
	}
	aside := len(keysBetween(d.keys, first, last)) == 0
	if d.breaks() {
		aside = !aside
	}
	shape := d.source.Intn(5)
	if first == last && shape > 1 && !d.breaks() {
		shape = d.source.Intn(2)
	}
	if aside {
		return d.drawAside(shape, first, last)
	}
	switch shape {
	case 0:
		return "\x03", Sum{}
	case 1:
		key, value := d.drawKey(first, last), d.drawValue()
		d.told[key] = value
		return leafText(key, value), wantedLeaf(Entry{key, value})
	}
	if first == last {
		return "\x05\x00\x03", wantedPair(Sum{}, Sum{})
	}
	middle := (first + last) / 2
	leftText, left := d.drawNode(first, middle)
	rightText, right := d.drawNode(middle+1, last)
	return "\x05" + leftText + rightText, wantedPair(left, right)
}

func (d *drawing) drawAside(shape, first, last int) (string, Sum) {
	switch shape {
	case 0:
		return "\x00", Sum{}
	case 1:
		key, value := d.drawKey(first, last), d.drawSum()
		sum := joinedSum([]byte{0, byte(key / 256), byte(key % 256)}, value[:])
		d.asides = append(d.asides, asideRange{first, last, 1, sum})
		return "\x01" + keyText(key) + sumText(value), sum
	}
	left, right := d.drawSum(), d.drawSum()
	sum := wantedPair(left, right)
	d.asides = append(d.asides, asideRange{first, last, 2, sum})
	return "\x02" + sumText(left) + sumText(right), sum
}

func (d *drawing) drawKey(first, last int) int {
	if last-first < maxKey && d.breaks() {
		key := d.source.Intn(maxKey + 1)
		for first <= key && key <= last {
			key = d.source.Intn(maxKey + 1)
		}
		return key
	}
	if asked := keysBetween(d.keys, first, last); len(asked) > 0 && d.source.Intn(2) == 0 {
		return asked[d.source.Intn(len(asked))]
	}
	return first + d.source.Intn(last-first+1)
}

func (d *drawing) drawValue() string {
	length := 1 + d.source.Intn(maxValue)
	if d.breaks() {
		length = (maxValue + 1 + d.source.Intn(256-maxValue)) % 256
	}
	value := make([]byte, length)
	d.source.Read(value)
	return string(value)
}

// drawSum draws Z, too: no rule keeps a pair that stands aside from it.
func (d *drawing) drawSum() Sum {
	var sum Sum
	if d.source.Intn(4) > 0 {
		d.source.Read(sum[:])
	}
	return sum
}

func (d *drawing) values() []string {
	values := make([]string, len(d.keys))
	for i, key := range d.keys {
		values[i] = d.told[key]
	}
	return values
}

// sumBehind sums a range anew when changes are made in what is told, by counting keys at each range.
func (d *drawing) sumBehind(changes []Entry) Sum {
	table := map[int]string{}
	for key, value := range d.told {
		table[key] = value
	}
	for _, change := range changes {
		table[change.Key] = change.Value
	}
	var told []Entry
	for key, value := range table {
		if value != "" {
			told = append(told, Entry{key, value})
		}
	}
	return d.sumRange(told, 0, maxKey)
}

func (d *drawing) sumRange(told []Entry, first, last int) Sum {
	inside := between(told, first, last)
	count, one := len(inside), Sum{}
	if count == 1 {
		one = wantedLeaf(inside[0])
	}
	for _, aside := range d.asides {
		if aside.first == first && aside.last == last {
			return aside.sum
		}
		if first <= aside.first && aside.last <= last {
			count += aside.count
			if aside.count == 1 {
				one = aside.sum
			}
		}
	}
	if count == 0 {
		return Sum{}
	}
	if count == 1 {
		return one
	}
	middle := (first + last) / 2
	return wantedPair(d.sumRange(inside, first, middle), d.sumRange(inside, middle+1, last))
}
