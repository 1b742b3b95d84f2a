package hard

import "tensile/api"

// bias returns that of the machine. What a block alone tells lies within that of no blocks.
func (m Machine) bias() Range {
	var lows, highs []int
	for _, x := range m.Blocks {
		lows = append(lows, x.Read-x.Value.Hi)
		highs = append(highs, x.Read-x.Value.Lo)
	}
	return Range{greatest(-api.MaxHardValue, lows...), least(api.MaxHardValue, highs...)}
}

func (m Machine) isOff() bool { return m.bias().isEmpty() }

// off returns the machines that are off, rising.
func (b Book) off() []int {
	var all []int
	for i, m := range b.Machines {
		if m.isOff() {
			all = append(all, i)
		}
	}
	return all
}

// spans has a range for each scale, and 0..0 where the book has no scale.
type spans [api.MaxHardScales]Range

func (s spans) isEmpty() bool {
	for _, r := range s {
		if r.isEmpty() {
			return true
		}
	}
	return false
}

// way is that of tables between two scales.
type way struct{ from, to int }

// bench is where a specimen is read: a book, readings and the tables of each way.
type bench struct {
	Book
	readings []Reading
	tables   map[way][]Table
}

// layOn returns the bench of a book and readings, or their error.
func layOn(b Book, readings []Reading) (bench, api.Errno) {
	if e := b.checkReadings(readings); e != api.OK {
		return bench{}, e
	}
	o := bench{b, readings, map[way][]Table{}}
	for _, t := range b.Tables {
		w := way{t.From, t.To}
		o.tables[w] = append(o.tables[w], t)
	}
	return o, api.OK
}

// widest returns the spans of which nothing is cut yet.
func (o bench) widest() spans {
	var s spans
	for scale := range o.Scales {
		s[scale] = everyValue()
	}
	return s
}

// truth returns the values of which the reading can be.
func (o bench) truth(x Reading) Range {
	bias := o.Machines[x.Machine].bias()
	return Range{x.Read - bias.Hi, x.Read - bias.Lo}
}

// cut returns the spans with that of the reading's scale cut by it.
func (o bench) cut(s spans, x Reading) spans {
	scale := o.Machines[x.Machine].Scale
	s[scale] = s[scale].cut(o.truth(x))
	return s
}

// convert returns the spans with all those cut to which a table leads from the one scale.
func (o bench) convert(s spans, from int) spans {
	for to := range o.Scales {
		for _, t := range o.tables[way{from, to}] {
			if converts := t.converts; converts(s[from]) {
				s[to] = s[to].cut(t.makes(s[from]))
			}
		}
	}
	return s
}

// settle returns the spans that no table changes any more. The tables from a scale are asked again only if its span is another one, as a ring of tables may cut by 1 each time. Of a span that is empty nothing is made.
func (o bench) settle(s spans) spans {
	var asked spans // It begins with 0..0, which no table converts, as each X is above 0.
search:
	for s != asked {
		for from := range o.Scales {
			switch {
			case s.isEmpty():
				break search
			case s[from] != asked[from]:
				asked[from] = s[from]
				s = o.convert(s, from)
			}
		}
	}
	return s
}

// spansOfAll returns the spans of the specimen by all readings; one of them is empty if these do not fit together.
func (o bench) spansOfAll() spans {
	s := o.widest()
	for _, x := range o.readings {
		s = o.cut(s, x)
	}
	return o.settle(s)
}

// fit reports whether a value for each scale fits the book and the readings.
func (o bench) fit(values []int) bool {
	isTrue := func(x Reading) bool { return o.truth(x).has(values[o.Machines[x.Machine].Scale]) }
	agrees := func(t Table) bool {
		from := Range{values[t.From], values[t.From]}
		return !t.converts(from) || t.makes(from).has(values[t.To])
	}
	return each(o.readings, isTrue) && each(o.Tables, agrees)
}
