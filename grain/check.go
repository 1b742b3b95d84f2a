package grain

import "tensile/api"

// each reports whether all elements of a list pass a test.
func each[T any](list []T, passes func(T) bool) bool {
	for _, x := range list {
		if !passes(x) {
			return false
		}
	}
	return true
}

func (r Range) has(n int) bool { return r.Lo <= n && n <= r.Hi }

// cut returns what another range leaves of one; its Lo is above its Hi if that is nothing.
func (r Range) cut(by Range) Range { return Range{max(r.Lo, by.Lo), min(r.Hi, by.Hi)} }

func (r Range) plus(other Range) Range { return Range{r.Lo + other.Lo, r.Hi + other.Hi} }

func everyGrade() Range { return Range{0, api.MaxGrainGrade} }

// everyDifference returns what the grades of two pictures can differ by.
func everyDifference() Range { return Range{-api.MaxGrainGrade, api.MaxGrainGrade} }

func (a Album) hasPicture(picture int) bool { return 0 <= picture && picture < a.Pictures }

func (a Album) isComparison(c Comparison) bool {
	between := a.hasPicture(c.Left) && (c.Right == Chart || a.hasPicture(c.Right)) && c.Left != c.Right
	return between && everyDifference().has(c.Least) && everyDifference().has(c.Most) && c.Least <= c.Most
}

func (a Album) check() api.Errno {
	switch {
	case len(a.Comparisons) > api.MaxGrainComparisons:
		return api.ErrLimit
	case a.Pictures < 0 || a.Pictures > api.MaxGrainPictures || !each(a.Comparisons, a.isComparison):
		return api.ErrArg
	}
	return api.OK
}

func (a Album) checkPictures(pictures ...int) api.Errno {
	if e := a.check(); e != api.OK {
		return e
	}
	if !each(pictures, a.hasPicture) {
		return api.ErrRange
	}
	return api.OK
}

// checkChain finds all errors but that of a list that is no chain.
func (a Album) checkChain(picture int, chain []int) api.Errno {
	if e := a.checkPictures(picture); e != api.OK {
		return e
	}
	if len(chain) > api.MaxGrainChain {
		return api.ErrLimit
	}
	return api.OK
}

// gradeList has a grade for each picture.
type gradeList []int

func (g gradeList) of(picture int) int {
	if picture == Chart {
		return 0
	}
	return g[picture]
}

// agrees reports whether the comparison says what is so.
func (g gradeList) agrees(c Comparison) bool {
	return Range{c.Least, c.Most}.has(g.of(c.Left) - g.of(c.Right))
}

// fits reports whether all comparisons say what is so by the grades.
func (a Album) fits(grades gradeList) bool {
	saysWhatIsSo := grades.agrees
	return each(a.Comparisons, saysWhatIsSo)
}
