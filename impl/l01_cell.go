package impl

const FtNone = 0
const FtOver = 1
const FtZero = 2
const FtKind = 3
const FtMany = 4
const CeNone = 0
const CeNumber = 1
const CeText = 2
const CeTruth = 3

const leastNumber = -1000000000
const greatestNumber = 1000000000
const longestText = 12

type Cell struct {
	Kind   int64
	Number int64
	Text   string
}

// A cellShape holds only what its kind tells, so that nobody reads a field
// that means nothing there.
type cellShape interface {
	cell() Cell
}

type noneShape struct{}

type numberShape struct{ number int64 }

type textShape struct{ text string }

type truthShape struct{ number int64 }

// A strangeShape stands for every kind that is none, so that no shape is nil.
type strangeShape struct{}

func (s noneShape) cell() Cell { return Cell{Kind: CeNone} }

func (s numberShape) cell() Cell { return Cell{Kind: CeNumber, Number: s.number} }

func (s textShape) cell() Cell { return Cell{Kind: CeText, Text: s.text} }

func (s truthShape) cell() Cell { return Cell{Kind: CeTruth, Number: s.number} }

func (s strangeShape) cell() Cell { return Cell{} }

func cellShapeOf(c Cell) cellShape {
	switch c.Kind {
	case CeNone:
		return noneShape{}
	case CeNumber:
		return numberShape{number: c.Number}
	case CeText:
		return textShape{text: c.Text}
	case CeTruth:
		return truthShape{number: c.Number}
	}
	return strangeShape{}
}

func CellOk(c Cell) bool {
	s := cellShapeOf(c)
	// The shape has dropped what its kind does not tell: where that was not
	// zero, the cell made anew differs.
	return shapeFits(s) && s.cell() == c
}

func shapeFits(s cellShape) bool {
	switch v := s.(type) {
	case noneShape:
		return true
	case numberShape:
		return numberFits(v.number)
	case textShape:
		return textFits(v.text)
	case truthShape:
		return v.number == 0 || v.number == 1
	}
	return false
}

func numberFits(n int64) bool {
	return leastNumber <= n && n <= greatestNumber
}

func textFits(text string) bool {
	if len(text) > longestText {
		return false
	}
	for i := range len(text) {
		if text[i] < 'a' || text[i] > 'z' {
			return false
		}
	}
	return true
}

func Plus(a Cell, b Cell) (Cell, int64) {
	return reckonPair(a, b, func(x int64, y int64) (int64, int64) { return x + y, FtNone })
}

func Less(a Cell, b Cell) (Cell, int64) {
	return reckonPair(a, b, func(x int64, y int64) (int64, int64) { return x - y, FtNone })
}

func Times(a Cell, b Cell) (Cell, int64) {
	return reckonPair(a, b, func(x int64, y int64) (int64, int64) { return x * y, FtNone })
}

func By(a Cell, b Cell) (Cell, int64) {
	return reckonPair(a, b, divide)
}

func divide(x int64, y int64) (int64, int64) {
	if y == 0 {
		return 0, FtZero
	}
	return x / y, FtNone
}

// reckonPair gives how only numbers of right cells: none of their sums,
// differences and products can pass the greatest int64.
func reckonPair(a Cell, b Cell, how func(int64, int64) (int64, int64)) (Cell, int64) {
	x, y := operandOf(a), operandOf(b)
	if !x.right || !y.right {
		return Cell{}, FtKind
	}
	if !x.known || !y.known {
		return Cell{}, FtNone
	}
	n, fault := how(x.number, y.number)
	if fault != FtNone {
		return Cell{}, fault
	}
	if !numberFits(n) {
		return Cell{}, FtOver
	}
	return Cell{Kind: CeNumber, Number: n}, FtNone
}

// An operand is right where it can be reckoned with, and known where it is
// more than CeNone.
type operand struct {
	number int64
	known  bool
	right  bool
}

func operandOf(c Cell) operand {
	if !CellOk(c) {
		return operand{}
	}
	switch s := cellShapeOf(c).(type) {
	case noneShape:
		return operand{right: true}
	case numberShape:
		return operand{number: s.number, known: true, right: true}
	}
	return operand{}
}
