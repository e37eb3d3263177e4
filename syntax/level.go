package syntax

import "faas/api"

// The levels of expressions: a part of an expression has at least the level that its place requires, or stands in parentheses.
const (
	noLevel = iota
	orLevel
	andLevel
	notLevel
	comparisonLevel
	sumLevel
	productLevel
	minusLevel
	indexLevel
	primaryLevel
)

// binaryLevel returns the level of a binary operator, and noLevel for any other text.
func binaryLevel(operator string) int {
	switch operator {
	case "or":
		return orLevel
	case "and":
		return andLevel
	case "==", "!=", "<", "<=", ">", ">=":
		return comparisonLevel
	case "+", "-":
		return sumLevel
	case "*", "/", "%":
		return productLevel
	}
	return noLevel
}

// operandLevels returns the levels that a binary operator of the level requires on its left and on its right.
func operandLevels(level int) (int, int) {
	if level == comparisonLevel {
		// Comparisons do not follow each other.
		return level + 1, level + 1
	}
	return level, level + 1
}

// unaryLevel returns the level of a unary operator, which is also what it requires of its operand.
func unaryLevel(operator string) int {
	if operator == "not" {
		return notLevel
	}
	return minusLevel
}

func levelOf(n api.Node) int {
	switch n.Kind {
	case api.NdUnary:
		return unaryLevel(n.Text)
	case api.NdBinary:
		return binaryLevel(n.Text)
	case api.NdIndex:
		return indexLevel
	}
	return primaryLevel
}
