package object

import "linchpin/api"

const (
	insSize = 8 // bytes of an instruction
	immSize = 4 // bytes of its Imm, which are the last ones
)

// width returns the number of bytes of the field of a relocation of a kind: of the whole instruction, if it is in one.
func width(kind int) int {
	switch kind {
	case api.RkDelta:
		return 2
	case api.RkDiff4:
		return 4
	}
	return 8
}

// written returns where the bytes begin that a relocation writes: they end with the field.
func written(r api.Rel) int {
	if inCode(r.Kind) {
		return r.At + insSize - immSize
	}
	return r.At
}

// inCode reports whether the fields of a kind of relocations are in instructions.
func inCode(kind int) bool {
	switch kind {
	case api.RkAddr, api.RkCall, api.RkSlot, api.RkLow, api.RkHigh, api.RkTls:
		return true
	}
	return false
}

// takes reports whether the instructions with an Op can have a field of a kind of relocations.
func takes(op, kind int) bool {
	switch op {
	case api.OpAddr, api.OpJump, api.OpZero, api.OpNonzero:
		return kind == api.RkAddr
	case api.OpCall:
		return kind == api.RkCall
	case api.OpCallSlot, api.OpJumpSlot:
		return kind == api.RkSlot
	case api.OpSet:
		return kind == api.RkLow || kind == api.RkTls
	case api.OpHigh:
		return kind == api.RkHigh
	case api.OpAddImm:
		return kind == api.RkTls
	}
	return false
}
