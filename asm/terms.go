package asm

import "linchpin/api"

// places are the words for the kinds of sections.
func places() []string {
	return []string{api.SkCode: "code", api.SkData: "data", api.SkZero: "zero", api.SkTls: "tls", api.SkTlsZero: "tlszero"}
}

// binds are the words for the bindings of symbols. Common symbols have a form of line of their own.
func binds() []string {
	return []string{api.BdLocal: "local", api.BdGlobal: "global", api.BdWeak: "weak"}
}

// visibilities are the words for the visibilities of symbols.
func visibilities() []string {
	return []string{api.ViDefault: "default", api.ViProtected: "protected", api.ViHidden: "hidden"}
}

// kinds are the words for the kinds of symbols.
func kinds() []string {
	return []string{api.SyCode: "code", api.SyData: "data", api.SyTls: "tls"}
}

// relocations are the words for the kinds of relocations.
func relocations() []string {
	return []string{
		api.RkWord: "word", api.RkDiff: "diff", api.RkDiff4: "diff4", api.RkDelta: "delta", api.RkSize: "size", api.RkAddr: "addr", api.RkCall: "call",
		api.RkSlot: "slot", api.RkLow: "low", api.RkHigh: "high", api.RkTls: "tls", api.RkModule: "module", api.RkOffset: "offset",
	}
}

// wheres are the words for where variables are.
func wheres() []string {
	return []string{api.LoReg: "reg", api.LoStack: "stack", api.LoSym: "sym"}
}
