/- Package lex: May. -/
import Derived.Test.YtjeogbdeagkomaaDoorVL8
import Derived.Test.YtjeogbdeagkomaaDoorVLe
import Derived.Deep.QuietTactic
import Derived.BigQuiet
import Derived.StillTailTactics
namespace Go.Proofs.YtjeogbdeagkomaaDoor
open Go.RowKit Nm Bset Lm

/-- What a word of that kind may have at all. -/
def justW (x : Lw) : Lw :=
  if x.kind = 1 then ⟨1, 0, 0, x.text, nul, 0, 0⟩ else if x.kind = 14 then ⟨14, 0, 0, ⟨#[]⟩, nul, x.low, x.high⟩
  else if x.kind = 15 then ⟨15, 0, 0, x.text, nul, 0, 0⟩ else if x.kind = 16 then ⟨16, 0, 0, ⟨#[]⟩, x.set, 0, 0⟩ else ⟨x.kind, 0, 0, ⟨#[]⟩, nul, 0, 0⟩
def fitsW (x : Lw) : Bool :=
  if x.kind = 1 then mayB x.text else if x.kind = 14 then Lm.counts x.low x.high else if x.kind = 15 then decide (x.text.size ≤ 255) else decide (1 ≤ x.kind) && decide (x.kind ≤ 16)
def mayW (x : Lw) : Bool := fitsW x && sameW x.bare (justW x)

end Go.Proofs.YtjeogbdeagkomaaDoor
