/-
  Layer 8, texts merged: SynC. For every argument within the bounds that each theorem names.
-/
import Derived.Test.YtmifookckpelaaaGreatDoorMF1
import Derived.Test.YtmifookckpelaaaGreatDoorMC1

/-
 Layer 8, plainly: the pieces of a program as text.
-/
namespace Go.Proofs.YtmifookckpelaaaGreatDoor
namespace Syn
/-- A text in pieces: tokens and blanks. -/
inductive It where
 | tok (c : Ck)
 | gap (b : UInt8)
def sp : It := .gap 32
/-- The level of a binary operator; 0: it is none. -/
def binL (s : Txt) : Nat :=
 if s = [111, 114] then 1 else if s = [97, 110, 100] then 2 else if (opsL 4).contains s then 4 else if (opsL 5).contains s then 5 else if (opsL 6).contains s then 6 else 0
end Syn
end Go.Proofs.YtmifookckpelaaaGreatDoor
