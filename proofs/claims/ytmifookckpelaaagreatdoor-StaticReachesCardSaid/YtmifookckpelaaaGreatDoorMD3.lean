/-
  Layer 8, texts merged: LexW, LexX. For every argument within the bounds that each theorem names.
-/
import Derived.Test.YtmifookckpelaaaGreatDoorMD2
import Derived.Deep.OwnRows
import Derived.Lib.Join

/-
 Layer 7, the reference: Text, of every kind of token.
-/
namespace Go.Proofs.YtmifookckpelaaaGreatDoor
open Go.RowKit Go.ChangeShapes Go.WideShapes
namespace Lex

end Lex
end Go.Proofs.YtmifookckpelaaaGreatDoor

/-
 Layer 7: Join, in the code and in the reference.
-/
namespace Go.Proofs.YtmifookckpelaaaGreatDoor
open Go.RowKit Go.ChangeShapes Go.WideShapes
namespace Lex

theorem info_str : (Tryz.prog.info? 9).map (fun i => (i.zero, i.size, i.bytes)) = some (some (.string ByteArray.empty), 1, 16) := by kernel_rfl
end Lex
end Go.Proofs.YtmifookckpelaaaGreatDoor
