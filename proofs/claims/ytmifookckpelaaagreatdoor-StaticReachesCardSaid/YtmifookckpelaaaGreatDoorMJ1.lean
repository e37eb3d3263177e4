/-
  Layer 8, texts merged: SqA, SqB, SqC, SqD. For every argument within the bounds that each theorem names.
-/
import Derived.Test.YtmifookckpelaaaGreatDoorMG2
import Derived.Test.YtmifookckpelaaaGreatDoorMD3
import Derived.Test.YtmifookckpelaaaGreatDoorMG3

/-
 Layer 8, the reference: Text of any string; name, str, expression, statement, compares, binary.
-/
namespace Go.Proofs.YtmifookckpelaaaGreatDoor
open Go.RowKit Go.ChangeShapes Go.WideShapes
namespace Syn

end Syn
end Go.Proofs.YtmifookckpelaaaGreatDoor

/-
 Layer 8, the reference: compares, binary.
-/
namespace Go.Proofs.YtmifookckpelaaaGreatDoor
open Go.RowKit Go.ChangeShapes Go.WideShapes
namespace Syn

end Syn
end Go.Proofs.YtmifookckpelaaaGreatDoor

/-
 Layer 8, the reference: fields, at a node that is not a map.
-/
namespace Go.Proofs.YtmifookckpelaaaGreatDoor
open Go.RowKit Go.ChangeShapes Go.WideShapes
namespace Syn
end Syn
end Go.Proofs.YtmifookckpelaaaGreatDoor

/-
 Layer 8, the reference: fields, at a map.
-/
namespace Go.Proofs.YtmifookckpelaaaGreatDoor
open Go.RowKit Go.ChangeShapes Go.WideShapes
namespace Syn
end Syn
end Go.Proofs.YtmifookckpelaaaGreatDoor
