/-
  No cell of these rows narrows 'for every input' (looked for: loops, veiled, ifaces, maps, wideKeys, modest, calm, conditions, laid).
  DERIVED. THE GIVEN ROWS OF THIS SEAT. 7 by the template 'for every input the law returns true; each argument reads behind the call as it read before'; 0 by the template 'total and deterministic' (their statements: YtgchjfdldbadlaaTotals.lean).
  GIVEN WITH THE SEED: the statements are not yours to turn. If you find one false, say at which input.
  Laid BY PROGRAM, IN A SANDBOX (cutbox-rows.mjs): the forced cells as the released guide's own fill.sh prints them over the translation deb49239d76f53c7… (all of the seat's roots in one cut). By AI agents, Wed Nov 11 2026. No macro, syntax, notation, axiom, sorry.
-/
import Derived.Test.YtgchjfdldbadlaaChecked
import GoSem.Claim
import GoSem.ClaimJoined
import GoSem.ClaimMapViews
import Derived.JoinedTies
import Derived.KernelRfl
namespace Go.Proofs.Ytgchjfdldbadlaa
/- THE CELL 'sum', in the pinned program and in every row, IS THE sha256 OF THE DUMP (.gsa) THAT YtgchjfdldbadlaaProg.lean LOADS. Nothing in Lean hashes anything: it is a label: what it is worth is what the hold of that sum in a sandbox is worth. -/
noncomputable def Try.pinned : Pinned := { name := "ytgchjfdldbadlaa", sum := "deb49239d76f53c758b99785c0836cf22365db7a6356c4264a74a1dcedbaf5aa", checked := Try.checked }
namespace Rows
def none {H : Type} : Left H := { results := [], args := [] }

/-- 'faaslaw05.IdentNames': WHATEVER THE INPUT: true; the input reads as it did. -/
def identNamesSpec : ChangeSpec := { name := "identNames", fn := fun _ => fun
  | [d] => { results := [.lit (.bool true)], args := [d] }
  | _ => none }
def identNamesRow : OpenClaim := { program := "ytgchjfdldbadlaa", sum := "deb49239d76f53c758b99785c0836cf22365db7a6356c4264a74a1dcedbaf5aa", func := "faas/faaslaw05.IdentNames", spec := "identNames", inPlace := ["internal/bytealg.IndexByteString", "internal/bytealg.IndexString"], recurses := true, named := ["internal/bytealg.MaxLen"], apart := false }
def IdentNamesSaid : Prop := identNamesRow.holds Try.pinned (OpenSpec.ofChange identNamesSpec)

/-- ITS FALSE NEIGHBOUR: 'it returns false'. Refute it at one input. -/
def identNamesWrong : ChangeSpec := { name := "identNames", fn := fun _ => fun
  | [d] => { results := [.lit (.bool false)], args := [d] }
  | _ => none }
def IdentNamesWrongFalsely : Prop := identNamesRow.holds Try.pinned (OpenSpec.ofChange identNamesWrong)

/-- 'faaslaw05.IdentRefs': WHATEVER THE INPUT: true; the input reads as it did. -/
def identRefsSpec : ChangeSpec := { name := "identRefs", fn := fun _ => fun
  | [d1, d2, d3, d4] => { results := [.lit (.bool true)], args := [d1, d2, d3, d4] }
  | _ => none }
def identRefsRow : OpenClaim := { program := "ytgchjfdldbadlaa", sum := "deb49239d76f53c758b99785c0836cf22365db7a6356c4264a74a1dcedbaf5aa", func := "faas/faaslaw05.IdentRefs", spec := "identRefs", inPlace := ["internal/bytealg.IndexByteString", "internal/bytealg.IndexString"], recurses := true, named := ["internal/bytealg.MaxLen"], apart := false }
def IdentRefsSaid : Prop := identRefsRow.holds Try.pinned (OpenSpec.ofChange identRefsSpec)

/-- ITS FALSE NEIGHBOUR: 'it returns false'. Refute it at one input. -/
def identRefsWrong : ChangeSpec := { name := "identRefs", fn := fun _ => fun
  | [d1, d2, d3, d4] => { results := [.lit (.bool false)], args := [d1, d2, d3, d4] }
  | _ => none }
def IdentRefsWrongFalsely : Prop := identRefsRow.holds Try.pinned (OpenSpec.ofChange identRefsWrong)

/-- 'faaslaw05.IdentChildren': WHATEVER THE INPUT: true; the input reads as it did. -/
def identChildrenSpec : ChangeSpec := { name := "identChildren", fn := fun _ => fun
  | [d1, d2, d3] => { results := [.lit (.bool true)], args := [d1, d2, d3] }
  | _ => none }
def identChildrenRow : OpenClaim := { program := "ytgchjfdldbadlaa", sum := "deb49239d76f53c758b99785c0836cf22365db7a6356c4264a74a1dcedbaf5aa", func := "faas/faaslaw05.IdentChildren", spec := "identChildren", inPlace := ["internal/bytealg.IndexByteString", "internal/bytealg.IndexString"], recurses := true, named := ["internal/bytealg.MaxLen"], apart := false }
def IdentChildrenSaid : Prop := identChildrenRow.holds Try.pinned (OpenSpec.ofChange identChildrenSpec)

/-- ITS FALSE NEIGHBOUR: 'it returns false'. Refute it at one input. -/
def identChildrenWrong : ChangeSpec := { name := "identChildren", fn := fun _ => fun
  | [d1, d2, d3] => { results := [.lit (.bool false)], args := [d1, d2, d3] }
  | _ => none }
def IdentChildrenWrongFalsely : Prop := identChildrenRow.holds Try.pinned (OpenSpec.ofChange identChildrenWrong)

/-- 'faaslaw05.IdentMatches': WHATEVER THE INPUT: true; the input reads as it did. -/
def identMatchesSpec : ChangeSpec := { name := "identMatches", fn := fun _ => fun
  | [d1, d2, d3] => { results := [.lit (.bool true)], args := [d1, d2, d3] }
  | _ => none }
def identMatchesRow : OpenClaim := { program := "ytgchjfdldbadlaa", sum := "deb49239d76f53c758b99785c0836cf22365db7a6356c4264a74a1dcedbaf5aa", func := "faas/faaslaw05.IdentMatches", spec := "identMatches", inPlace := ["internal/bytealg.IndexByteString", "internal/bytealg.IndexString"], recurses := true, named := ["internal/bytealg.MaxLen"], apart := false }
def IdentMatchesSaid : Prop := identMatchesRow.holds Try.pinned (OpenSpec.ofChange identMatchesSpec)

/-- ITS FALSE NEIGHBOUR: 'it returns false'. Refute it at one input. -/
def identMatchesWrong : ChangeSpec := { name := "identMatches", fn := fun _ => fun
  | [d1, d2, d3] => { results := [.lit (.bool false)], args := [d1, d2, d3] }
  | _ => none }
def IdentMatchesWrongFalsely : Prop := identMatchesRow.holds Try.pinned (OpenSpec.ofChange identMatchesWrong)

/-- 'faaslaw05.IdentLists': WHATEVER THE INPUT: true; the input reads as it did. -/
def identListsSpec : ChangeSpec := { name := "identLists", fn := fun _ => fun
  | [d1, d2] => { results := [.lit (.bool true)], args := [d1, d2] }
  | _ => none }
def identListsRow : OpenClaim := { program := "ytgchjfdldbadlaa", sum := "deb49239d76f53c758b99785c0836cf22365db7a6356c4264a74a1dcedbaf5aa", func := "faas/faaslaw05.IdentLists", spec := "identLists", inPlace := ["internal/bytealg.IndexByteString", "internal/bytealg.IndexString"], recurses := true, named := ["internal/bytealg.MaxLen"], apart := false }
def IdentListsSaid : Prop := identListsRow.holds Try.pinned (OpenSpec.ofChange identListsSpec)

/-- ITS FALSE NEIGHBOUR: 'it returns false'. Refute it at one input. -/
def identListsWrong : ChangeSpec := { name := "identLists", fn := fun _ => fun
  | [d1, d2] => { results := [.lit (.bool false)], args := [d1, d2] }
  | _ => none }
def IdentListsWrongFalsely : Prop := identListsRow.holds Try.pinned (OpenSpec.ofChange identListsWrong)

/-- 'faaslaw05.IdentCovers': WHATEVER THE INPUT: true; the input reads as it did. -/
def identCoversSpec : ChangeSpec := { name := "identCovers", fn := fun _ => fun
  | [d1, d2, d3, d4] => { results := [.lit (.bool true)], args := [d1, d2, d3, d4] }
  | _ => none }
def identCoversRow : OpenClaim := { program := "ytgchjfdldbadlaa", sum := "deb49239d76f53c758b99785c0836cf22365db7a6356c4264a74a1dcedbaf5aa", func := "faas/faaslaw05.IdentCovers", spec := "identCovers", inPlace := ["internal/bytealg.IndexByteString", "internal/bytealg.IndexString"], recurses := true, named := ["internal/bytealg.MaxLen"], apart := false }
def IdentCoversSaid : Prop := identCoversRow.holds Try.pinned (OpenSpec.ofChange identCoversSpec)

/-- ITS FALSE NEIGHBOUR: 'it returns false'. Refute it at one input. -/
def identCoversWrong : ChangeSpec := { name := "identCovers", fn := fun _ => fun
  | [d1, d2, d3, d4] => { results := [.lit (.bool false)], args := [d1, d2, d3, d4] }
  | _ => none }
def IdentCoversWrongFalsely : Prop := identCoversRow.holds Try.pinned (OpenSpec.ofChange identCoversWrong)

/-- 'faaslaw05.IdentBack': WHATEVER THE INPUT: true; the input reads as it did. -/
def identBackSpec : ChangeSpec := { name := "identBack", fn := fun _ => fun
  | [d1, d2, d3, d4] => { results := [.lit (.bool true)], args := [d1, d2, d3, d4] }
  | _ => none }
def identBackRow : OpenClaim := { program := "ytgchjfdldbadlaa", sum := "deb49239d76f53c758b99785c0836cf22365db7a6356c4264a74a1dcedbaf5aa", func := "faas/faaslaw05.IdentBack", spec := "identBack", inPlace := ["internal/bytealg.IndexByteString", "internal/bytealg.IndexString"], recurses := true, named := ["internal/bytealg.MaxLen"], apart := false }
def IdentBackSaid : Prop := identBackRow.holds Try.pinned (OpenSpec.ofChange identBackSpec)

/-- ITS FALSE NEIGHBOUR: 'it returns false'. Refute it at one input. -/
def identBackWrong : ChangeSpec := { name := "identBack", fn := fun _ => fun
  | [d1, d2, d3, d4] => { results := [.lit (.bool false)], args := [d1, d2, d3, d4] }
  | _ => none }
def IdentBackWrongFalsely : Prop := identBackRow.holds Try.pinned (OpenSpec.ofChange identBackWrong)

/- THE SECOND FORM. 'bulk': how many values and letters a reading holds, each counted each time it is reached (what is shared counts as often as it is met; a slice's spare places count too). A statement '..UptoSaid' is the law's where the arguments, and the package variables that the reading takes, are together of bulk at most 1048576: NARROWER than '..Said'. Prove '..Said' where nothing that the law and all that it calls make is longer than what came in: it says more and counts as full. Else prove '..UptoSaid'. A law counts once. -/
mutual
def uptoBulk {H : Type} : DataW H → Nat
  | .lit (.string bytes) => bytes.length + 1
  | .lit _ => 1
  | .nil => 1
  | .ptr d => uptoBulk d + 1
  | .slice elems spare => uptoBulkAll elems + uptoBulkAll spare + 1
  | .agg parts => uptoBulkAll parts + 1
  | .iface _ d => uptoBulk d + 1
  | .map entries => uptoBulkEntries entries + 1
  | .held _ => 1
def uptoBulkAll {H : Type} : List (DataW H) → Nat
  | [] => 0
  | d :: r => uptoBulk d + uptoBulkAll r
def uptoBulkEntries {H : Type} : List (Lit × DataW H) → Nat
  | [] => 0
  | x :: r => uptoBulkEntry x + uptoBulkEntries r
def uptoBulkEntry {H : Type} : Lit × DataW H → Nat
  | (.string bytes, d) => bytes.length + uptoBulk d + 1
  | (_, d) => uptoBulk d + 1
 end
def uptoSmall : (H : Type) → List (DataW H) → Bool := fun _ ds => decide (uptoBulkAll ds ≤ 1048576)
def OpenSpec.upto (s : _root_.Go.ChangeSpec) : _root_.Go.OpenSpec := { _root_.Go.OpenSpec.ofChange s with cond := some uptoSmall }

/-- 'faaslaw05.IdentNames', WHERE WHAT IT READS IS OF BULK AT MOST 1048576: true; the input reads as it did. -/
def identNamesUptoRow : OpenClaim := { program := "ytgchjfdldbadlaa", sum := "deb49239d76f53c758b99785c0836cf22365db7a6356c4264a74a1dcedbaf5aa", func := "faas/faaslaw05.IdentNames", spec := "identNames", inPlace := ["internal/bytealg.IndexByteString", "internal/bytealg.IndexString"], recurses := true, named := ["internal/bytealg.MaxLen"], apart := false, narrowed := true }
def IdentNamesUptoSaid : Prop := identNamesUptoRow.holds Try.pinned (OpenSpec.upto identNamesSpec)

/-- 'faaslaw05.IdentRefs', WHERE WHAT IT READS IS OF BULK AT MOST 1048576: true; the input reads as it did. -/
def identRefsUptoRow : OpenClaim := { program := "ytgchjfdldbadlaa", sum := "deb49239d76f53c758b99785c0836cf22365db7a6356c4264a74a1dcedbaf5aa", func := "faas/faaslaw05.IdentRefs", spec := "identRefs", inPlace := ["internal/bytealg.IndexByteString", "internal/bytealg.IndexString"], recurses := true, named := ["internal/bytealg.MaxLen"], apart := false, narrowed := true }
def IdentRefsUptoSaid : Prop := identRefsUptoRow.holds Try.pinned (OpenSpec.upto identRefsSpec)

/-- 'faaslaw05.IdentChildren', WHERE WHAT IT READS IS OF BULK AT MOST 1048576: true; the input reads as it did. -/
def identChildrenUptoRow : OpenClaim := { program := "ytgchjfdldbadlaa", sum := "deb49239d76f53c758b99785c0836cf22365db7a6356c4264a74a1dcedbaf5aa", func := "faas/faaslaw05.IdentChildren", spec := "identChildren", inPlace := ["internal/bytealg.IndexByteString", "internal/bytealg.IndexString"], recurses := true, named := ["internal/bytealg.MaxLen"], apart := false, narrowed := true }
def IdentChildrenUptoSaid : Prop := identChildrenUptoRow.holds Try.pinned (OpenSpec.upto identChildrenSpec)

/-- 'faaslaw05.IdentMatches', WHERE WHAT IT READS IS OF BULK AT MOST 1048576: true; the input reads as it did. -/
def identMatchesUptoRow : OpenClaim := { program := "ytgchjfdldbadlaa", sum := "deb49239d76f53c758b99785c0836cf22365db7a6356c4264a74a1dcedbaf5aa", func := "faas/faaslaw05.IdentMatches", spec := "identMatches", inPlace := ["internal/bytealg.IndexByteString", "internal/bytealg.IndexString"], recurses := true, named := ["internal/bytealg.MaxLen"], apart := false, narrowed := true }
def IdentMatchesUptoSaid : Prop := identMatchesUptoRow.holds Try.pinned (OpenSpec.upto identMatchesSpec)

/-- 'faaslaw05.IdentLists', WHERE WHAT IT READS IS OF BULK AT MOST 1048576: true; the input reads as it did. -/
def identListsUptoRow : OpenClaim := { program := "ytgchjfdldbadlaa", sum := "deb49239d76f53c758b99785c0836cf22365db7a6356c4264a74a1dcedbaf5aa", func := "faas/faaslaw05.IdentLists", spec := "identLists", inPlace := ["internal/bytealg.IndexByteString", "internal/bytealg.IndexString"], recurses := true, named := ["internal/bytealg.MaxLen"], apart := false, narrowed := true }
def IdentListsUptoSaid : Prop := identListsUptoRow.holds Try.pinned (OpenSpec.upto identListsSpec)

/-- 'faaslaw05.IdentCovers', WHERE WHAT IT READS IS OF BULK AT MOST 1048576: true; the input reads as it did. -/
def identCoversUptoRow : OpenClaim := { program := "ytgchjfdldbadlaa", sum := "deb49239d76f53c758b99785c0836cf22365db7a6356c4264a74a1dcedbaf5aa", func := "faas/faaslaw05.IdentCovers", spec := "identCovers", inPlace := ["internal/bytealg.IndexByteString", "internal/bytealg.IndexString"], recurses := true, named := ["internal/bytealg.MaxLen"], apart := false, narrowed := true }
def IdentCoversUptoSaid : Prop := identCoversUptoRow.holds Try.pinned (OpenSpec.upto identCoversSpec)

/-- 'faaslaw05.IdentBack', WHERE WHAT IT READS IS OF BULK AT MOST 1048576: true; the input reads as it did. -/
def identBackUptoRow : OpenClaim := { program := "ytgchjfdldbadlaa", sum := "deb49239d76f53c758b99785c0836cf22365db7a6356c4264a74a1dcedbaf5aa", func := "faas/faaslaw05.IdentBack", spec := "identBack", inPlace := ["internal/bytealg.IndexByteString", "internal/bytealg.IndexString"], recurses := true, named := ["internal/bytealg.MaxLen"], apart := false, narrowed := true }
def IdentBackUptoSaid : Prop := identBackUptoRow.holds Try.pinned (OpenSpec.upto identBackSpec)

end Rows
end Go.Proofs.Ytgchjfdldbadlaa
