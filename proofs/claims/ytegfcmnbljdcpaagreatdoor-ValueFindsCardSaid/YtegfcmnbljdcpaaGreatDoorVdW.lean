/-
  Layer 6: slices.Clone of cells.
-/
import Derived.Test.YtegfcmnbljdcpaaGreatDoorVdV
namespace Go.Proofs.YtegfcmnbljdcpaaGreatDoor
open Go.RowKit Go.ChangeShapes Go.WideShapes
namespace Val

set_option maxRecDepth 100000 in
set_option maxHeartbeats 4000000 in
theorem clone_any (l : List Cel) (o : Option Addr) (n c : Nat) (hn0 : 0 < n) (hn : n ≤ 1000000) (w : World) (hA : CArg w o n l) :
    Calls Tryz.prog 32 #[.slice o n c] w fun e w' => (∃ o2 c2, e = .returned (.slice o2 n c2) ∧ CArg w' o2 n l ∧ n ≤ c2) ∧ Bel w w' := by
  obtain ⟨b, q, rfl, -⟩ := hA.2.2 (by have := hA.1; omega)
  have hfit := Lib.hid hA.2.1
  have own1 := Lib.hid (World.ownsRow_lit (base := w.heap.size) (e := 43) (size := 4) w #[] 0 (Nat.le_refl _) (by decide) rfl)
  have B1 := Lib.hid (Bel.alloc (Bel.refl w) (.cells #[] 43))
  have own2 : Hid ((w.alloc (.cells #[] 43)).ownsRow w.heap.size 43 4 (.slice (some ⟨w.heap.size, 0, none⟩) 0 0) 0 (encCs [])) := own1
  have C1 := Lib.hid (hA.on B1.out)
  have q1 : Hid (0 + n ≤ 1099511627776) := Lib.hid (by omega)
  have hnil : ∀ W : World, (binOp .eql 22 (.slice (some ⟨b, q, none⟩) n c) (.slice none 0 0)).run Tryz.prog W = .ok (.bool false) W := fun W => by
    have hu := Tryz.underlying22
    first
      | rfl
      | (simp [binOp, go_sem, hu]; done)
      | (unfold binOp; simp [go_sem, hu]; trace_state; done)
  clear hA own1
  go_enter Tryz.func32, Tryz.ntmps32
  go_wp2_with (at_builtin; refine list_appC _ _ rfl rfl rfl rfl rfl B1.out own2.out C1.out hn0 q1.out ?_; intro o3 c3 w3 g3 k3; refine Hid.out ?_)
  refine Lib.hid ?_
  rw [Nat.zero_add, List.nil_append] at k3
  have hmc : n ≤ c3 := by
    obtain ⟨_, _, h5, hmc⟩ := own4_shape k3.out
    cases h5
    exact hmc
  have hca := Lib.hid (own_cArg k3.out hfit.out)
  go_wp2
  go_ret
  exact ⟨⟨_, _, by simp, hca.out, hmc⟩, g3.out⟩
end Val
end Go.Proofs.YtegfcmnbljdcpaaGreatDoor
