/-
  Layer 6, the reference: readMany, over a list.
-/
import Derived.Test.YtegfcmnbljdcpaaGreatDoorVdL
namespace Go.Proofs.YtegfcmnbljdcpaaGreatDoor
open Go.RowKit Go.ChangeShapes Go.WideShapes
namespace Val

/-- The cell that heads a group, while it is read: in a block of its own. -/
def StC (w : World) (g : Nat) (kd j : Int) : Prop := w.cell? ⟨g, 0, none⟩ = some (.int .i64 kd) ∧ w.cell? ⟨g, 1, none⟩ = some (.int .i64 0) ∧ w.cell? ⟨g, 2, none⟩ = some (.string ⟨#[]⟩) ∧ w.cell? ⟨g, 3, none⟩ = some (.int .i64 j) ∧ ∀ q, w.frozen? ⟨g, q, none⟩ = false
theorem StC.on {w w' : World} {g : Nat} {kd j : Int} (h : StC w g kd j) (b : Bel w w') : StC w' g kd j :=
  have hb : w'.heap[g]? = w.heap[g]? := b.block g (cell_lt h.1)
  ⟨b.cell h.1, b.cell h.2.1, b.cell h.2.2.1, b.cell h.2.2.2.1, fun q => (World.frozen?_of_block (a := ⟨g, q, none⟩) hb).trans (h.2.2.2.2 q)⟩
theorem StC.grown {w w' : World} {g : Nat} {kd j : Int} {ob : Option Nat} (h : StC w g kd j) (b : w.grownBy w' ob) (hne : some g ≠ ob) : StC w' g kd j :=
  have hlt : g < w.heap.size := cell_lt h.1
  ⟨(b.cell_far ⟨g, 0, none⟩ hlt hne).trans h.1, (b.cell_far ⟨g, 1, none⟩ hlt hne).trans h.2.1, (b.cell_far ⟨g, 2, none⟩ hlt hne).trans h.2.2.1, (b.cell_far ⟨g, 3, none⟩ hlt hne).trans h.2.2.2.1, fun q => (b.frozen_far ⟨g, q, none⟩ hlt hne).trans (h.2.2.2.2 q)⟩
theorem StC.count {w : World} {g : Nat} {kd j : Int} (h : StC w g kd j) (j' : Int) : StC (w.setCell ⟨g, 3, none⟩ (.int .i64 j')) g kd j' :=
  ⟨(World.cell?_setCell_other w ⟨g, 3, none⟩ ⟨g, 0, none⟩ _ (by simp)).trans h.1, (World.cell?_setCell_other w ⟨g, 3, none⟩ ⟨g, 1, none⟩ _ (by simp)).trans h.2.1, (World.cell?_setCell_other w ⟨g, 3, none⟩ ⟨g, 2, none⟩ _ (by simp)).trans h.2.2.1, World.cell?_setCell_same w _ _ h.2.2.2.1, fun q => by rw [World.frozen?_setCell]; exact h.2.2.2.2 q⟩
theorem StC.kind {w : World} {g : Nat} {kd j : Int} (h : StC w g kd j) (k' : Int) : StC (w.setCell ⟨g, 0, none⟩ (.int .i64 k')) g k' j :=
  ⟨World.cell?_setCell_same w _ _ h.1, (World.cell?_setCell_other w ⟨g, 0, none⟩ ⟨g, 1, none⟩ _ (by simp)).trans h.2.1, (World.cell?_setCell_other w ⟨g, 0, none⟩ ⟨g, 2, none⟩ _ (by simp)).trans h.2.2.1, (World.cell?_setCell_other w ⟨g, 0, none⟩ ⟨g, 3, none⟩ _ (by simp)).trans h.2.2.2.1, fun q => by rw [World.frozen?_setCell]; exact h.2.2.2.2 q⟩
theorem StC.new (w : World) (kd : Int) (t : TypeId) : StC (w.alloc (.cells #[.int .i64 kd, .int .i64 0, .string ⟨#[]⟩, .int .i64 0] t)) w.heap.size kd 0 := by
  refine ⟨World.cell?_alloc_new .., World.cell?_alloc_new .., World.cell?_alloc_new .., World.cell?_alloc_new .., fun j => ?_⟩
  have := heap_alloc_new w (.cells #[.int .i64 kd, .int .i64 0, .string ⟨#[]⟩, .int .i64 0] t)
  simp only [World.frozen?, this]
  rfl
/-- Nothing behind what is owned. -/
theorem list_app0 {base : Nat} {Y : World} {m c : Nat} {p : Option Addr} {l : List Cel} {ops : Array Oper} {rest : List Oper} {o : Oper} {a : Act} {Q : Exit → Act → World → Prop} (s x : Operand)
    (ho : o.op = .call { callee := .builtin .append, args := #[s, x], argTypes := #[22, 22] }) (hgd : o.guard = none) (hty : o.type = 22) (hs : a.eval s = .slice p m c) (hx : a.eval x = .slice none 0 0)
    (hown : Y.ownsRow base 43 4 (.slice p m c) m (encCs l))
    (h : wpList Tryz.prog ops Q rest (a.put o.dst (.slice p m c)) Y) : wpList Tryz.prog ops Q (o :: rest) a Y :=
  wpList_plain hgd fun K hK => by
    obtain ⟨i0, hi, hz0, hz1, hz2⟩ := info_parts info_cell
    have r := run_append_owned_none (P := Tryz.prog) (w := Y) base 22 22 43 i0 4 Tryz.underlying22 hi _ m _ hown
    rw [← hty] at r
    unfold Oper.wp execOp
    simp only [ho, resolve, invoke, builtin, Sem.run_bind, Sem.run_pure, Result.andThen_ok, List.map_toArray, List.map_cons, List.map_nil, hs, hx]
    rw [show (#[o.type, o.type] : Array TypeId) = #[22, 22] by rw [hty]] at r
    simp only [r]
    exact hK _ _ h
/-- What a group's reading comes to, at a place in it. -/
def tgt (G : Txt → Option (List Cel × Txt)) (kd : Int) (cl : UInt8) (comma : Bool) (f : Nat) (S : Txt) (cs : List Cel) (j : Nat) : Option (List Cel × Txt) :=
  if ([cl] : Txt).isPrefixOf S && !comma then some (⟨kd, 0, [], (j : Int)⟩ :: cs, S.drop 1) else (many G cl f S).map fun x => (⟨kd, 0, [], ((j + x.2.1 : Nat) : Int)⟩ :: (cs ++ x.1), x.2.2)
theorem tgt_start (G : Txt → Option (List Cel × Txt)) (kd : Int) (cl : UInt8) (f : Nat) (S : Txt) : tgt G kd cl false f S [] 0 = gE G kd cl f S := by
  unfold tgt gE
  simp
theorem tgt_end {G : Txt → Option (List Cel × Txt)} {kd : Int} {cl : UInt8} {f : Nat} {S : Txt} {cs : List Cel} {j : Nat} (h : ([cl] : Txt).isPrefixOf S = true) : tgt G kd cl false f S cs j = some (⟨kd, 0, [], (j : Int)⟩ :: cs, S.drop 1) := by
  unfold tgt
  rw [h]
  rfl
theorem tgt_go {G : Txt → Option (List Cel × Txt)} {kd : Int} {cl : UInt8} {f : Nat} {S : Txt} {cs : List Cel} {j : Nat} {comma : Bool} (h : (([cl] : Txt).isPrefixOf S && !comma) = false) : tgt G kd cl comma f S cs j = (many G cl f S).map fun x => (⟨kd, 0, [], ((j + x.2.1 : Nat) : Int)⟩ :: (cs ++ x.1), x.2.2) := by
  unfold tgt
  rw [h]
  rfl
theorem tgt_no {G : Txt → Option (List Cel × Txt)} {kd : Int} {cl : UInt8} {f : Nat} {S : Txt} {cs : List Cel} {j : Nat} {comma : Bool} (h : (([cl] : Txt).isPrefixOf S && !comma) = false) (hg : G S = none) : tgt G kd cl comma f S cs j = none := by
  rw [tgt_go h, many_no hg]
  rfl
theorem tgt_comma {G : Txt → Option (List Cel × Txt)} {kd : Int} {cl : UInt8} {f : Nat} {S r : Txt} {cs cs1 : List Cel} {j : Nat} {comma : Bool} (h : (([cl] : Txt).isPrefixOf S && !comma) = false) (hg : G S = some (cs1, 44 :: r)) : tgt G kd cl comma (f + 1) S cs j = tgt G kd cl true f r (cs ++ cs1) (j + 1) := by
  rw [tgt_go h, many_co hg, tgt_go (by simp)]
  cases many G cl f r with
  | none => rfl
  | some x => simp [Nat.add_comm, Nat.add_left_comm]
theorem tgt_close {G : Txt → Option (List Cel × Txt)} {kd : Int} {cl : UInt8} {f f2 : Nat} {S r : Txt} {cs cs1 : List Cel} {j : Nat} {comma : Bool} (h : (([cl] : Txt).isPrefixOf S && !comma) = false) (hc : ¬ cl = 44) (hg : G S = some (cs1, cl :: r)) : tgt G kd cl comma (f + 1) S cs j = tgt G kd cl false f2 (cl :: r) (cs ++ cs1) (j + 1) := by
  rw [tgt_go h, many_cl hg hc, tgt_end (pre1t cl r)]
  rfl
theorem tgt_bad {G : Txt → Option (List Cel × Txt)} {kd : Int} {cl : UInt8} {f : Nat} {S r : Txt} {cs cs1 : List Cel} {j : Nat} {comma : Bool} (h : (([cl] : Txt).isPrefixOf S && !comma) = false) (hg : G S = some (cs1, r)) (h1 : ([44] : Txt).isPrefixOf r = false) (h2 : ([cl] : Txt).isPrefixOf r = false) : tgt G kd cl comma f S cs j = none := by
  rw [tgt_go h]
  cases f with
  | zero => rfl
  | succ f => rw [many_bad hg h1 h2]; rfl
theorem gV_cl (k : Nat) (r : Txt) : gV (rdG intR k) (93 :: r) = none := by
  cases k with
  | zero => rfl
  | succ k =>
    unfold gV
    rw [rdG_c intR (rdW_no rfl rfl rfl)]
    rw [if_neg (by decide), if_neg (by decide), if_neg (by decide)]
    have : intR (93 :: r) = none := by
      unfold intR rdI
      simp [isD]
      rfl
    rw [this]
    rfl
end Val
end Go.Proofs.YtegfcmnbljdcpaaGreatDoor
