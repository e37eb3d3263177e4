/-
  Layer 6: the order of values, as the program has it: ordering, cmpCells, CompareFunc, Cmp.
-/
import Derived.Test.YtegfcmnbljdcpaaGreatDoorMK
import Derived.Test.YtegfcmnbljdcpaaGreatDoorME
namespace Go.Proofs.YtegfcmnbljdcpaaGreatDoor
open Go.RowKit Go.ChangeShapes Go.WideShapes
namespace Val

/-- A cell behind cells that one owns, at a region's operation. -/
theorem cel_app {Y : World} {base m c : Nat} {p : Option Addr} {l : List Cel} {g : Nat} {k i n : Int} {X : ByteArray} {ops : Array Oper} {rest : List Oper} {o : Oper} {a : Act} {Q : Exit → Act → World → Prop} (s x : Operand)
    (ho : o.op = .call { callee := .builtin .append, args := #[s, x], argTypes := #[22, 22] }) (hgd : o.guard = none) (hs : a.eval s = .slice p m c) (hx : a.eval x = .slice (some ⟨g, 0, none⟩) 1 1)
    (hcell : Y.cell? ⟨g, 0, none⟩ = some (.int .i64 k) ∧ Y.cell? ⟨g, 1, none⟩ = some (.int .i64 i) ∧ Y.cell? ⟨g, 2, none⟩ = some (.string X) ∧ Y.cell? ⟨g, 3, none⟩ = some (.int .i64 n)) (hown : Y.ownsRow base 43 4 (.slice p m c) m (encCs l)) (hm : m ≤ 1000000000) (hbase : base ≤ Y.heap.size)
    (h : ∀ o3 c3 w', Hid (w'.ownsRow base 43 4 (.slice o3 (m + 1) c3) (m + 1) (encCs (l ++ [⟨k, i, X.toList, n⟩]))) → Hid (Mod (Blk p) Y w') → Hid (∀ q, Blk o3 q → Blk p q ∨ Y.heap.size ≤ q) → wpList Tryz.prog ops Q rest (a.put o.dst (.slice o3 (m + 1) c3)) w') : wpList Tryz.prog ops Q (o :: rest) a Y :=
  wpList_plain hgd fun K hK => by
    obtain ⟨i0, hi, hz0, hz1, hz2⟩ := info_parts info_cell
    obtain ⟨v', w', r, h2, h3, h4⟩ := app_fresh Y base 22 o.type 43 i0 _ 4 40 Tryz.underlying22 hi hz0 hz1 hz2 rfl (by decide) _ m _ hown ⟨g, 0, none⟩ 1 1 [.int .i64 k, .int .i64 i, .string X, .int .i64 n] rfl
      (fun j v hj => by
        match j, hj with
        | 0, hj => simp only [List.getElem?_cons_zero, Option.some.injEq] at hj; rw [Lib.add_plain, ← hj]; exact hcell.1
        | 1, hj => simp only [List.getElem?_cons_zero, List.getElem?_cons_succ, Option.some.injEq] at hj; rw [Lib.add_plain, ← hj]; exact hcell.2.1
        | 2, hj => simp only [List.getElem?_cons_zero, List.getElem?_cons_succ, Option.some.injEq] at hj; rw [Lib.add_plain, ← hj]; exact hcell.2.2.1
        | 3, hj => simp only [List.getElem?_cons_zero, List.getElem?_cons_succ, Option.some.injEq] at hj; rw [Lib.add_plain, ← hj]; exact hcell.2.2.2) (fun v hv => by simp only [List.mem_cons, List.not_mem_nil, or_false] at hv; rcases hv with rfl | rfl | rfl | rfl <;> rfl) (by unfold maxLen; omega) (by omega) hbase
    obtain ⟨p2, c2, rfl, -⟩ := own4_shape h2
    unfold Oper.wp execOp
    simp only [ho, resolve, invoke, builtin, Sem.run_bind, Sem.run_pure, Result.andThen_ok, List.map_toArray, List.map_cons, List.map_nil, hs, hx]
    simp only [r]
    have e : encCs (l ++ [⟨k, i, X.toList, n⟩]) = encCs l ++ [.int .i64 k, .int .i64 i, .string X, .int .i64 n] := by
      rw [encCs_app]
      show _ ++ (encC ⟨k, i, X.toList, n⟩ ++ []) = _
      rw [List.append_nil]
      unfold encC
      rw [str_back]
    refine hK _ _ (h p2 c2 w' (Lib.hid (by rw [e]; exact h2)) (Lib.hid (Mod.grown h3 (fun i hi => (blk_of hown).2 hi))) (Lib.hid fun q hq => ?_))
    have hk2 := (blk_of h2).1 hq
    rcases h4 with h4 | h4
    · rw [h4] at hk2
      exact Or.inl ((blk_of hown).2 hk2)
    · rw [h4, Option.some.injEq] at hk2
      exact Or.inr (by omega)
/-- What ordering keeps of what was visited. -/
structure JO (g base : Nat) (es : List Ev) (F : Nat → Prop) (w : World) : Prop where
  row : ∃ o n c, (∀ k, F k ↔ k = g ∨ Blk o k) ∧ w.ownsRow base 43 4 (.slice o n c) n (encCs (cells es)) ∧ VarB w g (.slice o n c)
  size : g < base ∧ base ≤ w.heap.size
  fit : ∀ x ∈ cells es, Fits x
mutual
theorem evs_len : ∀ (v : V) (s : Spt), (evs v s).length ≤ 2 * (flat v).length
  | .null, s => by simp [evs, flat]
  | .bool b, s => by simp [evs, flat]
  | .int n, s => by simp [evs, flat]
  | .str x, s => by simp [evs, flat]
  | .list l, s => by
    have := evsL_len l (s.lev + 1) 0
    simp only [evs, flat, List.length_cons, List.length_append, List.length_nil]
    omega
  | .map m, s => by
    have := evsM_len m (s.lev + 1) 0
    simp only [evs, flat, List.length_cons, List.length_append, List.length_nil]
    omega
theorem evsL_len : ∀ (l : L) (lv p : Int), (evsL lv p l).length ≤ 2 * (flatL l).length
  | .nil, lv, p => by simp [evsL, flatL]
  | .cons v r, lv, p => by
    have h1 := evs_len v ⟨lv, 5, p⟩
    have h2 := evsL_len r lv (p + 1)
    simp only [evsL, flatL, List.length_append]
    omega
theorem evsM_len : ∀ (l : M) (lv p : Int), (evsM lv p l).length ≤ 2 * (flatM l).length
  | .nil, lv, p => by simp [evsM, flatM]
  | .cons k v r, lv, p => by
    have h1 := evs_len v ⟨lv, 6, p + 1⟩
    have h2 := evsM_len r lv (p + 2)
    simp only [evsM, flatM, List.length_append, List.length_cons]
    omega
end
end Val
end Go.Proofs.YtegfcmnbljdcpaaGreatDoor
