/-
  Layer 7, the code: strings in quotes; the token at the beginning.
-/
import Derived.Test.YtghjflmanldjlaaDoorLexK
import Derived.Lib.AppendStr
import Derived.Laws.OwnMore
import Derived.Deep.RegionHeld3
import Derived.Laws.BytesArg
namespace Go.Proofs.YtghjflmanldjlaaDoor
open Go.RowKit Go.ChangeShapes Go.WideShapes
namespace Lex

/-- Bytes as cells. -/
def encB (l : Txt) : List Value := l.map fun b => Value.int .u8 (b.toNat : Int)
theorem encB_len (l : Txt) : (encB l).length = l.length := by simp [encB]
theorem encB_app (l r : Txt) : encB (l ++ r) = encB l ++ encB r := by simp [encB]
theorem info_u8 : (Tryd.prog.info? 5).map (fun i => (i.zero, i.size, i.bytes)) = some (some (.int .u8 0), 1, 1) := by kernel_rfl
theorem own_conv {W : World} {base m c : Nat} {o : Option Addr} {l : Txt} (h : W.ownsRow base 5 1 (.slice o m c) m (encB l)) : (convert 63 9 (.slice o m c)).run Tryd.prog W = .ok (.string ⟨l.toArray⟩) W := by
  have hl : l.length = m := by have := h.1; rw [encB_len] at this; omega
  rcases h.2 with ⟨hv, hk⟩ | ⟨g, cap, cur, hv, _⟩
  · simp only [Value.slice.injEq] at hv
    obtain ⟨rfl, rfl, rfl⟩ := hv
    obtain rfl : l = [] := List.eq_nil_of_length_eq_zero hl
    exact run_convert_bytes_nil (P := Tryd.prog) (w := W) 63 5 Tryd.underlying63 Tryd.underlying5 0 0 9 Tryd.underlying9
  · simp only [Value.slice.injEq] at hv
    obtain ⟨rfl, -, rfl⟩ := hv
    subst hl
    exact run_convert_bytes_back (P := Tryd.prog) W 63 9 5 ⟨g, 0, none⟩ _ l Tryd.underlying63 Tryd.underlying5 Tryd.underlying9 (fun j hj => h.cells rfl j _ (by simp [encB, List.getElem?_eq_getElem hj]))
theorem own_shape {w : World} {base : Nat} {e : TypeId} {z : Nat} {v : Value} {k : Nat} {xs : List Value} (h : w.ownsRow base e z v k xs) : ∃ o c, v = .slice o k c ∧ k ≤ c := by
  rcases h.2 with ⟨hv, hk⟩ | ⟨g, cap, cur, hv, _, _, hc, _⟩
  · exact ⟨none, 0, by rw [hv, hk], by omega⟩
  · exact ⟨_, _, hv, hc⟩
theorem own_on {w w' : World} {base : Nat} {e : TypeId} {z : Nat} {v : Value} {k : Nat} {xs : List Value} (h : w.ownsRow base e z v k xs) (b : Bel w w') : w'.ownsRow base e z v k xs :=
  h.kept (row := none) ⟨b.os, b.tape, b.output, b.size, fun i hi _ => b.block i hi⟩ (by cases hv : v.ownBlock <;> simp)
theorem own_bel {a w w' : World} {e : TypeId} {z : Nat} {v : Value} {k : Nat} {xs : List Value} (h : w.ownsRow a.heap.size e z v k xs) (b : Bel a w) (hg : w.grownBy w' v.ownBlock) : Bel a w' :=
  Below.grown b hg b.size fun i hi => (h.lt i hi).1
/-- A byte behind what is owned. -/
theorem app_byte {Y : World} {m c g : Nat} {o : Option Addr} {l : Txt} {w : World} (u : UInt8) (hb : Bel w Y) (hown : Y.ownsRow w.heap.size 5 1 (.slice o m c) m (encB l)) (hc : Y.cell? ⟨g, 0, none⟩ = some (.int .u8 (u.toNat : Int))) (hm : m ≤ 1099511627776) :
    ∃ v' w', (Builtin.append_ #[63, 63] 63 #[.slice o m c, .slice (some ⟨g, 0, none⟩) 1 1]).run Tryd.prog Y = .ok v' w' ∧ Bel w w' ∧ ∃ o3 c3, v' = .slice o3 (m + 1) c3 ∧ w'.ownsRow w.heap.size 5 1 (.slice o3 (m + 1) c3) (m + 1) (encB (l ++ [u])) := by
  obtain ⟨i0, hi, hz0, hz1, hz2⟩ := info_parts info_u8
  obtain ⟨v', w', r, o3, gr, -⟩ := run_append_own (P := Tryd.prog) _ w.heap.size 63 63 5 i0 _ 1 1 Tryd.underlying63 hi hz0 hz1 hz2 rfl (by decide) _ m _ hown ⟨g, 0, none⟩ 1 1 [.int .u8 (u.toNat : Int)] rfl
    (fun j v hj => by
      match j, hj with
      | 0, hj =>
        simp only [List.getElem?_cons_zero, Option.some.injEq] at hj
        rw [Lib.add_plain, ← hj]
        exact hc) (fun v hv => by simp only [List.mem_singleton] at hv; subst hv; rfl) (by unfold maxLen; omega) (by omega) hb.size
  obtain ⟨p2, c3, rfl, _⟩ := own_shape o3
  exact ⟨_, w', r, own_bel hown hb gr, p2, c3, rfl, by rw [encB_app]; exact o3⟩
/-- The same at a region's operation. -/
theorem list_byte {Y : World} {m c g : Nat} {p : Option Addr} {l : Txt} {w : World} {ops : Array Oper} {rest : List Oper} {o : Oper} {a : Act} {Q : Exit → Act → World → Prop} (u : UInt8) (s x : Operand)
    (ho : o.op = .call { callee := .builtin .append, args := #[s, x], argTypes := #[63, 63] }) (hgd : o.guard = none) (hty : o.type = 63) (hs : a.eval s = .slice p m c) (hx : a.eval x = .slice (some ⟨g, 0, none⟩) 1 1)
    (hb : Bel w Y) (hown : Y.ownsRow w.heap.size 5 1 (.slice p m c) m (encB l)) (hc : Y.cell? ⟨g, 0, none⟩ = some (.int .u8 (u.toNat : Int))) (hm : m ≤ 1099511627776)
    (h : ∀ o3 c3 w', Hid (Bel w w') → Hid (w'.ownsRow w.heap.size 5 1 (.slice o3 (m + 1) c3) (m + 1) (encB (l ++ [u]))) → wpList Tryd.prog ops Q rest (a.put o.dst (.slice o3 (m + 1) c3)) w') : wpList Tryd.prog ops Q (o :: rest) a Y :=
  wpList_plain hgd fun K hK => by
    obtain ⟨v', w', r, gr, o3, c3, rfl, k⟩ := app_byte u hb hown hc hm
    rw [← hty] at r
    unfold Oper.wp execOp
    simp only [ho, resolve, invoke, builtin, Sem.run_bind, Sem.run_pure, Result.andThen_ok, List.map_toArray, List.map_cons, List.map_nil, hs, hx]
    rw [show (#[o.type, o.type] : Array TypeId) = #[63, 63] by rw [hty]] at r
    simp only [r]
    exact hK _ _ (h o3 c3 w' (Lib.hid gr) (Lib.hid k))
theorem addC_nil (R : Rd) : addC [] R = R := by
  obtain ⟨k, s, i, n, e⟩ := R
  unfold addC
  dsimp only
  split
  · next h => subst h; rfl
  · rfl
theorem addC_addC (a b : Txt) (R : Rd) : addC a (addC b R) = addC (a ++ b) R := by
  unfold addC
  by_cases h : R.e = 0
  · rw [if_pos h, if_pos h]
    dsimp only
    rw [if_pos rfl, List.append_assoc]
  · rw [if_neg h, if_neg h, if_neg h]
theorem addC_bad (a : Txt) (n : Nat) (e : Int) (h : e ≠ 0) : addC a (bad n e) = bad n e := if_neg h
/-- What one byte of a string leads to. -/
theorem str_esc {m p : Nat} {d : UInt8} (q : Txt) (h : escB d = true) (hm : m ≠ 200) : strT m p (92 :: d :: q) = addC [d] (strT (m + 1) (p + 2) q) := by
  rw [strT_cons, if_neg (by decide), if_neg (by decide), if_pos (by decide)]
  simp only
  rw [if_pos (show (d == 34 || d == 92) = true from h), if_neg hm]
theorem str_esc_full {p : Nat} {d : UInt8} (q : Txt) (h : escB d = true) : strT 200 p (92 :: d :: q) = bad 0 3 := by
  rw [strT_cons, if_neg (by decide), if_neg (by decide), if_pos (by decide)]
  simp only
  rw [if_pos (show (d == 34 || d == 92) = true from h), if_pos trivial]
theorem str_esc_bad {m p : Nat} (r : Txt) (h : headIs escB r = false) : strT m p (92 :: r) = bad p 1 := by
  rw [strT_cons, if_neg (by decide), if_neg (by decide), if_pos (by decide)]
  cases r with
  | nil => rfl
  | cons d q =>
    simp only
    rw [if_neg (by rw [show (d == 34 || d == 92) = escB d from rfl, show escB d = false from h]; decide)]
theorem str_end {m p : Nat} (r : Txt) : strT m p (34 :: r) = ⟨4, [], 0, p + 1, 0⟩ := by rw [strT_cons, if_pos (by decide)]
theorem str_bad {m p : Nat} {c : UInt8} (r : Txt) (h : c ≠ 34) (h2 : (c < 32 || 126 < c) = true) : strT m p (c :: r) = bad p 1 := by
  rw [strT_cons, if_neg (by simpa using h), if_pos h2]
theorem str_byte {m p : Nat} {c : UInt8} (r : Txt) (h : c ≠ 34) (h2 : (c < 32 || 126 < c) = false) (h3 : c ≠ 92) (hm : m ≠ 200) : strT m p (c :: r) = addC [c] (strT (m + 1) (p + 1) r) := by
  rw [strT_cons, if_neg (by simpa using h), h2, if_neg (by decide), if_neg (by simpa using h3), if_neg hm]
theorem str_full {p : Nat} {c : UInt8} (r : Txt) (h : c ≠ 34) (h2 : (c < 32 || 126 < c) = false) (h3 : c ≠ 92) : strT 200 p (c :: r) = bad 0 3 := by
  rw [strT_cons, if_neg (by simpa using h), h2, if_neg (by decide), if_neg (by simpa using h3), if_pos rfl]
theorem str_nil (m p : Nat) : strT m p [] = bad 0 1 := by rw [strT.eq_def]
theorem ctl_byte (c : UInt8) : (c < 32 || 126 < c) = (decide ((c.toNat : Int) < 32) || decide (126 < (c.toNat : Int))) := by
  rw [Bool.eq_iff_iff]
  simp [UInt8.lt_iff_toNat_lt]
  omega
end Lex
end Go.Proofs.YtghjflmanldjlaaDoor
