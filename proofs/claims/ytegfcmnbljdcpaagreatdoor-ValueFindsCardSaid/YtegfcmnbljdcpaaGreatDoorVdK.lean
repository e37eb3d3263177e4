/-
  Layer 6, the reference: what read and readMany rest on, plainly.
-/
import Derived.Test.YtegfcmnbljdcpaaGreatDoorMK
namespace Go.Proofs.YtegfcmnbljdcpaaGreatDoor
open Go.RowKit Go.ChangeShapes Go.WideShapes
namespace Val

open Lib (itoa) in
theorem itoa_last (n : Int) : ∃ p c, itoa n = p ++ [c] ∧ c ≠ 44 := by
  have hp := text_pos (.int n)
  rw [text] at hp
  have hne : itoa n ≠ [] := fun e => by rw [e] at hp; simp at hp
  refine ⟨(itoa n).dropLast, (itoa n).getLast hne, (List.dropLast_concat_getLast hne).symm, fun e => ?_⟩
  have h := List.all_eq_true.1 (tok_all n) _ (List.getLast_mem hne)
  rw [e] at h
  exact absurd h (by decide)
theorem text_last : ∀ u : V, ∃ p c, text u = p ++ [c] ∧ c ≠ 44
  | .null => ⟨[110, 117, 108], 108, rfl, by decide⟩
  | .bool true => ⟨[116, 114, 117], 101, rfl, by decide⟩
  | .bool false => ⟨[102, 97, 108, 115], 101, rfl, by decide⟩
  | .int n => itoa_last n
  | .str s => ⟨34 :: esc s, 34, by rw [text, quo, List.cons_append], by decide⟩
  | .list l => ⟨91 :: textL l, 93, by rw [text, List.cons_append], by decide⟩
  | .map m => ⟨123 :: textM m, 125, by rw [text, List.cons_append], by decide⟩
mutual
theorem flat_map (f : Int → Int) : ∀ v : V, (flat (mapV f v)).length = (flat v).length
  | .null => rfl
  | .bool _ => rfl
  | .int _ => rfl
  | .str _ => rfl
  | .list l => by simp only [mapV, flat, List.length_cons]; rw [flatL_map f l]
  | .map m => by simp only [mapV, flat, List.length_cons]; rw [flatM_map f m]
theorem flatL_map (f : Int → Int) : ∀ l : L, (flatL (mapVL f l)).length = (flatL l).length
  | .nil => rfl
  | .cons v r => by simp only [mapVL, flatL, List.length_append]; rw [flat_map f v, flatL_map f r]
theorem flatM_map (f : Int → Int) : ∀ m : M, (flatM (mapVM f m)).length = (flatM m).length
  | .nil => rfl
  | .cons k v r => by simp only [mapVM, flatM, List.length_cons, List.length_append]; rw [flat_map f v, flatM_map f r]
end
/-- What an element's cells and what is left of a text are to the text. -/
def Shp (G : Txt → Option (List Cel × Txt)) : Prop := ∀ {S : Txt} {cs : List Cel} {r : Txt}, G S = some (cs, r) → 0 < cs.length ∧ cs.length + r.length ≤ S.length ∧ ∃ p c, S = p ++ c :: r ∧ c ≠ 44
theorem gV_shp (k : Nat) : Shp (gV (rdG intR k)) := by
  intro S cs r h
  unfold gV at h
  cases hg : rdG intR k S with
  | none => rw [hg] at h; cases h
  | some x =>
    obtain ⟨v, q⟩ := x
    rw [hg] at h
    cases h
    obtain ⟨u, rfl, e⟩ := rdG_snd snd_intR hg
    obtain ⟨p, c, e2, hc⟩ := text_last u
    refine ⟨flat_pos _, ?_, p, c, by rw [e, e2]; simp, hc⟩
    have := flat_text u
    rw [e, flat_map, List.length_append]
    show _ + q.length ≤ _
    omega
theorem gP_shp (k : Nat) : Shp (gP (rdG intR k)) := by
  intro S cs r h
  unfold gP at h
  cases hk : rdK S with
  | none => rw [hk] at h; cases h
  | some y =>
    obtain ⟨t, S'⟩ := y
    rw [hk] at h
    simp only at h
    cases hg : rdG intR k S' with
    | none => rw [hg] at h; cases h
    | some x =>
      obtain ⟨v, q⟩ := x
      rw [hg] at h
      cases h
      obtain ⟨h1, h2, p, c, e, hc⟩ := gV_shp k (S := S') (cs := flat v) (r := q) (by unfold gV; rw [hg]; rfl)
      have e0 := rdK_sound hk
      refine ⟨by simp, ?_, quo t ++ 58 :: p, c, by rw [e0, e]; simp, hc⟩
      rw [e0, List.length_cons, List.length_append, List.length_cons]
      show (flat v).length + 1 + q.length ≤ _
      have hq : 1 ≤ (quo t).length := by simp [quo]
      omega
theorem shp_at {s : ByteArray} {i : Nat} {p r : Txt} {c : UInt8} (h : s.toList.drop i = p ++ c :: r) : i + p.length < s.size ∧ (∀ hh : i + p.length < s.size, s[i + p.length] = c) ∧ s.toList.drop (i + p.length + 1) = r ∧ s.size = i + p.length + 1 + r.length := by
  have hl := congrArg List.length h
  rw [List.length_drop, toL_len, List.length_append, List.length_cons] at hl
  have hd : s.toList.drop (i + p.length) = c :: r := by
    rw [← List.drop_drop, h, List.drop_left]
  refine ⟨by omega, fun hh => ?_, ?_, by omega⟩
  · have := drop_at hh
    rw [hd] at this
    exact (List.cons.inj this).1.symm
  · rw [← List.drop_drop, hd]
    rfl
/-- Cells behind what is owned, at any base. -/
theorem list_appG {base : Nat} {Y : World} {m c m2 c2 : Nat} {p o2 : Option Addr} {l l2 : List Cel} {ops : Array Oper} {rest : List Oper} {o : Oper} {a : Act} {Q : Exit → Act → World → Prop} (s x : Operand)
    (ho : o.op = .call { callee := .builtin .append, args := #[s, x], argTypes := #[22, 22] }) (hgd : o.guard = none) (hty : o.type = 22) (hs : a.eval s = .slice p m c) (hx : a.eval x = .slice o2 m2 c2)
    (hb : base ≤ Y.heap.size) (hown : Y.ownsRow base 43 4 (.slice p m c) m (encCs l)) (h2 : CArg Y o2 m2 l2) (hp : 0 < m2) (hm : m + m2 ≤ 1099511627776)
    (h : ∀ o3 c3 w', Hid (Y.grownBy w' (Value.ownBlock (.slice p m c))) → Hid (w'.ownsRow base 43 4 (.slice o3 (m + m2) c3) (m + m2) (encCs (l ++ l2))) → wpList Tryz.prog ops Q rest (a.put o.dst (.slice o3 (m + m2) c3)) w') : wpList Tryz.prog ops Q (o :: rest) a Y :=
  wpList_plain hgd fun K hK => by
    obtain ⟨i0, hi, hz0, hz1, hz2⟩ := info_parts info_cell
    obtain ⟨b, off, rfl, hc⟩ := h2.2.2 hp
    obtain ⟨v', w', r, o3, g, -⟩ := run_append_own (P := Tryz.prog) _ base 22 22 43 i0 _ 4 40 Tryz.underlying22 hi hz0 hz1 hz2 rfl (by decide) _ m _ hown ⟨b, off, none⟩ m2 c2 (encCs l2) (by rw [encCs_len, h2.1])
      (cArg_news hc) cell_one (by unfold maxLen; omega) (by omega) hb
    obtain ⟨p2, c3, rfl, _⟩ := own4_shape o3
    rw [← encCs_app] at o3
    rw [← hty] at r
    unfold Oper.wp execOp
    simp only [ho, resolve, invoke, builtin, Sem.run_bind, Sem.run_pure, Result.andThen_ok, List.map_toArray, List.map_cons, List.map_nil, hs, hx]
    rw [show (#[o.type, o.type] : Array TypeId) = #[22, 22] by rw [hty]] at r
    simp only [r]
    exact hK _ _ (h p2 c3 w' (Lib.hid g) (Lib.hid o3))
end Val
end Go.Proofs.YtegfcmnbljdcpaaGreatDoor
