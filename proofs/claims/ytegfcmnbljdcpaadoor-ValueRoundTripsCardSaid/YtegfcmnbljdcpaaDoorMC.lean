/-
  Layer 6, texts merged: the reference's Text, Check and builders. For every argument within the bounds that each theorem names.
-/
import Derived.Test.YtegfcmnbljdcpaaDoorMB
import Derived.Test.YtegfcmnbljdcpaaDoorMA
import Derived.Test.YtegfcmnbljdcpaaDoorShelf
import Derived.Lib.ItoaLen
import Derived.Laws.OwnMore

/-
  Layer 6, the reference: Text.
-/
namespace Go.Proofs.YtegfcmnbljdcpaaDoor
open Go.RowKit
namespace Val
open Go.Lib (itoa)

theorem esc_ge (l : Txt) : l.length ≤ (esc l).length := by
  induction l with
  | nil => exact Nat.le_refl _
  | cons x l ih =>
    rw [esc]
    split
    · simp only [List.length_cons]; omega
    · simp only [List.length_cons]; omega
end Val
end Go.Proofs.YtegfcmnbljdcpaaDoor

/-
  Layer 6, the reference: Text of lists and maps.
-/
namespace Go.Proofs.YtegfcmnbljdcpaaDoor
open Go.RowKit
namespace Val

/-- What is still to be written of a list of which k elements are written. -/
def restL (k : Nat) (q : L) : Txt := if k = 0 then textL q else moreL q
theorem restL_nil (k : Nat) : restL k .nil = [] := by unfold restL; split <;> rfl
theorem restL_cons (k : Nat) (v : V) (q : L) : restL k (.cons v q) = (if k = 0 then [] else [44]) ++ (text v ++ restL (k + 1) q) := by
  unfold restL
  rw [if_neg (by omega : ¬ k + 1 = 0)]
  split <;> rfl
theorem app_str (X Y : ByteArray) : (X ++ Y).toList = X.toList ++ Y.toList := by
  rw [toL, toL, toL]
  simp [ByteArray.data_append]
theorem size_str (X : ByteArray) : X.size = X.toList.length := (toL_len X).symm
/-- The same of a map. -/
def restM (k : Nat) (q : M) : Txt := if k = 0 then textM q else moreM q
theorem restM_nil (k : Nat) : restM k .nil = [] := by unfold restM; split <;> rfl
theorem restM_cons (k : Nat) (ky : Txt) (v : V) (q : M) : restM k (.cons ky v q) = (if k = 0 then [] else [44]) ++ (quo ky ++ 58 :: (text v ++ restM (k + 1) q)) := by
  unfold restM
  rw [if_neg (by omega : ¬ k + 1 = 0)]
  split <;> rfl
end Val
end Go.Proofs.YtegfcmnbljdcpaaDoor

/-
  Layer 6, the reference: Check, Depth, Encode.
-/
namespace Go.Proofs.YtegfcmnbljdcpaaDoor
open Go.RowKit
namespace Val
open Go.Lib (itoa)

def rngC (c : Cel) : Bool := !(c.k == 3 && (decide (c.i < -1000000000000) || decide (1000000000000 < c.i)))
def strC (c : Cel) : Bool := decide (c.s.length ≤ 200)
/-- The error of a list of cells. -/
def chkT (l : List Cel) (t : V) : Int :=
  if l.all rngC = false then 2 else if 200 < l.length then 3 else if 8 < lvl t then 3 else if l.all strC = false then 3 else if 4000 < (text t).length then 3 else 0
def chk (l : List Cel) : Int := match par l with
  | none => 1
  | some t => chkT l t
def okC (c : Cel) : Prop := c.s.length ≤ 200 ∧ -9223372036854775808 ≤ c.i ∧ c.i ≤ 9223372036854775807
theorem quo_len {s : Txt} (h : s.length ≤ 200) : (quo s).length ≤ 402 := by
  have := esc_len s
  unfold quo
  simp only [List.length_cons, List.length_append, List.length_nil]
  omega
theorem boundL : ∀ x, allL (fun t => (∀ c ∈ flat t, okC c) → (text t).length + 1 ≤ 430 * (flat t).length) x → (∀ c ∈ flatL x, okC c) → (moreL x).length ≤ 430 * (flatL x).length
  | .nil, _, _ => Nat.zero_le _
  | .cons v r, h, hc => by
    have h1 := h.1 (fun c m => hc c (by rw [flatL]; exact List.mem_append_left _ m))
    have h2 := boundL r h.2 (fun c m => hc c (by rw [flatL]; exact List.mem_append_right _ m))
    rw [moreL, flatL]
    simp only [List.length_cons, List.length_append]
    omega
theorem boundM : ∀ x, allM (fun t => (∀ c ∈ flat t, okC c) → (text t).length + 1 ≤ 430 * (flat t).length) x → (∀ c ∈ flatM x, okC c) → (moreM x).length ≤ 430 * (flatM x).length
  | .nil, _, _ => Nat.zero_le _
  | .cons k v r, h, hc => by
    have h1 := h.1 (fun c m => hc c (by rw [flatM]; exact List.mem_cons_of_mem _ (List.mem_append_left _ m)))
    have h2 := boundM r h.2 (fun c m => hc c (by rw [flatM]; exact List.mem_cons_of_mem _ (List.mem_append_right _ m)))
    have h3 : (quo k).length ≤ 402 := quo_len (hc ⟨4, 0, k, 0⟩ (by rw [flatM]; exact List.mem_cons_self ..)).1
    rw [moreM, flatM]
    simp only [List.length_cons, List.length_append]
    omega
theorem textL_le (x : L) : (textL x).length ≤ (moreL x).length := by cases x <;> simp [textL, moreL]
theorem textM_le (x : M) : (textM x).length ≤ (moreM x).length := by cases x <;> simp [textM, moreM]
theorem text_bound : ∀ t, (∀ c ∈ flat t, okC c) → (text t).length + 1 ≤ 430 * (flat t).length := by
  refine V_ind (fun _ => by simp [text, flat]) (fun b _ => by cases b <;> simp [text, flat]) (fun n h => ?_) (fun s h => ?_) (fun x hx h => ?_) (fun x hx h => ?_)
  · have h1 := h ⟨3, n, [], 0⟩ (by simp [flat])
    have := Lib.itoa_length_le n h1.2.1 h1.2.2
    simp only [text, flat, List.length_cons, List.length_nil]
    omega
  · have h1 := h ⟨4, 0, s, 0⟩ (by simp [flat])
    have : (quo s).length ≤ 402 := quo_len h1.1
    simp only [text, flat, List.length_cons, List.length_nil]
    omega
  · have h1 := boundL x hx (fun c m => h c (by rw [flat]; exact List.mem_cons_of_mem _ m))
    have h2 := textL_le x
    simp only [text, flat, List.length_cons, List.length_append, List.length_nil]
    omega
  · have h1 := boundM x hx (fun c m => h c (by rw [flat]; exact List.mem_cons_of_mem _ m))
    have h2 := textM_le x
    simp only [text, flat, List.length_cons, List.length_append, List.length_nil]
    omega
theorem all_step {p : Cel → Bool} {l : List Cel} {k : Nat} (h : k < l.length) : (l.drop k).all p = (p l[k] && (l.drop (k + 1)).all p) := by
  rw [List.drop_eq_getElem_cons h, List.all_cons]
theorem all_end {p : Cel → Bool} {l : List Cel} {k : Nat} (h : l.length ≤ k) : (l.drop k).all p = true := by
  rw [List.drop_of_length_le h]
  rfl
/-- What is left of Check behind the test of the integers. -/
def chk2 (l : List Cel) (t : V) : Int := if 200 < l.length then 3 else if 8 < lvl t then 3 else if l.all strC = false then 3 else if 4000 < (text t).length then 3 else 0
theorem chkT_no {l : List Cel} {t : V} (h : l.all rngC = false) : chkT l t = 2 := if_pos h
theorem chkT_yes {l : List Cel} {t : V} (h : l.all rngC = true) : chkT l t = chk2 l t := if_neg (by rw [h]; decide)
theorem chk2_a {l : List Cel} {t : V} (h : 200 < l.length) : chk2 l t = 3 := if_pos h
theorem chk2_b {l : List Cel} {t : V} (h : ¬ 200 < l.length) (h2 : 8 < lvl t) : chk2 l t = 3 := by
  unfold chk2
  rw [if_neg h, if_pos h2]
theorem chk2_c {l : List Cel} {t : V} (h : ¬ 200 < l.length) (h2 : ¬ 8 < lvl t) (h3 : l.all strC = false) : chk2 l t = 3 := by
  unfold chk2
  rw [if_neg h, if_neg h2, if_pos h3]
theorem chk2_d {l : List Cel} {t : V} (h : ¬ 200 < l.length) (h2 : ¬ 8 < lvl t) (h3 : l.all strC = true) : chk2 l t = if 4000 < (text t).length then 3 else 0 := by
  unfold chk2
  rw [if_neg h, if_neg h2, if_neg (by rw [h3]; decide)]
end Val
end Go.Proofs.YtegfcmnbljdcpaaDoor

/-
  Layer 6, the reference: literals of cells; checked, Null, Bool, Int, Str; Depth, Encode.
-/
namespace Go.Proofs.YtegfcmnbljdcpaaDoor
open Go.RowKit
namespace Val

/-- A slice of one new cell. -/
theorem lit_cArg (w : World) (k i n : Int) (s : ByteArray) (t : TypeId) (hf : Fits ⟨k, i, s.toList, n⟩) :
    CArg (w.alloc (.cells #[.int .i64 k, .int .i64 i, .string s, .int .i64 n] t)) (some ⟨w.heap.size, 0, none⟩) 1 [⟨k, i, s.toList, n⟩] := by
  refine ⟨rfl, fun c h => by rw [List.mem_singleton.1 h]; exact hf, fun _ => ⟨w.heap.size, 0, rfl, fun j hj => ?_⟩⟩
  obtain rfl : j = 0 := by simp at hj; omega
  refine ⟨?_, ?_, ?_, ?_⟩
  · rw [World.cell?_alloc_new]; rfl
  · rw [World.cell?_alloc_new]; rfl
  · rw [World.cell?_alloc_new]; show some (Value.string s) = _; rw [List.getElem_cons_zero, str_back]
  · rw [World.cell?_alloc_new]; rfl
theorem fits_small (k i n : Int) (s : Txt) (hk : 0 ≤ k ∧ k ≤ 6) (hi : -9223372036854775808 ≤ i ∧ i ≤ 9223372036854775807) (hn : 0 ≤ n ∧ n ≤ 4611686018427387904) (hs : s.length ≤ 140737488355328) : Fits ⟨k, i, s, n⟩ :=
  ⟨⟨by show _ ≤ k; omega, by show k ≤ _; omega⟩, hi, ⟨by show _ ≤ n; omega, by show n ≤ _; omega⟩, hs⟩
theorem emp_list : (⟨#[]⟩ : ByteArray).toList = [] := tl []
/-- A slice of one new cell without a string. -/
theorem lit_cArg0 (w : World) (k i n : Int) (t : TypeId) (hf : Fits ⟨k, i, [], n⟩) :
    CArg (w.alloc (.cells #[.int .i64 k, .int .i64 i, .string ⟨#[]⟩, .int .i64 n] t)) (some ⟨w.heap.size, 0, none⟩) 1 [⟨k, i, [], n⟩] := by
  have h := lit_cArg w k i n ⟨#[]⟩ t (by rw [emp_list]; exact hf)
  rw [emp_list] at h
  exact h
/-- A list of cells and an error, as a function returns them. -/
def CRes (w : World) (e : Ending) (l : List Cel) (E : Int) : Prop := ∃ o n c, e = .returned (.tuple #[.slice o n c, .int .i64 E]) ∧ CArg w o n l ∧ n ≤ c
theorem CRes.nil (w : World) (E : Int) : CRes w (.returned (.tuple #[.slice none 0 0, .int .i64 E])) [] E := ⟨none, 0, 0, rfl, CArg.nil w none, Nat.le_refl _⟩
/-- What a value is that is handed back checked. -/
def chkd (l : List Cel) : List Cel := if chk l = 0 then l else []
/-- What Depth answers. -/
def depC (l : List Cel) : Int := match par l with
  | none => 0
  | some t => if chkT l t = 0 then (lvl t : Int) else 0
/-- What Encode answers. -/
def encT (l : List Cel) : Txt := match par l with
  | none => []
  | some t => if chkT l t = 0 then text t else []
theorem chk_ok {l : List Cel} (h : chk l = 0) : ∃ t, par l = some t ∧ chkT l t = 0 := by
  unfold chk at h
  split at h
  · cases h
  · next t e => exact ⟨t, e, h⟩
end Val
end Go.Proofs.YtegfcmnbljdcpaaDoor

/-
  Layer 6, the reference: Depth, Encode; Same.
-/
namespace Go.Proofs.YtegfcmnbljdcpaaDoor
open Go.RowKit
namespace Val

theorem chk_text {l : List Cel} {t : V} (h : chkT l t = 0) : (text t).length ≤ 4000 := by
  unfold chkT at h
  repeat' split at h
  all_goals first | omega | cases h
theorem chk_len {l : List Cel} {t : V} (h : chkT l t = 0) : l.length ≤ 200 := by
  unfold chkT at h
  repeat' split at h
  all_goals first | omega | cases h
end Val
end Go.Proofs.YtegfcmnbljdcpaaDoor

/-
  Layer 6: cells as values; what append builds of them.
-/
namespace Go.Proofs.YtegfcmnbljdcpaaDoor
open Go.RowKit Go.ChangeShapes Go.WideShapes
namespace Val

/-- A cell as values. -/
def encC (c : Cel) : List Value := [.int .i64 c.k, .int .i64 c.i, .string ⟨c.s.toArray⟩, .int .i64 c.n]
def encCs (l : List Cel) : List Value := l.flatMap encC
theorem encC_len (c : Cel) : (encC c).length = 4 := rfl
theorem encCs_len (l : List Cel) : (encCs l).length = l.length * 4 := by
  induction l with
  | nil => rfl
  | cons c r ih =>
    show (encC c ++ encCs r).length = _
    rw [List.length_append, ih, encC_len, List.length_cons]
    omega
theorem encCs_app (a b : List Cel) : encCs (a ++ b) = encCs a ++ encCs b := by simp [encCs]
theorem encCs_one (c : Cel) : encCs [c] = encC c := by simp [encCs]
theorem cell_one {l : List Cel} : ∀ u ∈ encCs l, u.oneCell' = true := fun u hu => by
  simp only [encCs, List.mem_flatMap, encC] at hu
  obtain ⟨x, _, hx⟩ := hu
  simp only [List.mem_cons, List.not_mem_nil, or_false] at hx
  rcases hx with rfl | rfl | rfl | rfl <;> rfl
theorem encCs_get {l : List Cel} {i : Nat} (h : i < l.length) : (encCs l)[i * 4]? = some (.int .i64 l[i].k) ∧ (encCs l)[i * 4 + 1]? = some (.int .i64 l[i].i) ∧ (encCs l)[i * 4 + 2]? = some (.string ⟨l[i].s.toArray⟩) ∧ (encCs l)[i * 4 + 3]? = some (.int .i64 l[i].n) := by
  have e : encCs l = encCs (l.take i) ++ (encC l[i] ++ encCs (l.drop (i + 1))) := by
    rw [← encCs_one l[i], ← encCs_app, ← encCs_app]
    congr 1
    rw [List.singleton_append, ← List.drop_eq_getElem_cons h, List.take_append_drop]
  have hl : (encCs (l.take i)).length = i * 4 := by rw [encCs_len, List.length_take, Nat.min_eq_left (by omega)]
  rw [e]
  refine ⟨?_, ?_, ?_, ?_⟩
  all_goals
    rw [List.getElem?_append_right (by omega), hl]
    simp [encC]
theorem info_cell : (Tryd.prog.info? 37).map (fun i => (i.zero, i.size, i.bytes)) = some (some (.agg #[.int .i64 0, .int .i64 0, .string ByteArray.empty, .int .i64 0]), 4, 40) := by kernel_rfl
theorem own4_shape {w : World} {base : Nat} {e : TypeId} {v : Value} {k : Nat} {xs : List Value} (h : w.ownsRow base e 4 v k xs) : ∃ o c, v = .slice o k c ∧ k ≤ c := by
  rcases h.2 with ⟨hv, hk⟩ | ⟨g, cap, cur, hv, _, _, hc, _⟩
  · exact ⟨none, 0, by rw [hv, hk], by omega⟩
  · exact ⟨_, _, hv, hc⟩
theorem own4_on {w w' : World} {base : Nat} {e : TypeId} {v : Value} {k : Nat} {xs : List Value} (h : w.ownsRow base e 4 v k xs) (b : Bel w w') : w'.ownsRow base e 4 v k xs :=
  h.kept (row := none) ⟨b.os, b.tape, b.output, b.size, fun i hi _ => b.block i hi⟩ (by cases hv : v.ownBlock <;> simp)
theorem own4_bel {a w w' : World} {e : TypeId} {v : Value} {k : Nat} {xs : List Value} (h : w.ownsRow a.heap.size e 4 v k xs) (b : Bel a w) (hg : w.grownBy w' v.ownBlock) : Bel a w' :=
  Below.grown b hg b.size fun i hi => (h.lt i hi).1
/-- What is owned reads as a slice of cells. -/
theorem own_cArg {w : World} {base : Nat} {e : TypeId} {o : Option Addr} {k c : Nat} {l : List Cel} (h : w.ownsRow base e 4 (.slice o k c) k (encCs l)) (hf : ∀ c ∈ l, Fits c) : CArg w o k l := by
  have hl : l.length = k := by have := h.1; rw [encCs_len] at this; omega
  refine ⟨hl, hf, fun hk => ?_⟩
  rcases h.2 with ⟨hv, hk0⟩ | ⟨g, cap, cur, hv, _, _, _⟩
  · omega
  · simp only [Value.slice.injEq] at hv
    obtain ⟨rfl, -, rfl⟩ := hv
    refine ⟨g, 0, rfl, fun i hi => ?_⟩
    obtain ⟨e1, e2, e3, e4⟩ := encCs_get hi
    have c := h.cells (g := g) rfl
    simp only [Lib.add_plain] at c
    refine ⟨?_, ?_, ?_, ?_⟩
    · have := c _ _ e1; simpa using this
    · have := c _ _ e2; simpa [Nat.add_assoc] using this
    · have := c _ _ e3; simpa [Nat.add_assoc] using this
    · have := c _ _ e4; simpa [Nat.add_assoc] using this
/-- The cells of a slice of cells, as append reads them. -/
theorem cArg_news {w : World} {b off : Nat} {l : List Cel} (h : ∀ i (h : i < l.length), CAt w b (off + i * 4) l[i]) : ∀ j u, (encCs l)[j]? = some u → w.cell? ((⟨b, off, none⟩ : Addr).add j) = some u := fun j u hj => by
  have hlt : j < (encCs l).length := by
    rcases Nat.lt_or_ge j (encCs l).length with k | k
    · exact k
    · rw [List.getElem?_eq_none k] at hj; cases hj
  rw [encCs_len] at hlt
  have hi : j / 4 < l.length := by omega
  obtain ⟨e1, e2, e3, e4⟩ := encCs_get hi
  obtain ⟨c1, c2, c3, c4⟩ := h (j / 4) hi
  rw [Lib.add_plain]
  show w.cell? ⟨b, off + j, none⟩ = _
  have h4 : j % 4 = 0 ∨ j % 4 = 1 ∨ j % 4 = 2 ∨ j % 4 = 3 := by omega
  rcases h4 with h4 | h4 | h4 | h4
  · rw [show j / 4 * 4 = j by omega] at e1 c1
    rw [c1, ← e1, hj]
  · rw [show j / 4 * 4 + 1 = j by omega] at e2
    rw [show off + j / 4 * 4 + 1 = off + j by omega] at c2
    rw [c2, ← e2, hj]
  · rw [show j / 4 * 4 + 2 = j by omega] at e3
    rw [show off + j / 4 * 4 + 2 = off + j by omega] at c3
    rw [c3, ← e3, hj]
  · rw [show j / 4 * 4 + 3 = j by omega] at e4
    rw [show off + j / 4 * 4 + 3 = off + j by omega] at c4
    rw [c4, ← e4, hj]
/-- Cells behind what is owned. -/
theorem appC {Y : World} {m c m2 c2 : Nat} {o o2 : Option Addr} {l l2 : List Cel} {w : World} (hb : Bel w Y) (hown : Y.ownsRow w.heap.size 37 4 (.slice o m c) m (encCs l)) (h2 : CArg Y o2 m2 l2) (hp : 0 < m2) (hm : m + m2 ≤ 1099511627776) :
    ∃ v' w', (Builtin.append_ #[22, 22] 22 #[.slice o m c, .slice o2 m2 c2]).run Tryd.prog Y = .ok v' w' ∧ Bel w w' ∧ ∃ o3 c3, v' = .slice o3 (m + m2) c3 ∧ w'.ownsRow w.heap.size 37 4 (.slice o3 (m + m2) c3) (m + m2) (encCs (l ++ l2)) := by
  obtain ⟨i0, hi, hz0, hz1, hz2⟩ := info_parts info_cell
  obtain ⟨b, off, rfl, hc⟩ := h2.2.2 hp
  obtain ⟨v', w', r, o3, g, -⟩ := run_append_own (P := Tryd.prog) _ w.heap.size 22 22 37 i0 _ 4 40 Tryd.underlying22 hi hz0 hz1 hz2 rfl (by decide) _ m _ hown ⟨b, off, none⟩ m2 c2 (encCs l2) (by rw [encCs_len, h2.1])
    (cArg_news hc) cell_one (by unfold maxLen; omega) (by omega) hb.size
  obtain ⟨p2, c3, rfl, _⟩ := own4_shape o3
  exact ⟨_, w', r, own4_bel hown hb g, p2, c3, rfl, by rw [encCs_app]; exact o3⟩
/-- The same at a region's operation. -/
theorem list_appC {Y : World} {m c m2 c2 : Nat} {p o2 : Option Addr} {l l2 : List Cel} {w : World} {ops : Array Oper} {rest : List Oper} {o : Oper} {a : Act} {Q : Exit → Act → World → Prop} (s x : Operand)
    (ho : o.op = .call { callee := .builtin .append, args := #[s, x], argTypes := #[22, 22] }) (hgd : o.guard = none) (hty : o.type = 22) (hs : a.eval s = .slice p m c) (hx : a.eval x = .slice o2 m2 c2)
    (hb : Bel w Y) (hown : Y.ownsRow w.heap.size 37 4 (.slice p m c) m (encCs l)) (h2 : CArg Y o2 m2 l2) (hp : 0 < m2) (hm : m + m2 ≤ 1099511627776)
    (h : ∀ o3 c3 w', Hid (Bel w w') → Hid (w'.ownsRow w.heap.size 37 4 (.slice o3 (m + m2) c3) (m + m2) (encCs (l ++ l2))) → wpList Tryd.prog ops Q rest (a.put o.dst (.slice o3 (m + m2) c3)) w') : wpList Tryd.prog ops Q (o :: rest) a Y :=
  wpList_plain hgd fun K hK => by
    obtain ⟨v', w', r, g, o3, c3, rfl, k⟩ := appC (c2 := c2) hb hown h2 hp hm
    rw [← hty] at r
    unfold Oper.wp execOp
    simp only [ho, resolve, invoke, builtin, Sem.run_bind, Sem.run_pure, Result.andThen_ok, List.map_toArray, List.map_cons, List.map_nil, hs, hx]
    rw [show (#[o.type, o.type] : Array TypeId) = #[22, 22] by rw [hty]] at r
    simp only [r]
    exact hK _ _ (h o3 c3 w' (Lib.hid g) (Lib.hid k))
end Val
end Go.Proofs.YtegfcmnbljdcpaaDoor

/-
  Layer 6, the reference: part.
-/
namespace Go.Proofs.YtegfcmnbljdcpaaDoor
open Go.RowKit Go.ChangeShapes Go.WideShapes
namespace Val

end Val
end Go.Proofs.YtegfcmnbljdcpaaDoor

/-
  Layer 6, the reference: List, Map.
-/
namespace Go.Proofs.YtegfcmnbljdcpaaDoor
open Go.RowKit Go.ChangeShapes Go.WideShapes
namespace Val

/-- A slice of slices of cells, as a walk reads it. -/
def LArg (w : World) (o : Option Addr) (n : Nat) (ls : List (List Cel)) : Prop := ls.length = n ∧ ∀ i (h : i < ls.length), ∃ a p m c, o = some a ∧ w.cell? (a.add i) = some (.slice p m c) ∧ CArg w p m ls[i] ∧ m ≤ c
theorem LArg.on {w w' : World} {o : Option Addr} {n : Nat} {ls : List (List Cel)} (h : LArg w o n ls) (b : Bel w w') : LArg w' o n ls :=
  ⟨h.1, fun i hi => let ⟨a, p, m, c, e, k, g, q⟩ := h.2 i hi; ⟨a, p, m, c, e, b.cell' k, g.on b, q⟩⟩
theorem LArg.nil (w : World) (o : Option Addr) : LArg w o 0 [] := ⟨rfl, fun i h => absurd h (Nat.not_lt_zero i)⟩
/-- The first error of a list of values. -/
def firstE : List (List Cel) → Int
  | [] => 0
  | l :: r => if chk l = 0 then firstE r else chk l
def listC (ls : List (List Cel)) : List Cel := ⟨5, 0, [], ls.length⟩ :: ls.flatten
def listB (ls : List (List Cel)) : List Cel := if firstE ls = 0 then chkd (listC ls) else []
def listE (ls : List (List Cel)) : Int := if firstE ls = 0 then chk (listC ls) else firstE ls
theorem firstE_step {ls : List (List Cel)} {k : Nat} (h : k < ls.length) : firstE (ls.drop k) = if chk ls[k] = 0 then firstE (ls.drop (k + 1)) else chk ls[k] := by
  rw [List.drop_eq_getElem_cons h, firstE]
theorem flat_step {ls : List (List Cel)} {k : Nat} (h : k < ls.length) : (ls.take (k + 1)).flatten = (ls.take k).flatten ++ ls[k] := by
  rw [List.take_succ_eq_append_getElem h, List.flatten_append]
  simp
theorem flat_le {ls : List (List Cel)} (k : Nat) : (ls.take k).flatten.length ≤ ls.flatten.length := by
  have h : ls.flatten = (ls.take k).flatten ++ (ls.drop k).flatten := by rw [← List.flatten_append, List.take_append_drop]
  rw [h, List.length_append]
  omega
theorem chk_pos {l : List Cel} (h : chk l = 0) : 0 < l.length := by
  obtain ⟨t, hp, _⟩ := chk_ok h
  obtain ⟨_, rfl⟩ := par_some.1 hp
  cases t <;> simp [flat]
end Val
end Go.Proofs.YtegfcmnbljdcpaaDoor

/-
  Slices of slices of cells as arguments of a law; slices of strings, sized.
-/
namespace Go.Proofs.YtegfcmnbljdcpaaDoor
open Go.RowKit Go.ChangeShapes Go.WideShapes Go.Deep

/-- A string of a slice of strings is of memory. -/
theorem sized_strs {H : Type} {P : Program} {ts : List TypeId} {ds : List (DataW H)} (h : (DataW.weightsEach P ts ds).all (· ≤ reachBytes) = true) {j : Nat} {t e : TypeId} {xs : List ByteArray} {sp : List (DataW H)} (ht : ts[j]? = some t) (hd : ds[j]? = some (.slice (strs xs) sp))
    (hu : P.underlying t = some (.slice e)) : ∀ x ∈ xs, x.size ≤ 140737488355328 := fun x hx => by
  have all : ∀ l : List ByteArray, x ∈ l → x.data.toList.length ∈ DataW.weightsAll P e (strs l : List (DataW H)) := by
    intro l
    induction l with
    | nil => intro h; cases h
    | cons y r ih =>
      intro h
      simp only [strs, List.map_cons, DataW.weightsAll, DataW.weights, List.mem_append, List.mem_singleton]
      rcases List.mem_cons.1 h with rfl | h
      · exact Or.inl rfl
      · exact Or.inr (ih h)
  have hm := DataW.weights_mem_each (P := P) ht hd x.data.toList.length (by
    simp only [DataW.weights, hu, List.mem_cons, List.mem_append]
    exact Or.inr (Or.inl (all xs hx)))
  have h1 := List.all_eq_true.1 h _ hm
  have h2 := reachBytes_lt
  have h3 : x.data.toList.length = x.size := Array.length_toList
  have h4 : (2 : Nat) ^ 47 = 140737488355328 := by decide
  simp only [decide_eq_true_eq] at h1
  omega
end Go.Proofs.YtegfcmnbljdcpaaDoor

/-
  Layer 6, the reference: Map.
-/
namespace Go.Proofs.YtegfcmnbljdcpaaDoor
open Go.RowKit Go.ChangeShapes Go.WideShapes
namespace Val

/-- The cells of pairs. -/
def pairC (x : ByteArray × List Cel) : List Cel := ⟨4, 0, x.1.toList, 0⟩ :: x.2
def prsC (ks : List ByteArray) (ls : List (List Cel)) : List Cel := (ks.zip ls).flatMap pairC
def mapC (ks : List ByteArray) (ls : List (List Cel)) : List Cel := ⟨6, 0, [], ls.length⟩ :: prsC ks ls
def mapB (ks : List ByteArray) (ls : List (List Cel)) : List Cel := if ks.length = ls.length then (if firstE ls = 0 then chkd (mapC ks ls) else []) else []
def mapE (ks : List ByteArray) (ls : List (List Cel)) : Int := if ks.length = ls.length then (if firstE ls = 0 then chk (mapC ks ls) else firstE ls) else 1
/-- The cells of the first pairs. -/
def prsT (ks : List ByteArray) (ls : List (List Cel)) (k : Nat) : List Cel := ((ks.zip ls).take k).flatMap pairC
theorem prsT_step {ks : List ByteArray} {ls : List (List Cel)} {k : Nat} (h1 : k < ks.length) (h2 : k < ls.length) : prsT ks ls (k + 1) = (prsT ks ls k ++ [⟨4, 0, ks[k].toList, 0⟩]) ++ ls[k] := by
  have hk : k < (ks.zip ls).length := by rw [List.length_zip]; omega
  unfold prsT
  rw [List.take_succ_eq_append_getElem hk, List.flatMap_append]
  simp [pairC]
theorem prsT_all {ks : List ByteArray} {ls : List (List Cel)} {k : Nat} (h : ls.length ≤ k) : prsT ks ls k = prsC ks ls := by
  unfold prsT prsC
  rw [List.take_of_length_le (by rw [List.length_zip]; omega)]
theorem prsT_le (ks : List ByteArray) (ls : List (List Cel)) (k : Nat) : (prsT ks ls k).length ≤ (prsC ks ls).length := by
  have h : prsC ks ls = prsT ks ls k ++ ((ks.zip ls).drop k).flatMap pairC := by
    unfold prsC prsT
    rw [← List.flatMap_append, List.take_append_drop]
  rw [h, List.length_append]
  omega
end Val
end Go.Proofs.YtegfcmnbljdcpaaDoor
