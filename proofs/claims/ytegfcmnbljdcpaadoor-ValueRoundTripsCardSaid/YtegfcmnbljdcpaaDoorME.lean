/-
  Layer 6, texts merged: the reference's ways of finding, and Same. For every argument within the bounds that each theorem names.
-/
import Derived.Test.YtegfcmnbljdcpaaDoorMC
import Derived.Test.YtegfcmnbljdcpaaDoorMA
import Derived.BigQuiet
import Derived.Deep.RegionHeld3
import Derived.Laws.StructEq

/-
  Layer 6, the reference: Keys.
-/
namespace Go.Proofs.YtegfcmnbljdcpaaDoor
open Go.RowKit Go.ChangeShapes Go.WideShapes
namespace Val

/-- A string behind what is owned, at a region's operation. -/
theorem list_appS {Y : World} {m c : Nat} {p : Option Addr} {l : List ByteArray} {x : ByteArray} {b : Nat} {w : World} {ops : Array Oper} {rest : List Oper} {o : Oper} {a : Act} {Q : Exit → Act → World → Prop} (s y : Operand)
    (ho : o.op = .call { callee := .builtin .append, args := #[s, y], argTypes := #[43, 43] }) (hgd : o.guard = none) (_hty : o.type = 43) (hs : a.eval s = .slice p m c) (hx : a.eval y = .slice (some ⟨b, 0, none⟩) 1 1)
    (hb : Bel w Y) (hown : Y.ownsRow w.heap.size 9 1 (.slice p m c) m (encS l)) (h2 : ∀ j u, [Value.string x][j]? = some u → Y.cell? ((⟨b, 0, none⟩ : Addr).add j) = some u) (hm : m + 1 ≤ 1099511627776)
    (h : ∀ o3 c3 w', Hid (Bel w w') → Hid (w'.ownsRow w.heap.size 9 1 (.slice o3 (m + 1) c3) (m + 1) (encS (l ++ [x]))) → wpList Tryd.prog ops Q rest (a.put o.dst (.slice o3 (m + 1) c3)) w') : wpList Tryd.prog ops Q (o :: rest) a Y := by
  obtain ⟨i0, hi, hz0, hz1, hz2⟩ := info_parts info_str
  refine wpList_append_own _ hgd s y 43 ho w.heap.size 9 i0 _ 1 16 Tryd.underlying43 hi hz0 hz1 hz2 rfl (by decide) _ m _ hs hown ⟨b, 0, none⟩ 1 1 [.string x] hx rfl h2 (fun u hu => by simp at hu; subst hu; rfl) (by unfold maxLen; omega) (by omega) hb.size ?_
  intro v' w' ho' hg _
  obtain ⟨o3, c3, rfl⟩ := own_shape ho'
  exact h o3 c3 w' (Lib.hid (own_bel hown hb hg)) (Lib.hid (by rw [show encS (l ++ [x]) = encS l ++ [.string x] by simp [encS]]; exact ho'))
theorem own1_le {w : World} {base : Nat} {e : TypeId} {o : Option Addr} {k c : Nat} {xs : List Value} (h : w.ownsRow base e 1 (.slice o k c) k xs) : k ≤ c := by
  rcases h.2 with ⟨hv, hk⟩ | ⟨g, cap, cur, hv, _, _, hc, _⟩
  · omega
  · simp only [Value.slice.injEq] at hv
    omega
def keysM : M → List ByteArray
  | .nil => []
  | .cons k _ r => ⟨k.toArray⟩ :: keysM r
theorem keysM_len : ∀ x, (keysM x).length = lenM x
  | .nil => rfl
  | .cons _ _ r => by rw [keysM, lenM, List.length_cons, keysM_len r]
/-- What Keys answers. -/
def keyB (l : List Cel) : List ByteArray := match par l with
  | some (.map x) => if chkT l (.map x) = 0 then keysM x else []
  | _ => []
def keyE (l : List Cel) : Int := if chk l = 0 then (match par l with
  | some (.map _) => 0
  | _ => 7) else chk l
/-- Strings and an error, as a function returns them. -/
def SRes (w : World) (e : Ending) (l : List ByteArray) (E : Int) : Prop := ∃ o n c, e = .returned (.tuple #[.slice o n c, .int .i64 E]) ∧ SlArg w o n l ∧ n ≤ c
theorem SRes.nil (w : World) (E : Int) : SRes w (.returned (.tuple #[.slice none 0 0, .int .i64 E])) [] E := ⟨none, 0, 0, rfl, SlArg.nil w, Nat.le_refl _⟩
theorem head_of {l : List Cel} {t : V} (h : l = flat t) : 0 < l.length := by rw [h]; exact flat_pos t
end Val
end Go.Proofs.YtegfcmnbljdcpaaDoor

/-
  Layer 6, the reference: Items.
-/
namespace Go.Proofs.YtegfcmnbljdcpaaDoor
open Go.RowKit Go.ChangeShapes Go.WideShapes
namespace Val

/-- A slice of cells does not lie in a row's block. -/
def Apart (o : Option Addr) (row : Option Nat) : Prop := ∀ a : Addr, o = some a → some a.block ≠ row
theorem CArg.grown {w w' : World} {o : Option Addr} {n : Nat} {l : List Cel} {row : Option Nat} (h : CArg w o n l) (g : w.grownBy w' row) (ha : Apart o row) : CArg w' o n l :=
  ⟨h.1, h.2.1, fun hn => by
    obtain ⟨b, off, e, k⟩ := h.2.2 hn
    have hne : some b ≠ row := ha _ e
    refine ⟨b, off, e, fun i hi => ?_⟩
    obtain ⟨k1, k2, k3, k4⟩ := k i hi
    exact ⟨g.cell k1 hne, g.cell k2 hne, g.cell k3 hne, g.cell k4 hne⟩⟩
theorem CArg.lt {w : World} {a : Addr} {n : Nat} {l : List Cel} (h : CArg w (some a) n l) (hn : 0 < n) : a.block < w.heap.size := by
  obtain ⟨b', off', e, k⟩ := h.2.2 hn
  cases e
  have := (k 0 (by have := h.1; omega)).1
  exact cell_lt' this
/-- Slices of cells, owned. -/
def LOwn (w : World) (base : Nat) (o : Option Addr) (k c : Nat) (ls : List (List Cel)) : Prop := ∃ vs : List Value, w.ownsRow base 22 1 (.slice o k c) k vs ∧ vs.length = ls.length ∧ ∀ i (h : i < ls.length) (h' : i < vs.length), ∃ p m d, vs[i] = .slice p m d ∧ CArg w p m ls[i] ∧ m ≤ d ∧ (0 < m → Apart p (Value.ownBlock (.slice o k c)))
theorem LOwn.nil (w : World) (base : Nat) : LOwn w base none 0 0 [] := ⟨[], World.ownsRow_nil _ _ _ _, rfl, fun i h => absurd h (Nat.not_lt_zero i)⟩
theorem LOwn.on {w w' : World} {base : Nat} {o : Option Addr} {k c : Nat} {ls : List (List Cel)} (h : LOwn w base o k c ls) (b : Bel w w') : LOwn w' base o k c ls :=
  let ⟨vs, h1, h2, h3⟩ := h
  ⟨vs, own_on h1 b, h2, fun i a a' => let ⟨p, m, d, e, g, q, r⟩ := h3 i a a'; ⟨p, m, d, e, g.on b, q, r⟩⟩
theorem LOwn.arg {w : World} {base : Nat} {o : Option Addr} {k c : Nat} {ls : List (List Cel)} (h : LOwn w base o k c ls) : LArg w o k ls ∧ k ≤ c := by
  obtain ⟨vs, h1, h2, h3⟩ := h
  have hl : vs.length = k := by have := h1.1; omega
  refine ⟨⟨by omega, fun i hi => ?_⟩, own1_le h1⟩
  rcases h1.2 with ⟨hv, hk⟩ | ⟨g, cap, cur, hv, _, _, _⟩
  · omega
  · simp only [Value.slice.injEq] at hv
    obtain ⟨rfl, -, rfl⟩ := hv
    have hi' : i < vs.length := by omega
    obtain ⟨p, m, d, e, g1, q, _⟩ := h3 i hi hi'
    exact ⟨_, p, m, d, rfl, h1.cells rfl i _ (by rw [List.getElem?_eq_getElem hi', e]), g1, q⟩
theorem LOwn.lt {w : World} {base : Nat} {o : Option Addr} {k c : Nat} {ls : List (List Cel)} (h : LOwn w base o k c ls) : ∀ b, Value.ownBlock (.slice o k c) = some b → b < w.heap.size := fun b e =>
  let ⟨_, h1, _, _⟩ := h
  (h1.lt b e).2
theorem info_sl : (Tryd.prog.info? 22).map (fun i => (i.zero, i.size, i.bytes)) = some (some (.slice none 0 0), 1, 24) := by kernel_rfl
/-- A slice of cells behind what is owned, at a region's operation. -/
theorem list_appL {Y : World} {m c : Nat} {p : Option Addr} {ls : List (List Cel)} {x : List Cel} {b : Nat} {q : Option Addr} {qm qc : Nat} {w : World} {ops : Array Oper} {rest : List Oper} {o : Oper} {a : Act} {Q : Exit → Act → World → Prop} (s y : Operand)
    (ho : o.op = .call { callee := .builtin .append, args := #[s, y], argTypes := #[41, 41] }) (hgd : o.guard = none) (hs : a.eval s = .slice p m c) (hx : a.eval y = .slice (some ⟨b, 0, none⟩) 1 1)
    (hb : Bel w Y) (hown : LOwn Y w.heap.size p m c ls) (h2 : ∀ j u, [Value.slice q qm qc][j]? = some u → Y.cell? ((⟨b, 0, none⟩ : Addr).add j) = some u) (hq : CArg Y q qm x) (hqc : qm ≤ qc) (hqa : 0 < qm → Apart q (Value.ownBlock (.slice p m c))) (hm : m + 1 ≤ 1099511627776)
    (h : ∀ o3 c3 w', Hid (Bel w w') → Hid (LOwn w' w.heap.size o3 (m + 1) c3 (ls ++ [x])) → wpList Tryd.prog ops Q rest (a.put o.dst (.slice o3 (m + 1) c3)) w') : wpList Tryd.prog ops Q (o :: rest) a Y := by
  obtain ⟨i0, hi, hz0, hz1, hz2⟩ := info_parts info_sl
  obtain ⟨vs, h1, h2', h3⟩ := hown
  refine wpList_append_own_at _ hgd s y 41 ho w.heap.size 22 i0 _ 1 24 Tryd.underlying41 hi hz0 hz1 hz2 rfl (by decide) _ m _ hs h1 ⟨b, 0, none⟩ 1 1 [.slice q qm qc] hx rfl h2 (fun u hu => by simp at hu; subst hu; rfl) (by unfold maxLen; omega) (by omega) hb.size ?_
  intro v' w' ho' hg _ hat
  obtain ⟨o3, c3, rfl⟩ := own_shape ho'
  have far : ∀ (p' : Option Addr) (m' : Nat) (l : List Cel), CArg Y p' m' l → (0 < m' → Apart p' (Value.ownBlock (.slice p m c))) → CArg w' p' m' l ∧ (0 < m' → Apart p' (Value.ownBlock (.slice o3 (m + 1) c3))) := fun p' m' l hC hA => by
    rcases Nat.eq_zero_or_pos m' with h0 | h0
    · exact ⟨⟨hC.1, hC.2.1, fun k => absurd k (by omega)⟩, fun k => absurd k (by omega)⟩
    · refine ⟨hC.grown hg (hA h0), fun _ ad e => ?_⟩
      rcases hat with hat | hat
      · rw [hat]
        exact hA h0 ad e
      · rw [hat]
        subst e
        intro he
        have := hC.lt h0
        have := Option.some.inj he
        omega
  refine h o3 c3 w' (Lib.hid (own_bel h1 hb hg)) (Lib.hid ⟨_, ho', by simp [h2'], fun i a a' => ?_⟩)
  rcases Nat.lt_or_ge i ls.length with hl | hl
  · obtain ⟨p', m', d', e, g', q', r'⟩ := h3 i hl (by omega)
    obtain ⟨f1, f2⟩ := far p' m' _ g' r'
    exact ⟨p', m', d', by rw [List.getElem_append_left (by omega)]; exact e, by rw [List.getElem_append_left hl]; exact f1, q', f2⟩
  · have hi0 : i = ls.length := by simp at a; omega
    subst hi0
    obtain ⟨f1, f2⟩ := far q qm x hq hqa
    exact ⟨q, qm, qc, by simp [← h2'], by simpa using f1, hqc, f2⟩
end Val
end Go.Proofs.YtegfcmnbljdcpaaDoor

/-
  Layer 6, the reference: Items.
-/
namespace Go.Proofs.YtegfcmnbljdcpaaDoor
open Go.RowKit Go.ChangeShapes Go.WideShapes
namespace Val

def valsL : L → List (List Cel)
  | .nil => []
  | .cons v r => flat v :: valsL r
def valsM : M → List (List Cel)
  | .nil => []
  | .cons _ v r => flat v :: valsM r
theorem valsL_len : ∀ x, (valsL x).length = lenL x
  | .nil => rfl
  | .cons _ r => by rw [valsL, lenL, List.length_cons, valsL_len r]
theorem valsM_len : ∀ x, (valsM x).length = lenM x
  | .nil => rfl
  | .cons _ _ r => by rw [valsM, lenM, List.length_cons, valsM_len r]
def itmV : V → List (List Cel)
  | .list x => valsL x
  | .map x => valsM x
  | _ => []
def itmB (l : List Cel) : List (List Cel) := match par l with
  | some t => if chkT l t = 0 then itmV t else []
  | none => []
def itmE (l : List Cel) : Int := if chk l = 0 then (match par l with
  | some (.map _) => 0
  | some (.list _) => 0
  | _ => 7) else chk l
/-- Slices of cells and an error, as a function returns them. -/
def LRes (w : World) (e : Ending) (l : List (List Cel)) (E : Int) : Prop := ∃ o n c, e = .returned (.tuple #[.slice o n c, .int .i64 E]) ∧ LArg w o n l ∧ n ≤ c
theorem LRes.nil (w : World) (E : Int) : LRes w (.returned (.tuple #[.slice none 0 0, .int .i64 E])) [] E := ⟨none, 0, 0, rfl, LArg.nil w none, Nat.le_refl _⟩
theorem new_apart {w : World} {o o2 : Option Addr} {k c d c2 base : Nat} {ls : List (List Cel)} (h : LOwn w base o k c ls) (h2 : ∀ i, (Value.slice o2 d c2).ownBlock = some i → w.heap.size ≤ i) : Apart o2 (Value.ownBlock (.slice o k c)) := fun a e he => by
  subst e
  have h3 := h2 a.block rfl
  have h4 := h.lt a.block he.symm
  omega
/-- What Get answers. -/
def getM (key : ByteArray) : List ByteArray → List (List Cel) → Option (List Cel)
  | k :: ks, v :: vs => if k = key then some v else getM key ks vs
  | _, _ => none
def getB (l : List Cel) (key : ByteArray) : List Cel := (getM key (keyB l) (itmB l)).getD []
def getE (l : List Cel) (key : ByteArray) : Int := if keyE l = 0 then (match getM key (keyB l) (itmB l) with
  | some _ => 0
  | none => 5) else keyE l
theorem getM_drop {key : ByteArray} {ks : List ByteArray} {vs : List (List Cel)} {k : Nat} (h1 : k < ks.length) (h2 : k < vs.length) : getM key (ks.drop k) (vs.drop k) = if ks[k] = key then some vs[k] else getM key (ks.drop (k + 1)) (vs.drop (k + 1)) := by
  rw [List.drop_eq_getElem_cons h1, List.drop_eq_getElem_cons h2, getM]
theorem key_itm {l : List Cel} (h : keyE l = 0) : (keyB l).length = (itmB l).length ∧ itmE l = 0 := by
  unfold keyE at h
  split at h
  · next hx =>
    obtain ⟨t, hp, hz⟩ := chk_ok hx
    rw [hp] at h
    cases t with
    | map x =>
      refine ⟨?_, by unfold itmE; rw [if_pos hx, hp]⟩
      unfold keyB itmB
      rw [hp]
      show (if chkT l (.map x) = 0 then keysM x else []).length = (if chkT l (.map x) = 0 then itmV (.map x) else []).length
      rw [if_pos hz, if_pos hz, keysM_len]
      exact (valsM_len x).symm
    | _ => cases h
  · next hx => exact absurd h hx
theorem keyE_no {l : List Cel} (h : keyE l ≠ 0) : keyB l = [] := by
  unfold keyE at h
  unfold keyB
  split
  · next x hp =>
    split at h
    · rw [hp] at h
      exact absurd rfl h
    · next hx =>
      unfold chk at hx
      rw [hp] at hx
      exact if_neg hx
  · rfl
end Val
end Go.Proofs.YtegfcmnbljdcpaaDoor

/-
  Layer 6, the reference: Get.
-/
namespace Go.Proofs.YtegfcmnbljdcpaaDoor
open Go.RowKit Go.ChangeShapes Go.WideShapes
namespace Val

end Val
end Go.Proofs.YtegfcmnbljdcpaaDoor

/-
  Layer 6, the reference: Path.
-/
namespace Go.Proofs.YtegfcmnbljdcpaaDoor
open Go.RowKit Go.ChangeShapes Go.WideShapes
namespace Val

theorem valsL_le : ∀ (x : L) (y : List Cel), y ∈ valsL x → y.length ≤ (flatL x).length
  | .nil, y, h => by cases h
  | .cons v r, y, h => by
    rw [valsL] at h
    rw [flatL, List.length_append]
    rcases List.mem_cons.1 h with rfl | h
    · omega
    · have := valsL_le r y h
      omega
theorem valsM_le : ∀ (x : M) (y : List Cel), y ∈ valsM x → y.length ≤ (flatM x).length
  | .nil, y, h => by cases h
  | .cons k v r, y, h => by
    rw [valsM] at h
    rw [flatM, List.length_cons, List.length_append]
    rcases List.mem_cons.1 h with rfl | h
    · omega
    · have := valsM_le r y h
      omega
theorem itm_le {l y : List Cel} (h : y ∈ itmB l) : y.length ≤ l.length := by
  unfold itmB at h
  split at h
  · next t hp =>
    obtain ⟨_, hlf⟩ := par_some.1 hp
    split at h
    · rw [hlf]
      cases t with
      | list x =>
        have := valsL_le x y h
        simp only [flat, List.length_cons]
        omega
      | map x =>
        have := valsM_le x y h
        simp only [flat, List.length_cons]
        omega
      | _ => cases h
    · cases h
  · cases h
theorem getM_mem {key : ByteArray} : ∀ {ks : List ByteArray} {vs : List (List Cel)} {y : List Cel}, getM key ks vs = some y → y ∈ vs
  | [], vs, y, h => by cases vs <;> cases h
  | k :: ks, [], y, h => by cases h
  | k :: ks, v :: vs, y, h => by
    rw [getM] at h
    split at h
    · cases h
      exact List.mem_cons_self ..
    · exact List.mem_cons_of_mem _ (getM_mem h)
theorem get_le (l : List Cel) (key : ByteArray) : (getB l key).length ≤ l.length := by
  unfold getB
  cases h : getM key (keyB l) (itmB l) with
  | none => exact Nat.zero_le _
  | some y => exact itm_le (getM_mem h)
/-- What Path answers behind its check. -/
def pathR : List Cel → List ByteArray → List Cel × Int
  | l, [] => (l, 0)
  | l, p :: ps => if getE l p = 0 then pathR (getB l p) ps else ([], getE l p)
def pathB (l : List Cel) (ps : List ByteArray) : List Cel := if chk l = 0 then (pathR l ps).1 else []
def pathE (l : List Cel) (ps : List ByteArray) : Int := if chk l = 0 then (pathR l ps).2 else chk l
end Val
end Go.Proofs.YtegfcmnbljdcpaaDoor

/-
  Layer 6: two rows built side by side (names and values).
-/
namespace Go.Proofs.YtegfcmnbljdcpaaDoor
open Go.RowKit Go.ChangeShapes Go.WideShapes
namespace Val

/-- Names and values, each in a row of its own, behind the world V. -/
def Rows (V w : World) (aN : Option Addr) (mN cN : Nat) (ps : List ByteArray) (aV : Option Addr) (mV cV : Nat) (qs : List Value) : Prop :=
  w.ownsRow V.heap.size 9 1 (.slice aN mN cN) mN (encS ps) ∧ w.ownsRow V.heap.size 22 1 (.slice aV mV cV) mV qs ∧
  (∀ b, (Value.slice aN mN cN).ownBlock = some b → (Value.slice aV mV cV).ownBlock ≠ some b) ∧ Bel V w
theorem Rows.nil (V w : World) (h : Bel V w) : Rows V w none 0 0 [] none 0 0 [] := ⟨World.ownsRow_nil _ _ _ _, World.ownsRow_nil _ _ _ _, (fun b e => by cases e), h⟩
theorem Rows.on {V w w' : World} {aN aV : Option Addr} {mN cN mV cV : Nat} {ps : List ByteArray} {qs : List Value} (h : Rows V w aN mN cN ps aV mV cV qs) (b : Bel w w') : Rows V w' aN mN cN ps aV mV cV qs :=
  ⟨own_on h.1 b, own_on h.2.1 b, h.2.2.1, Bel.trans h.2.2.2 b⟩
/-- A string behind the names. -/
theorem list_appN {V Y : World} {mN cN mV cV : Nat} {aN aV : Option Addr} {ps : List ByteArray} {qs : List Value} {x : ByteArray} {b : Nat} {ops : Array Oper} {rest : List Oper} {o : Oper} {a : Act} {Q : Exit → Act → World → Prop} (s y : Operand)
    (ho : o.op = .call { callee := .builtin .append, args := #[s, y], argTypes := #[43, 43] }) (hgd : o.guard = none) (hs : a.eval s = .slice aN mN cN) (hx : a.eval y = .slice (some ⟨b, 0, none⟩) 1 1)
    (hR : Rows V Y aN mN cN ps aV mV cV qs) (h2 : ∀ j u, [Value.string x][j]? = some u → Y.cell? ((⟨b, 0, none⟩ : Addr).add j) = some u) (hm : mN + 1 ≤ 1099511627776)
    (h : ∀ o3 c3 w', Hid (Rows V w' o3 (mN + 1) c3 (ps ++ [x]) aV mV cV qs) → wpList Tryd.prog ops Q rest (a.put o.dst (.slice o3 (mN + 1) c3)) w') : wpList Tryd.prog ops Q (o :: rest) a Y := by
  obtain ⟨i0, hi, hz0, hz1, hz2⟩ := info_parts info_str
  obtain ⟨h1, hV, hd, hb⟩ := hR
  refine wpList_append_own_at _ hgd s y 43 ho V.heap.size 9 i0 _ 1 16 Tryd.underlying43 hi hz0 hz1 hz2 rfl (by decide) _ mN _ hs h1 ⟨b, 0, none⟩ 1 1 [.string x] hx rfl h2 (fun u hu => by simp at hu; subst hu; rfl) (by unfold maxLen; omega) (by omega) hb.size ?_
  intro v' w' ho' hg _ hat
  obtain ⟨o3, c3, rfl⟩ := own_shape ho'
  have hne : (Value.slice aV mV cV).ownBlock = none ∨ (Value.slice aV mV cV).ownBlock ≠ (Value.slice aN mN cN).ownBlock := by
    cases hv : (Value.slice aN mN cN).ownBlock with
    | none =>
      cases hw : (Value.slice aV mV cV).ownBlock with
      | none => exact .inl rfl
      | some q => exact .inr (by simp)
    | some q => exact .inr (hd q hv)
  refine h o3 c3 w' (Lib.hid ⟨by rw [show encS (ps ++ [x]) = encS ps ++ [.string x] by simp [encS]]; exact ho', hV.kept hg hne, fun q e => ?_, own_bel h1 hb hg⟩)
  rcases hat with hat | hat
  · rw [hat] at e
    exact hd q e
  · rw [hat] at e
    cases e
    intro hv
    have := (hV.lt _ hv).2
    omega
/-- A value behind the values. -/
theorem list_appV {V Y : World} {mN cN mV cV : Nat} {aN aV : Option Addr} {ps : List ByteArray} {qs : List Value} {p : Option Addr} {m c : Nat} {b : Nat} {ops : Array Oper} {rest : List Oper} {o : Oper} {a : Act} {Q : Exit → Act → World → Prop} (s y : Operand)
    (ho : o.op = .call { callee := .builtin .append, args := #[s, y], argTypes := #[41, 41] }) (hgd : o.guard = none) (hs : a.eval s = .slice aV mV cV) (hx : a.eval y = .slice (some ⟨b, 0, none⟩) 1 1)
    (hR : Rows V Y aN mN cN ps aV mV cV qs) (h2 : ∀ j u, [Value.slice p m c][j]? = some u → Y.cell? ((⟨b, 0, none⟩ : Addr).add j) = some u) (hm : mV + 1 ≤ 1099511627776)
    (h : ∀ o3 c3 w', Hid (Rows V w' aN mN cN ps o3 (mV + 1) c3 (qs ++ [.slice p m c])) → wpList Tryd.prog ops Q rest (a.put o.dst (.slice o3 (mV + 1) c3)) w') : wpList Tryd.prog ops Q (o :: rest) a Y := by
  obtain ⟨i0, hi, hz0, hz1, hz2⟩ := info_parts info_sl
  obtain ⟨h1, hV, hd, hb⟩ := hR
  refine wpList_append_own_at _ hgd s y 41 ho V.heap.size 22 i0 _ 1 24 Tryd.underlying41 hi hz0 hz1 hz2 rfl (by decide) _ mV _ hs hV ⟨b, 0, none⟩ 1 1 [.slice p m c] hx rfl h2 (fun u hu => by simp at hu; subst hu; rfl) (by unfold maxLen; omega) (by omega) hb.size ?_
  intro v' w' ho' hg _ hat
  obtain ⟨o3, c3, rfl⟩ := own_shape ho'
  have hne : (Value.slice aN mN cN).ownBlock = none ∨ (Value.slice aN mN cN).ownBlock ≠ (Value.slice aV mV cV).ownBlock := by
    cases hv : (Value.slice aN mN cN).ownBlock with
    | none => exact .inl rfl
    | some q => exact .inr (fun e => hd q hv e.symm)
  refine h o3 c3 w' (Lib.hid ⟨h1.kept hg hne, ho', fun q e => ?_, own_bel hV hb hg⟩)
  rcases hat with hat | hat
  · rw [hat]
    exact hd q e
  · rw [hat]
    intro hv
    have := (h1.lt _ e).2
    have := Option.some.inj hv
    omega
/-- The values that a row names. -/
def Itms (V : World) (qs : List Value) (ls : List (List Cel)) : Prop := qs.length = ls.length ∧ ∀ i (h : i < ls.length) (h' : i < qs.length), ∃ p m d, qs[i] = .slice p m d ∧ CArg V p m ls[i] ∧ m ≤ d
theorem Itms.nil (V : World) : Itms V [] [] := ⟨rfl, fun i h => absurd h (Nat.not_lt_zero i)⟩
theorem Itms.add {V : World} {qs : List Value} {ls : List (List Cel)} (h : Itms V qs ls) {p : Option Addr} {m d : Nat} {x : List Cel} (hx : CArg V p m x) (hm : m ≤ d) : Itms V (qs ++ [.slice p m d]) (ls ++ [x]) := by
  refine ⟨by simp [h.1], fun i a a' => ?_⟩
  have h1 := h.1
  rcases Nat.lt_or_ge i ls.length with hl | hl
  · obtain ⟨p', m', d', e, g', q'⟩ := h.2 i hl (by omega)
    exact ⟨p', m', d', by rw [List.getElem_append_left (by omega)]; exact e, by rw [List.getElem_append_left hl]; exact g', q'⟩
  · have hi0 : i = ls.length := by simp at a; omega
    subst hi0
    exact ⟨p, m, d, by simp [← h1], by simpa using hx, hm⟩
theorem Rows.args {V w : World} {aN aV : Option Addr} {mN cN mV cV : Nat} {ps : List ByteArray} {qs : List Value} {ls : List (List Cel)} (h : Rows V w aN mN cN ps aV mV cV qs) (hi : Itms V qs ls) : SlArg w aN mN ps ∧ LArg w aV mV ls := by
  obtain ⟨h1, hV, _, hb⟩ := h
  refine ⟨own_sarg h1, ?_⟩
  have hl : qs.length = mV := by have := hV.1; omega
  have h2 := hi.1
  refine ⟨by omega, fun i hi' => ?_⟩
  rcases hV.2 with ⟨hv, hk⟩ | ⟨g, cap, cur, hv, _, _, _⟩
  · omega
  · simp only [Value.slice.injEq] at hv
    obtain ⟨rfl, -, rfl⟩ := hv
    have hq : i < qs.length := by omega
    obtain ⟨p, m, d, e, g1, q⟩ := hi.2 i hi' hq
    exact ⟨_, p, m, d, rfl, hV.cells rfl i _ (by rw [List.getElem?_eq_getElem hq, e]), g1.on hb, q⟩
end Val
end Go.Proofs.YtegfcmnbljdcpaaDoor

/-
  Layer 6, the reference: Put.
-/
namespace Go.Proofs.YtegfcmnbljdcpaaDoor
open Go.RowKit Go.ChangeShapes Go.WideShapes
namespace Val

/-- What Put's loop builds of what is left. -/
def putL (key : ByteArray) (x : List Cel) : Bool → List ByteArray → List (List Cel) → List (ByteArray × List Cel)
  | d, k :: ks, v :: vs =>
    if d = false ∧ ¬ k.toList < key.toList then (key, x) :: (if k = key then putL key x true ks vs else (k, v) :: putL key x true ks vs)
    else if k = key then putL key x d ks vs else (k, v) :: putL key x d ks vs
  | d, _, _ => if d then [] else [(key, x)]
def putN (l : List Cel) (key : ByteArray) (x : List Cel) : List ByteArray := (putL key x false (keyB l) (itmB l)).map Prod.fst
def putV (l : List Cel) (key : ByteArray) (x : List Cel) : List (List Cel) := (putL key x false (keyB l) (itmB l)).map Prod.snd
def putB (l : List Cel) (key : ByteArray) (x : List Cel) : List Cel := if keyE l = 0 then (if chk x = 0 then mapB (putN l key x) (putV l key x) else []) else []
def putE (l : List Cel) (key : ByteArray) (x : List Cel) : Int := if keyE l = 0 then (if chk x = 0 then mapE (putN l key x) (putV l key x) else chk x) else keyE l
theorem putL_nil (key : ByteArray) (x : List Cel) (d : Bool) (vs : List (List Cel)) : putL key x d [] vs = if d then [] else [(key, x)] := by cases vs <;> rfl
theorem put_len (key : ByteArray) (x : List Cel) : ∀ (ks : List ByteArray) (vs : List (List Cel)) (d : Bool), ((putL key x d ks vs).flatMap pairC).length ≤ (prsC ks vs).length + (if d then 0 else 1 + x.length)
  | [], vs, d => by
    rw [putL_nil]
    cases d <;> simp [pairC]
    omega
  | k :: ks, [], d => by
    rw [putL]
    · cases d <;> simp [pairC]
      omega
    · intros; simp_all
  | k :: ks, v :: vs, d => by
    have h1 := put_len key x ks vs true
    have h2 := put_len key x ks vs d
    have e : prsC (k :: ks) (v :: vs) = pairC (k, v) ++ prsC ks vs := rfl
    rw [putL, e, List.length_append]
    have e1 : (pairC (k, v)).length = v.length + 1 := rfl
    have e2 : (pairC (key, x)).length = x.length + 1 := rfl
    simp only [if_true] at h1
    split
    · next hd =>
      obtain ⟨rfl, _⟩ := hd
      simp only [Bool.false_eq_true, if_false]
      split
      · rw [List.flatMap_cons, List.length_append]
        omega
      · rw [List.flatMap_cons, List.length_append, List.flatMap_cons, List.length_append]
        omega
    · split
      · omega
      · rw [List.flatMap_cons, List.length_append]
        omega
theorem put_mem (key : ByteArray) (x : List Cel) : ∀ (ks : List ByteArray) (vs : List (List Cel)) (d : Bool) (p : ByteArray × List Cel), p ∈ putL key x d ks vs → (p.1 = key ∨ p.1 ∈ ks)
  | [], vs, d, p, h => by
    rw [putL_nil] at h
    cases d
    · simp at h; exact .inl (by rw [h])
    · simp at h
  | k :: ks, [], d, p, h => by
    rw [putL] at h
    · cases d
      · simp at h; exact .inl (by rw [h])
      · simp at h
    · intros; simp_all
  | k :: ks, v :: vs, d, p, h => by
    have r : ∀ d', p ∈ putL key x d' ks vs → (p.1 = key ∨ p.1 ∈ k :: ks) := fun d' h => (put_mem key x ks vs d' p h).imp id (List.mem_cons_of_mem _)
    rw [putL] at h
    split at h
    · rcases List.mem_cons.1 h with rfl | h
      · exact .inl rfl
      · split at h
        · exact r _ h
        · rcases List.mem_cons.1 h with rfl | h
          · exact .inr (List.mem_cons_self ..)
          · exact r _ h
    · split at h
      · exact r _ h
      · rcases List.mem_cons.1 h with rfl | h
        · exact .inr (List.mem_cons_self ..)
        · exact r _ h
theorem prs_flat : ∀ x : M, prsC (keysM x) (valsM x) = flatM x
  | .nil => rfl
  | .cons k v r => by
    have e : prsC (keysM (.cons k v r)) (valsM (.cons k v r)) = pairC (⟨k.toArray⟩, flat v) ++ prsC (keysM r) (valsM r) := rfl
    rw [e, prs_flat r, flatM, pairC, tl k]
    rfl
theorem key_map {l : List Cel} (h : keyE l = 0) : ∃ x, par l = some (.map x) ∧ chkT l (.map x) = 0 ∧ keyB l = keysM x ∧ itmB l = valsM x := by
  unfold keyE at h
  split at h
  · next hx =>
    obtain ⟨t, hp, hz⟩ := chk_ok hx
    rw [hp] at h
    cases t with
    | map x =>
      refine ⟨x, hp, hz, ?_, ?_⟩
      · unfold keyB; rw [hp]; exact if_pos hz
      · unfold itmB; rw [hp]; exact if_pos hz
    | _ => cases h
  · next hx => exact absurd h hx
theorem keysM_cell : ∀ (x : M) (k : ByteArray), k ∈ keysM x → ⟨4, 0, k.toList, 0⟩ ∈ flatM x
  | .nil, k, h => by cases h
  | .cons ky v r, k, h => by
    rw [keysM] at h
    rw [flatM]
    rcases List.mem_cons.1 h with rfl | h
    · rw [tl ky]; exact List.mem_cons_self ..
    · exact List.mem_cons_of_mem _ (List.mem_append_right _ (keysM_cell r k h))
theorem put_bounds {l x : List Cel} {key : ByteArray} (h : keyE l = 0) (hx : chk x = 0) (hkey : key.size ≤ 140737488355328) (hf : ∀ c ∈ l, Fits c) :
    (keyB l).length ≤ 200 ∧ (keyB l).length = (itmB l).length ∧ (prsC (putN l key x) (putV l key x)).length ≤ 1000 ∧ (∀ y ∈ putN l key x, y.size ≤ 140737488355328) ∧ (putN l key x).length ≤ 1000 := by
  obtain ⟨m, hp, hz, h1, h2⟩ := key_map h
  obtain ⟨_, hlf⟩ := par_some.1 hp
  have hl := chk_len hz
  obtain ⟨t, hpx, hzx⟩ := chk_ok hx
  have hlx := chk_len hzx
  have hll := congrArg List.length hlf
  simp only [flat, List.length_cons] at hll
  have e : prsC (putN l key x) (putV l key x) = (putL key x false (keyB l) (itmB l)).flatMap pairC := by
    unfold prsC putN putV
    rw [← List.zip_of_prod rfl rfl]
  have hb := put_len key x (keyB l) (itmB l) false
  rw [← e, h1, h2, prs_flat] at hb
  simp only [Bool.false_eq_true, if_false] at hb
  have hp2 : (prsC (putN l key x) (putV l key x)).length ≤ 1000 := by omega
  refine ⟨?_, (key_itm h).1, hp2, fun y hy => ?_, ?_⟩
  · rw [h1, keysM_len]
    have := lenM_le m
    omega
  · obtain ⟨p, hpm, rfl⟩ := List.mem_map.1 hy
    rcases put_mem key x _ _ _ p hpm with h3 | h3
    · rw [h3]; exact hkey
    · rw [h1] at h3
      have h4 := keysM_cell m _ h3
      have h5 := hf _ (by rw [hlf, flat]; exact List.mem_cons_of_mem _ h4)
      have h6 := h5.2.2.2
      rw [← toL_len]
      exact h6
  · have hq : ∀ q : List (ByteArray × List Cel), q.length ≤ (q.flatMap pairC).length := by
      intro q
      induction q with
      | nil => exact Nat.zero_le _
      | cons a r ih =>
        rw [List.flatMap_cons, List.length_append, List.length_cons]
        have : (pairC a).length = a.2.length + 1 := rfl
        omega
    have := hq (putL key x false (keyB l) (itmB l))
    unfold putN
    rw [List.length_map]
    rw [e] at hp2
    omega
end Val
end Go.Proofs.YtegfcmnbljdcpaaDoor

/-
  Layer 6, the reference: Put's walk.
-/
namespace Go.Proofs.YtegfcmnbljdcpaaDoor
open Go.RowKit Go.ChangeShapes Go.WideShapes
namespace Val

theorem putL_drop (key : ByteArray) (x : List Cel) (d : Bool) {ks : List ByteArray} {vs : List (List Cel)} {k : Nat} (h1 : k < ks.length) (h2 : k < vs.length) : putL key x d (ks.drop k) (vs.drop k) =
    if d = false ∧ ¬ ks[k].toList < key.toList then (key, x) :: (if ks[k] = key then putL key x true (ks.drop (k + 1)) (vs.drop (k + 1)) else (ks[k], vs[k]) :: putL key x true (ks.drop (k + 1)) (vs.drop (k + 1)))
    else if ks[k] = key then putL key x d (ks.drop (k + 1)) (vs.drop (k + 1)) else (ks[k], vs[k]) :: putL key x d (ks.drop (k + 1)) (vs.drop (k + 1)) := by
  rw [List.drop_eq_getElem_cons h1, List.drop_eq_getElem_cons h2, putL]
/-- The three ways in which two strings stand to each other, as a walk asks. -/
theorem str_ways (y k : ByteArray) : (y.toList < k.toList ∧ Op.bytesLess y.toList k.toList = true ∧ Op.bytesLess k.toList y.toList = false ∧ (y.toList == k.toList) = false ∧ (k.toList == y.toList) = false) ∨ (y = k) ∨
    (k.toList < y.toList ∧ Op.bytesLess y.toList k.toList = false ∧ Op.bytesLess k.toList y.toList = true ∧ (y.toList == k.toList) = false ∧ (k.toList == y.toList) = false) := by
  rcases words_cases y.toList k.toList with ⟨h, _⟩ | ⟨h, _⟩ | ⟨h, _⟩
  · refine .inl ⟨h, ?_, (leq_no h).1, ?_, (leq_no h).2⟩
    · rw [bytesLess_eq]; exact decide_eq_true h
    · rw [Bool.beq_comm]; exact (leq_no h).2
  · exact .inr (.inl (by rw [← str_back y, h, str_back k]))
  · refine .inr (.inr ⟨h, (leq_no h).1, ?_, (leq_no h).2, ?_⟩)
    · rw [bytesLess_eq]; exact decide_eq_true h
    · rw [Bool.beq_comm]; exact (leq_no h).2
theorem less_self (y : List UInt8) : Op.bytesLess y y = false := by
  rw [bytesLess_eq]
  exact decide_eq_false (List.lt_irrefl _)
end Val
end Go.Proofs.YtegfcmnbljdcpaaDoor

/-
  Layer 6, the reference: Same.
-/
namespace Go.Proofs.YtegfcmnbljdcpaaDoor
open Go.RowKit Go.ChangeShapes Go.WideShapes
namespace Val

deriving instance DecidableEq for Cel
/-- What == says of two cells. -/
theorem eq_cell (a b c d : Int) (x y : ByteArray) (e f : Int) (w : World) : (Op.equalIn 10000 37 (.agg #[.int .i64 a, .int .i64 c, .string x, .int .i64 e]) (.agg #[.int .i64 b, .int .i64 d, .string y, .int .i64 f])).run Tryd.prog w = .ok (a == b && (c == d && (x.toList == y.toList && e == f))) w := by
  have hS : Tryd.prog.underlying 37 = some (.struct (Tryd.prog.fieldsOf 37)) := by kernel_rfl
  rw [show (10000 : Nat) = 9999 + 1 from rfl, run_equalIn_agg w 9999 37 _ _ hS (by kernel_rfl)]
  simp only [Program.fieldsOf, Tryd.underlying37]
  have u3 := Tryd.underlying3
  have u9 := Tryd.underlying9
  have uK := Tryd.underlying35
  go_simp
  by_cases h1 : a = b <;> by_cases h2 : c = d <;> by_cases h3 : x.toList = y.toList <;> by_cases h4 : e = f <;> simp [h1, h2, h3, h4]
@[go_sem] theorem guard_cell : Tryd.prog.eqGuardType Tryd.prog.depth 37 = false := by kernel_rfl
/-- Whether two lists of cells are the same. -/
def sameB (a b : List Cel) : Bool := decide (a = b)
theorem same_drop {a b : List Cel} {k : Nat} (h1 : k < a.length) (h2 : k < b.length) : sameB (a.drop k) (b.drop k) = (decide (a[k] = b[k]) && sameB (a.drop (k + 1)) (b.drop (k + 1))) := by
  unfold sameB
  rw [List.drop_eq_getElem_cons h1, List.drop_eq_getElem_cons h2]
  generalize a[k] = x
  generalize b[k] = y
  generalize a.drop (k + 1) = p
  generalize b.drop (k + 1) = q
  by_cases h : x = y
  · simp [h]
  · simp [h]
end Val
end Go.Proofs.YtegfcmnbljdcpaaDoor
