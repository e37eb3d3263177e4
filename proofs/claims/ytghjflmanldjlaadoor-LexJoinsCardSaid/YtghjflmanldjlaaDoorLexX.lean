/-
  Layer 7: Join, in the code and in the reference.
-/
import Derived.Test.YtghjflmanldjlaaDoorLexW
import Derived.Deep.OwnRows
import Derived.Lib.Join
namespace Go.Proofs.YtghjflmanldjlaaDoor
open Go.RowKit Go.ChangeShapes Go.WideShapes
namespace Lex

theorem join_lib : ∀ L : List Tk, Lib.join (L.map wrt) [32] = joinL L
  | [] => rfl
  | [t] => Lib.join_one _ _
  | t :: u :: r => by
    have ih := join_lib (u :: r)
    rw [List.map_cons, Lib.join_cons] at ih
    show Lib.join (wrt t :: wrt u :: r.map wrt) [32] = wrt t ++ 32 :: joinL (u :: r)
    rw [Lib.join_cons, ← ih]
    simp [Lib.joinTail]
theorem join_snoc : ∀ (L : List Tk) (t : Tk), joinL (L ++ [t]) = if L = [] then wrt t else joinL L ++ 32 :: wrt t
  | [], t => rfl
  | [u], t => by simp [joinL]
  | u :: v :: r, t => by
    have ih := join_snoc (v :: r) t
    rw [if_neg (by simp)] at ih ⊢
    show wrt u ++ 32 :: joinL (v :: r ++ [t]) = (wrt u ++ 32 :: joinL (v :: r)) ++ 32 :: wrt t
    rw [ih]
    simp
theorem join_len : ∀ L : List Tk, L.all okT = true → (joinL L).length ≤ 403 * L.length
  | [], _ => Nat.le_refl _
  | [t], h => by
    simp only [List.all_cons, List.all_nil, Bool.and_true] at h
    have := (ok_len h).2
    show (wrt t).length ≤ 403 * 1
    omega
  | t :: u :: r, h => by
    rw [List.all_cons, Bool.and_eq_true] at h
    have ih := join_len (u :: r) h.2
    have := (ok_len h.1).2
    show (wrt t ++ 32 :: joinL (u :: r)).length ≤ _
    rw [List.length_append, List.length_cons]
    simp only [List.length_cons] at ih ⊢
    omega
theorem all_step (L : List Tk) (k : Nat) (h : k < L.length) : (L.drop k).all okT = (okT L[k] && (L.drop (k + 1)).all okT) := by
  rw [List.drop_eq_getElem_cons h, List.all_cons]
/-- The texts that are filled in: of cnt places the first hold D. -/
def fil (D : List ByteArray) (i : Nat) : Value := .string (D.getD i ByteArray.empty)
theorem fil_step {w : World} {B cnt k : Nat} {D : List ByteArray} {x : ByteArray} (h : w.rowIs B 9 cnt (fil D)) (hD : D.length = k) : (w.setCell ⟨B, k, none⟩ (.string x)).rowIs B 9 cnt (fil (D ++ [x])) :=
  (h.set k (.string x)).congr fun i _ => by
    subst hD
    simp only [fil, List.getD]
    by_cases e : i = D.length
    · subst e; simp
    · rw [if_neg e]
      rcases Nat.lt_or_ge i D.length with g | g
      · rw [List.getElem?_append_left g]
      · have e1 : (D ++ [x])[i]? = none := List.getElem?_eq_none (by rw [List.length_append, List.length_singleton]; omega)
        have e2 : D[i]? = none := List.getElem?_eq_none g
        rw [e1, e2]
theorem info_str : (Tryd.prog.info? 9).map (fun i => (i.zero, i.size, i.bytes)) = some (some (.string ByteArray.empty), 1, 16) := by kernel_rfl
theorem row_on {w w' : World} {B n : Nat} {t : TypeId} {f : Nat → Value} (h : w.rowIs B t n f) (hb : B < w.heap.size) (b : Bel w w') : w'.rowIs B t n f := h.of_block (b.block B hb)
/-- What a law asks of tokens that it goes through. -/
def Sml (L : List Tk) : Prop := ∀ t ∈ L, (-9223372036854775808 ≤ t.i ∧ t.i ≤ 9223372036854775807) ∧ t.s.length ≤ 1000
theorem joinE_full {L : List Tk} (h : 1000 < L.length) : joinE L = 3 ∧ joinT L = [] := by
  have : joinE L = 3 := by unfold joinE; rw [if_pos h]
  exact ⟨this, by unfold joinT; rw [this]; rfl⟩
theorem joinE_bad {L : List Tk} (h : ¬ 1000 < L.length) (h2 : L.all okT = false) : joinE L = 1 ∧ joinT L = [] := by
  have : joinE L = 1 := by unfold joinE; rw [if_neg h, if_pos h2]
  exact ⟨this, by unfold joinT; rw [this]; rfl⟩
theorem joinE_long {L : List Tk} (h : ¬ 1000 < L.length) (h2 : L.all okT = true) (h3 : 4000 < (joinL L).length) : joinE L = 3 ∧ joinT L = [] := by
  have : joinE L = 3 := by unfold joinE; rw [if_neg h, if_neg (by rw [h2]; decide), if_pos h3]
  exact ⟨this, by unfold joinT; rw [this]; rfl⟩
theorem joinE_ok {L : List Tk} (h : ¬ 1000 < L.length) (h2 : L.all okT = true) (h3 : ¬ 4000 < (joinL L).length) : joinE L = 0 ∧ joinT L = joinL L := by
  have : joinE L = 0 := by unfold joinE; rw [if_neg h, if_neg (by rw [h2]; decide), if_neg h3]
  exact ⟨this, by unfold joinT; rw [if_pos this]⟩
set_option maxRecDepth 100000 in
set_option maxHeartbeats 4000000 in
theorem join_any (L : List Tk) (o : Option Addr) (n c : Nat) (hn : n ≤ 1000000) (hS : Sml L) (w : World) (hm : ML w) (hA : TArg w o n L) :
    Calls Tryd.prog 16 #[.slice o n c] w fun e w' => e = .returned (.tuple #[.string ⟨(joinT L).toArray⟩, .int .i64 (joinE L)]) ∧ Bel w w' := by
  have hL := hA.1
  have HFull := Lib.hid (@joinE_full L)
  have HBad := Lib.hid (@joinE_bad L)
  have HLong := Lib.hid (@joinE_long L)
  have HOk := Lib.hid (@joinE_ok L)
  rw [hL] at HFull HBad HLong HOk
  obtain ⟨JT, hJT⟩ : ∃ JT, joinT L = JT := ⟨_, rfl⟩
  obtain ⟨JE, hJE⟩ : ∃ JE, joinE L = JE := ⟨_, rfl⟩
  rw [hJT, hJE]
  rw [hJT, hJE] at HFull HBad HLong HOk
  have K := Lib.hid hA
  have HM := Lib.hid hm
  have HSm := Lib.hid hS
  have HLn := Lib.hid hL
  clear hA hm hL hS hJT hJE
  by_cases h1 : 1000 < n
  · obtain ⟨rfl, rfl⟩ := HFull.out h1
    clear HFull HBad HLong HOk
    go_enter Tryd.func16, Tryd.ntmps16
    go_wp2
    go_ret2
    exact ⟨rfl, Bel.refl _⟩
  have hmk := fun W => run_make_row' (P := Tryd.prog) 49 9 (.string ByteArray.empty) 16 Tryd.underlying49 info_str rfl .i64 .i64 n (by omega) (by omega) W
  have hAll : Hid ((L.drop 0).all okT = L.all okT) := Lib.hid rfl
  have B0 := Lib.hid (Bel.alloc (Bel.refl w) (.cells (madeCells #[.string ByteArray.empty] n) 9))
  have R0 : Hid ((w.alloc (.cells (madeCells #[.string ByteArray.empty] n) 9)).rowIs w.heap.size 9 n (fil [])) := Lib.hid ((World.rowIs_made w (.string ByteArray.empty) n 9).congr fun i _ => rfl)
  have hz0 : Hid (w.heap.size < (w.alloc (.cells (madeCells #[.string ByteArray.empty] n) 9)).heap.size) := Lib.hid (alloc_lt _ _)
  go_enter Tryd.func16, Tryd.ntmps16
  go_wp2
  go_loopw [5, 6, 7, 8, 18] (fun _ _ _ _ i wr => ∃ (k : Nat) (D : List ByteArray), i = .int .i64 (k : Int) ∧ k ≤ n ∧ Hid (D.length = k) ∧ Hid (D.map ByteArray.toList = (L.take k).map wrt) ∧ Hid ((L.drop k).all okT = L.all okT) ∧ Hid (wr.rowIs w.heap.size 9 n (fil D)) ∧ Hid (w.heap.size < wr.heap.size) ∧ Hid (Bel w wr)) (fun _ _ _ _ i _ => n - (intOf i).toNat)
  case atStart => exact ⟨0, [], rfl, Nat.zero_le _, Lib.hid rfl, Lib.hid rfl, hAll, R0, hz0, B0⟩
  case round =>
    obtain ⟨k, D, rfl, hk, hD, hMap, hr, hRow, hsz, hB⟩ := hrel
    clear hAll R0 hz0 B0 hmk
    by_cases hq : k < n
    · obtain ⟨b, f, rfl, hcells⟩ := K.out.2 (by omega)
      have hkl : k < L.length := by rw [HLn.out]; exact hq
      obtain ⟨x1, x2, x3, x4⟩ := (hcells k hkl).on hB.out
      have hst := (all_step L k hkl).symm.trans hr.out
      have hsm := HSm.out L[k] (List.getElem_mem hkl)
      have htk : (L.take (k + 1)).map wrt = (L.take k).map wrt ++ [wrt L[k]] := by rw [List.take_succ_eq_append_getElem hkl, List.map_append]; rfl
      obtain ⟨⟨tk, ts, ti, ta⟩, ht⟩ : ∃ t, L[k] = t := ⟨_, rfl⟩
      rw [ht] at x1 x2 x3 x4 hst hsm htk
      dsimp only at x1 x2 x3 x4 hsm
      obtain ⟨S, hS⟩ : ∃ S : ByteArray, ⟨ts.toArray⟩ = S := ⟨_, rfl⟩
      have hSl : ts = S.toList := by rw [← hS]; exact (tl _).symm
      rw [hS] at x2
      rw [hSl] at hst hsm htk
      rw [toL_len] at hsm
      have B1 := Lib.hid (Bel.alloc (Bel.refl wr) (.cells #[.int .i64 tk, .string S, .int .i64 ti, .int .i64 ta] 31))
      have HT := Lib.hid (fun w hm => text_any tk ti ta S hsm.1 hsm.2 w hm)
      have M1 := Lib.hid ((HM.out.on hB.out).on B1.out)
      cases hok : okT ⟨tk, S.toList, ti, ta⟩ with
      | true =>
        rw [hok, Bool.true_and] at hst
        obtain ⟨y1, y2⟩ := txt_yes hok
        rw [y1, y2] at HT
        have hr2 := Lib.hid hst
        have hMap2 : Hid ((D ++ [(⟨(wrt ⟨tk, S.toList, ti, ta⟩).toArray⟩ : ByteArray)]).map ByteArray.toList = (L.take (k + 1)).map wrt) := Lib.hid (by rw [htk, ← hMap.out, List.map_append, List.map_singleton, show (⟨(wrt ⟨tk, S.toList, ti, ta⟩).toArray⟩ : ByteArray).toList = wrt ⟨tk, S.toList, ti, ta⟩ from tl _])
        generalize (⟨(wrt ⟨tk, S.toList, ti, ta⟩).toArray⟩ : ByteArray) = X at HT hMap2
        clear hst hcells hkl ht hSl hS hok y1 y2 hsm htk hr hMap
        go_wp2_with fail
        refine (HT.out _ M1.out).mono ?_
        rintro e w2 ⟨rfl, g2⟩
        have G1 := Lib.hid (Bel.trans B1.out g2)
        have hRow2 := Lib.hid (row_on hRow.out hsz.out G1.out)
        have G2 := Lib.hid (Bel.trans hB.out G1.out)
        have hsz2 : Hid (w.heap.size < w2.heap.size) := Lib.hid (Nat.lt_of_lt_of_le hsz.out G1.out.size)
        clear g2 HT M1 B1 hRow hB x1 x2 x3 x4
        have hcell := hRow2.out.cell (i := k) hq
        have hfree := hRow2.out.frozen k
        go_wp2_with fail
        go_roundw
        case rel => exact ⟨k + 1, D ++ [X], by go_num, by omega, Lib.hid (by rw [List.length_append, hD.out]; rfl), hMap2, hr2, Lib.hid (fil_step hRow2.out hD.out), Lib.hid (by rw [show (w2.setCell ⟨w.heap.size, k, none⟩ (.string X)).heap.size = w2.heap.size by simp [World.setCell]]; exact hsz2.out), Lib.hid (G2.out.setCell (Nat.le_refl _) _)⟩
        case measure => simp [intOf]; omega
      | false =>
        rw [hok, Bool.false_and] at hst
        have hno : ¬ okT ⟨tk, S.toList, ti, ta⟩ = true := by rw [hok]; decide
        obtain ⟨y1, y2⟩ := txt_no hno
        rw [y1, y2] at HT
        obtain ⟨rfl, rfl⟩ := HBad.out h1 hst.symm
        clear hst hcells hkl ht hSl hS hok y1 y2 hsm htk hr hMap hno HFull HBad HLong HOk
        go_wp2_with fail
        refine (HT.out _ M1.out).mono ?_
        rintro e w2 ⟨rfl, g2⟩
        have G2 := Lib.hid (Bel.trans hB.out (Bel.trans B1.out g2))
        clear g2 HT M1 B1 hRow hB x1 x2 x3 x4
        go_wp2_with fail
        go_ret2
        exact ⟨rfl, G2.out⟩
    · obtain rfl : k = n := by omega
      have hall : L.all okT = true := by have := hr.out; rw [List.drop_of_length_le (by rw [HLn.out]; omega)] at this; exact this.symm
      have hmap : D.map (·.data.toList) = L.map wrt := by have := hMap.out; rw [List.take_of_length_le (by rw [HLn.out]; omega)] at this; rw [← this]; exact List.map_congr_left fun x _ => (toL x).symm
      have hjl := join_len L hall
      rw [HLn.out] at hjl
      have HJ := Lib.hid (fun W hc hb => Tryd.strings_Join w.heap.size 0 k D ⟨#[32]⟩ W hc hb (by rw [hD.out]; omega) (by rw [hD.out]; omega) (by rw [hmap, show (⟨#[32]⟩ : ByteArray).data.toList = [32] from rfl, join_lib]; omega))
      rw [hmap, show (⟨#[32]⟩ : ByteArray).data.toList = [32] from rfl, join_lib, hD.out] at HJ
      have hcl : Hid (∀ (j : Nat) x, D[j]? = some x → wr.cell? ⟨w.heap.size, 0 + j, none⟩ = some (.string x)) := Lib.hid (fun j x hj => by
        have hlt : j < D.length := by
          rcases Nat.lt_or_ge j D.length with g | g
          · exact g
          · rw [List.getElem?_eq_none g] at hj; cases hj
        rw [Nat.zero_add, hRow.out.cell (i := j) (by rw [hD.out] at hlt; exact hlt)]
        simp [fil, List.getD, hj])
      obtain ⟨J, hJ⟩ : ∃ J : ByteArray, ⟨(joinL L).toArray⟩ = J := ⟨_, rfl⟩
      have hJs : J.size = (joinL L).length := by rw [← hJ, ← toL_len, show (⟨(joinL L).toArray⟩ : ByteArray).toList = joinL L from tl _]
      rw [hJ] at HJ
      by_cases h3 : 4000 < (joinL L).length
      · obtain ⟨rfl, rfl⟩ := HLong.out h1 hall h3
        have hJb : 4000 < J.size := by omega
        clear hall hmap hjl hJ hJs h3 hr hMap HFull HBad HLong HOk
        go_wp2_with fail
        refine (HJ.out _ hcl.out hsz.out).mono ?_
        rintro e w2 ⟨rfl, g2⟩
        have G2 := Lib.hid (Bel.trans hB.out g2)
        clear g2 HJ hcl hB
        go_wp2_with fail
        go_ret2
        exact ⟨rfl, G2.out⟩
      · obtain ⟨rfl, y2⟩ := HOk.out h1 hall h3
        have hJb : ¬ 4000 < J.size := by omega
        have hJJ := Lib.hid (show (⟨JT.toArray⟩ : ByteArray) = J by rw [y2, hJ])
        clear hall hmap hjl hJ hJs h3 hr hMap HFull HBad HLong HOk y2
        go_wp2_with fail
        refine (HJ.out _ hcl.out hsz.out).mono ?_
        rintro e w2 ⟨rfl, g2⟩
        have G2 := Lib.hid (Bel.trans hB.out g2)
        clear g2 HJ hcl hB
        go_wp2_with fail
        go_ret2
        exact ⟨by rw [hJJ.out]; rfl, G2.out⟩
set_option maxRecDepth 100000 in
set_option maxHeartbeats 4000000 in
theorem rjoin_any (L : List Tk) (o : Option Addr) (n c : Nat) (hn : n ≤ 1000000) (hS : Sml L) (w : World) (hA : TArg w o n L) :
    Calls Tryd.prog 17 #[.slice o n c] w fun e w' => e = .returned (.tuple #[.string ⟨(joinT L).toArray⟩, .int .i64 (joinE L)]) ∧ Bel w w' := by
  have hL := hA.1
  have HFull := Lib.hid (@joinE_full L)
  have HBad := Lib.hid (@joinE_bad L)
  have HLong := Lib.hid (@joinE_long L)
  have HOk := Lib.hid (@joinE_ok L)
  rw [hL] at HFull HBad HLong HOk
  obtain ⟨JT, hJT⟩ : ∃ JT, joinT L = JT := ⟨_, rfl⟩
  obtain ⟨JE, hJE⟩ : ∃ JE, joinE L = JE := ⟨_, rfl⟩
  rw [hJT, hJE]
  rw [hJT, hJE] at HFull HBad HLong HOk
  have K := Lib.hid hA
  have HSm := Lib.hid hS
  have HLn := Lib.hid hL
  clear hA hL hS hJT hJE
  by_cases h1 : 1000 < n
  · obtain ⟨rfl, rfl⟩ := HFull.out h1
    clear HFull HBad HLong HOk
    go_enter Tryd.func17, Tryd.ntmps17
    go_wp2
    go_ret2
    exact ⟨rfl, Bel.refl _⟩
  have hAll : Hid ((L.drop 0).all okT = L.all okT) := Lib.hid rfl
  have l32 := size_lit 32
  go_enter Tryd.func17, Tryd.ntmps17
  go_wp2
  go_loopw [4, 5, 6, 7, 13] (fun out _ _ _ i wr => ∃ (k : Nat) (O : ByteArray), i = .int .i64 (k : Int) ∧ out = .string O ∧ k ≤ n ∧ O.size ≤ 403 * k ∧ Hid (O.toList = joinL (L.take k)) ∧ Hid ((L.drop k).all okT = L.all okT) ∧ Hid (Bel w wr)) (fun _ _ _ _ i _ => n - (intOf i).toNat)
  case atStart => exact ⟨0, ⟨#[]⟩, rfl, rfl, Nat.zero_le _, Nat.zero_le _, Lib.hid (tl _), hAll, Lib.hid (Bel.refl _)⟩
  case round =>
    obtain ⟨k, O, rfl, rfl, hk, hOs, hO, hr, hB⟩ := hrel
    clear hAll
    by_cases hq : k < n
    · obtain ⟨b, f, rfl, hcells⟩ := K.out.2 (by omega)
      have hkl : k < L.length := by rw [HLn.out]; exact hq
      obtain ⟨x1, x2, x3, x4⟩ := (hcells k hkl).on hB.out
      have hst := (all_step L k hkl).symm.trans hr.out
      have hsm := HSm.out L[k] (List.getElem_mem hkl)
      have htk : joinL (L.take (k + 1)) = if L.take k = [] then wrt L[k] else joinL (L.take k) ++ 32 :: wrt L[k] := by rw [List.take_succ_eq_append_getElem hkl, join_snoc]
      have hnil : L.take k = [] ↔ k = 0 := by
        constructor
        · intro h
          have := congrArg List.length h
          rw [List.length_take, HLn.out] at this
          simp at this
          omega
        · rintro rfl; rfl
      obtain ⟨⟨tk, ts, ti, ta⟩, ht⟩ : ∃ t, L[k] = t := ⟨_, rfl⟩
      rw [ht] at x1 x2 x3 x4 hst hsm htk
      dsimp only at x1 x2 x3 x4 hsm
      obtain ⟨S, hS⟩ : ∃ S : ByteArray, ⟨ts.toArray⟩ = S := ⟨_, rfl⟩
      have hSl : ts = S.toList := by rw [← hS]; exact (tl _).symm
      rw [hS] at x2
      rw [hSl] at hst hsm htk
      rw [toL_len] at hsm
      have HT := Lib.hid (fun w => rtextT_any tk ti ta S hsm.1 hsm.2 w)
      cases hok : okT ⟨tk, S.toList, ti, ta⟩ with
      | true =>
        rw [hok, Bool.true_and] at hst
        have hxl := (ok_len hok).2
        obtain ⟨y1, y2⟩ := txt_yes hok
        rw [y1, y2] at HT
        have hr2 := Lib.hid hst
        obtain ⟨X, hX⟩ : ∃ X : ByteArray, ⟨(wrt ⟨tk, S.toList, ti, ta⟩).toArray⟩ = X := ⟨_, rfl⟩
        have hXl : X.toList = wrt ⟨tk, S.toList, ti, ta⟩ := by rw [← hX]; exact tl _
        rw [hX] at HT
        rw [← hXl] at htk hxl
        rw [toL_len] at hxl
        clear hst hcells hkl ht hSl hS hok y1 y2 hsm hr hX hXl
        by_cases hk0 : k = 0
        · rw [if_pos (hnil.2 hk0)] at htk
          have hO2 : Hid ((O ++ X).toList = joinL (L.take (k + 1))) := Lib.hid (by
            have e : O = ⟨#[]⟩ := empty_str (by omega)
            rw [htk, e, toL, toL, ByteArray.data_append]; simp)
          subst hk0
          simp only [Nat.zero_mul, Nat.add_zero] at x1 x2 x3 x4
          clear htk hnil hO
          go_wp2_with fail
          refine (HT.out _).mono ?_
          rintro e w2 ⟨rfl, g2⟩
          have G2 := Lib.hid (Bel.trans hB.out g2)
          clear g2 HT hB x1 x2 x3 x4
          go_wp2_with fail
          go_roundw
          case rel => exact ⟨1, _, by go_num, rfl, by omega, by rw [ByteArray.size_append]; omega, hO2, hr2, G2⟩
          case measure => simp [intOf]; omega
        · rw [if_neg (fun h => hk0 (hnil.1 h))] at htk
          have hO2 : Hid (((O ++ (⟨#[32]⟩ : ByteArray)) ++ X).toList = joinL (L.take (k + 1))) := Lib.hid (by
            rw [htk, ← hO.out, toL, toL, toL, ByteArray.data_append, ByteArray.data_append]; simp)
          have hkp : 0 < k := by omega
          have hkp2 : (0 : Int) < (k : Int) := by omega
          clear htk hnil hO hk0
          go_wp2_with fail
          refine (HT.out _).mono ?_
          rintro e w2 ⟨rfl, g2⟩
          have G2 := Lib.hid (Bel.trans hB.out g2)
          clear g2 HT hB x1 x2 x3 x4
          go_wp2_with fail
          go_roundw
          case rel => exact ⟨k + 1, _, by go_num, rfl, by omega, by rw [ByteArray.size_append, ByteArray.size_append, l32]; omega, hO2, hr2, G2⟩
          case measure => simp [intOf]; omega
      | false =>
        rw [hok, Bool.false_and] at hst
        have hno : ¬ okT ⟨tk, S.toList, ti, ta⟩ = true := by rw [hok]; decide
        obtain ⟨y1, y2⟩ := txt_no hno
        rw [y1, y2] at HT
        obtain ⟨rfl, rfl⟩ := HBad.out h1 hst.symm
        clear hst hcells hkl ht hSl hS hok y1 y2 hsm htk hr hnil hno HFull HBad HLong HOk
        go_wp2_with fail
        refine (HT.out _).mono ?_
        rintro e w2 ⟨rfl, g2⟩
        have G2 := Lib.hid (Bel.trans hB.out g2)
        clear g2 HT hB x1 x2 x3 x4
        go_wp2_with fail
        go_ret2
        exact ⟨rfl, G2.out⟩
    · obtain rfl : k = n := by omega
      have hall : L.all okT = true := by have := hr.out; rw [List.drop_of_length_le (by rw [HLn.out]; omega)] at this; exact this.symm
      have hOl : O.toList = joinL L := by rw [hO.out, List.take_of_length_le (by rw [HLn.out]; omega)]
      have hJs : O.size = (joinL L).length := by rw [← toL_len, hOl]
      by_cases h3 : 4000 < (joinL L).length
      · obtain ⟨rfl, rfl⟩ := HLong.out h1 hall h3
        have hJb : 4000 < O.size := by omega
        clear hall hOl hJs h3 hr hO HFull HBad HLong HOk
        go_wp2_with fail
        go_ret2
        exact ⟨rfl, hB.out⟩
      · obtain ⟨rfl, y2⟩ := HOk.out h1 hall h3
        have hJb : ¬ 4000 < O.size := by omega
        have hJJ := Lib.hid (show (⟨JT.toArray⟩ : ByteArray) = O by rw [y2, ← hOl, str_back])
        clear hall hOl hJs h3 hr hO HFull HBad HLong HOk y2
        go_wp2_with fail
        go_ret2
        exact ⟨by rw [hJJ.out]; rfl, hB.out⟩
end Lex
end Go.Proofs.YtghjflmanldjlaaDoor
