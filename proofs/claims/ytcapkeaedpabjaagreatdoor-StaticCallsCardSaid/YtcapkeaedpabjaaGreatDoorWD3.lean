/-
  Layer 8, texts merged: LexU, LexV, LexW, LexX. For every argument within the bounds that each theorem names.
-/
import Derived.Test.YtcapkeaedpabjaaGreatDoorWD2
import Derived.Deep.DeepCutAuto
import Derived.Deep.OwnRows
import Derived.Lib.Join

/-
 Layer 7, the code: Text.
-/
namespace Go.Proofs.YtcapkeaedpabjaaGreatDoor
open Go.RowKit Go.ChangeShapes Go.WideShapes
namespace Lex

/-- What == says of two tokens. -/
theorem eq_tok (a b : Int) (x y : ByteArray) (c d e f : Int) (w : World) : (Op.equalIn 10000 54 (.agg #[.int .i64 a, .string x, .int .i64 c, .int .i64 e]) (.agg #[.int .i64 b, .string y, .int .i64 d, .int .i64 f])).run Tryz.prog w = .ok (a == b && (x.toList == y.toList && (c == d && e == f))) w := by
 have hS : Tryz.prog.underlying 54 = some (.struct (Tryz.prog.fieldsOf 54)) := by kernel_rfl
 rw [show (10000 : Nat) = 9999 + 1 from rfl, run_equalIn_agg w 9999 54 _ _ hS (by kernel_rfl)]
 simp only [Program.fieldsOf, Tryz.underlying54]
 have u3 := Tryz.underlying3
 have u9 := Tryz.underlying9
 have uK := Tryz.underlying52
 go_simp
 by_cases h1 : a = b <;> by_cases h2 : c = d <;> by_cases h3 : x.toList = y.toList <;> by_cases h4 : e = f <;> simp [h1, h2, h3, h4]
@[go_sem] theorem guard_tok : Tryz.prog.eqGuardType Tryz.prog.depth 54 = false := by kernel_rfl
theorem txt_no {t : Tk} (h : ¬ okT t = true) : txtT t = [] ∧ txtE t = 1 := by
 unfold txtT txtE
 rw [if_neg h, if_neg h]
 exact ⟨rfl, rfl⟩
theorem txt_yes {t : Tk} (h : okT t = true) : txtT t = wrt t ∧ txtE t = 0 := by
 unfold txtT txtE
 rw [if_pos h, if_pos h]
 exact ⟨rfl, rfl⟩
theorem cell_off {w : World} {b b' o o' : Nat} {v u : Value} (h : w.cell? ⟨b, o, none⟩ = some v) (hne : b' ≠ b) : (w.setCell ⟨b', o', none⟩ u).cell? ⟨b, o, none⟩ = some v := by
 rw [World.cell?_setCell_other _ _ _ _ (fun h => hne (Addr.mk.inj h).1)]
 exact h
set_option maxRecDepth 100000 in
set_option maxHeartbeats 4000000 in
theorem text_any (k i a : Int) (S : ByteArray) (hi : -9223372036854775808 ≤ i ∧ i ≤ 9223372036854775807) (hs : S.size ≤ 1000) (w : World) (hm : ML w) :
  Calls Tryz.prog 194 #[.agg #[.int .i64 k, .string S, .int .i64 i, .int .i64 a]] w fun e w' => e = .returned (.tuple #[.string ⟨(txtT ⟨k, S.toList, i, a⟩).toArray⟩, .int .i64 (txtE ⟨k, S.toList, i, a⟩)]) ∧ Bel w w' := by
 have hlen : okT ⟨k, S.toList, i, a⟩ = true → S.size ≤ 200 := fun h => by have := (ok_len h).1; rw [toL_len] at this; exact this
 have hcode := txt_code ⟨k, S.toList, i, a⟩
 have hno := @txt_no ⟨k, S.toList, i, a⟩
 have hyes := @txt_yes ⟨k, S.toList, i, a⟩
 have HW := Lib.hid (fun w hm => written_any k i a S hi hs w hm)
 dsimp only at hcode
 obtain ⟨WT, hWT⟩ : ∃ WT : ByteArray, ⟨(wrt ⟨k, S.toList, i, a⟩).toArray⟩ = WT := ⟨_, rfl⟩
 have hWl : WT.toList = wrt ⟨k, S.toList, i, a⟩ := by rw [← hWT]; exact tl _
 rw [hWT] at HW
 rw [← hWl] at hcode hyes
 generalize okT ⟨k, S.toList, i, a⟩ = B at hlen hcode hno hyes
 generalize txtT ⟨k, S.toList, i, a⟩ = TT at hno hyes ⊢
 generalize txtE ⟨k, S.toList, i, a⟩ = TE at hno hyes ⊢
 have B1 := Lib.hid (Bel.alloc (Bel.refl w) (.cells #[.int .i64 k, .string S, .int .i64 i, .int .i64 a] 54))
 have M1 := Lib.hid (hm.on B1.out)
 have K1 := Lib.hid (TkC.new w k i a S 54)
 clear hWT hWl hm hi
 by_cases h2 : 200 < S.size
 ·obtain ⟨rfl, rfl⟩ := hno (fun h => by have := hlen h; omega)
  clear hlen hcode hno hyes
  go_enter Tryz.func194, Tryz.ntmps194
  go_wp2
  go_ret2
  exact ⟨rfl, B1.out⟩
 have HT := Lib.hid (fun w => tokens_any WT w)
 obtain ⟨R, hR⟩ : ∃ R, tokens WT.toList = R := ⟨_, rfl⟩
 rw [hR] at HT hcode
 have HCo := Lib.hid hcode
 have HNo := Lib.hid hno
 have HYes := Lib.hid hyes
 clear hR hlen hcode hno hyes
 go_enter Tryz.func194, Tryz.ntmps194
 go_wp2_with fail
 refine (HW.out _ M1.out).mono ?_
 rintro e w2 ⟨rfl, g2⟩
 have K2 := Lib.hid (K1.out.on g2)
 have G2 := Lib.hid (Bel.trans B1.out g2)
 clear g2 HW K1 M1 B1
 go_wp2_with fail
 refine (HT.out _).mono ?_
 rintro e w3 ⟨⟨o, n, c, rfl, hA, hnc, hfr⟩, g3⟩
 have K3 := Lib.hid (K2.out.on g3)
 have G3 := Lib.hid (Bel.trans G2.out g3)
 have hsz : Hid (w.heap.size < w2.heap.size) := Lib.hid (cell_lt K2.out.1)
 have HA := Lib.hid hA
 have HFr := Lib.hid hfr
 clear g3 HT K2 G2 hA hfr
 obtain ⟨s1, s2, s3, s4, f1, f2, f3, f4⟩ := K3.out
 go_upto_region 6 with (fail)
 have c1 : (w3.setCell ⟨w.heap.size, 3, none⟩ (.int .i64 0)).cell? ⟨w.heap.size, 0, none⟩ = some (.int .i64 k) := by rw [World.cell?_setCell_other _ _ _ _ (fun h => by cases (Addr.mk.inj h).2.1)]; exact s1
 have c2 : (w3.setCell ⟨w.heap.size, 3, none⟩ (.int .i64 0)).cell? ⟨w.heap.size, 1, none⟩ = some (.string S) := by rw [World.cell?_setCell_other _ _ _ _ (fun h => by cases (Addr.mk.inj h).2.1)]; exact s2
 have c3 : (w3.setCell ⟨w.heap.size, 3, none⟩ (.int .i64 0)).cell? ⟨w.heap.size, 2, none⟩ = some (.int .i64 i) := by rw [World.cell?_setCell_other _ _ _ _ (fun h => by cases (Addr.mk.inj h).2.1)]; exact s3
 have c4 : (w3.setCell ⟨w.heap.size, 3, none⟩ (.int .i64 0)).cell? ⟨w.heap.size, 3, none⟩ = some (.int .i64 0) := World.cell?_setCell_same _ _ _ s4
 have G : Bel w (w3.setCell ⟨w.heap.size, 3, none⟩ (.int .i64 0)) := G3.out.setCell (Nat.le_refl _) _
 by_cases he : R.e = 0
 ·by_cases hn : n = 1
  ·subst hn
   obtain ⟨b, rfl, hb⟩ := HFr.out (by omega)
   obtain ⟨b', off, hbo, hcells⟩ := HA.out.2 (by omega)
   simp only [Option.some.injEq, Addr.mk.injEq, and_true] at hbo
   obtain ⟨rfl, rfl⟩ := hbo
   have hl1 := HA.out.1
   obtain ⟨u, hu⟩ : ∃ u, R.l = [u] := by
    cases hx : R.l with
    | nil => rw [hx] at hl1; cases hl1
    | cons u q =>
     rw [hx] at hl1
     cases q with
     | nil => exact ⟨u, rfl⟩
     | cons z y => simp at hl1
   have hne : w.heap.size ≠ b := by have := hsz.out; omega
   have ht := hcells 0 (by omega)
   simp only [hu, List.getElem_cons_zero, Nat.zero_mul, Nat.add_zero] at ht
   obtain ⟨x1, x2, x3, x4⟩ := ht
   have d1 := cell_off (o' := 3) (u := .int .i64 0) x1 hne
   have d2 := cell_off (o' := 3) (u := .int .i64 0) x2 hne
   have d3 := cell_off (o' := 3) (u := .int .i64 0) x3 hne
   have d4 := cell_off (o' := 3) (u := .int .i64 0) x4 hne
   obtain ⟨uk, us, ui, ua⟩ := u
   dsimp only at d1 d2 d3 d4
   obtain ⟨US, hUS⟩ : ∃ US : ByteArray, ⟨us.toArray⟩ = US := ⟨_, rfl⟩
   have hUl : us = US.toList := by rw [← hUS]; exact (tl _).symm
   rw [hUS] at d2
   rw [hUl] at hu
   simp only [Nat.zero_add] at d1 d2 d3 d4
   have heq := eq_tok uk k US S ui i ua 0
   have heR := Lib.hid he
   have huR := Lib.hid hu
   have hez : ((R.e : Int) != 0) = false := by rw [he]; rfl
   clear x1 x2 x3 x4 s1 s2 s3 s4 hcells hl1 hUS hUl he hu hb hne f1 f2 f3 f4 K3 HA HFr hsz
   cases hv : (uk == k && (US.toList == S.toList && (ui == i && ua == 0))) with
   | true =>
    rw [hv] at heq
    have hB : B = true := HCo.out.2 ⟨heR.out, by
     rw [huR.out]
     simp only [Bool.and_eq_true, beq_iff_eq] at hv
     obtain ⟨rfl, h1, rfl, rfl⟩ := hv
     rw [h1]⟩
    obtain ⟨y1, rfl⟩ := HYes.out hB
    have hTT : Hid (⟨TT.toArray⟩ = WT) := Lib.hid (by rw [y1, str_back])
    clear hv hB y1 HCo HNo HYes heR huR
    go_region_held3 (fun w' => (w'.cell? ⟨b, 0, none⟩ = some (.int .i64 uk) ∧ w'.cell? ⟨b, 1, none⟩ = some (.string US) ∧ w'.cell? ⟨b, 2, none⟩ = some (.int .i64 ui) ∧ w'.cell? ⟨b, 3, none⟩ = some (.int .i64 ua)) ∧ (w'.cell? ⟨w.heap.size, 0, none⟩ = some (.int .i64 k) ∧ w'.cell? ⟨w.heap.size, 1, none⟩ = some (.string S) ∧ w'.cell? ⟨w.heap.size, 2, none⟩ = some (.int .i64 i) ∧ w'.cell? ⟨w.heap.size, 3, none⟩ = some (.int .i64 0)) ∧ Bel w w') (exact ⟨⟨d1, d2, d3, d4⟩, ⟨c1, c2, c3, c4⟩, Below.drew G⟩) (fail)
    obtain ⟨_, _, G5⟩ := ‹(_ ∧ _) ∧ (_ ∧ _) ∧ Bel w _›
    have G6 := Lib.hid G5
    clear G5
    go_wp2_with fail
    go_ret2
    exact ⟨by rw [hTT.out]; rfl, G6.out⟩
   | false =>
    rw [hv] at heq
    have hB : ¬ B = true := fun hB => by
     have h1 := (HCo.out.1 hB).2
     rw [huR.out] at h1
     simp only [List.cons.injEq, Tk.mk.injEq, and_true] at h1
     obtain ⟨rfl, h2, rfl, rfl⟩ := h1
     rw [h2] at hv
     simp at hv
    obtain ⟨rfl, rfl⟩ := HNo.out hB
    clear hv hB HCo HNo HYes heR huR
    go_region_held3 (fun w' => (w'.cell? ⟨b, 0, none⟩ = some (.int .i64 uk) ∧ w'.cell? ⟨b, 1, none⟩ = some (.string US) ∧ w'.cell? ⟨b, 2, none⟩ = some (.int .i64 ui) ∧ w'.cell? ⟨b, 3, none⟩ = some (.int .i64 ua)) ∧ (w'.cell? ⟨w.heap.size, 0, none⟩ = some (.int .i64 k) ∧ w'.cell? ⟨w.heap.size, 1, none⟩ = some (.string S) ∧ w'.cell? ⟨w.heap.size, 2, none⟩ = some (.int .i64 i) ∧ w'.cell? ⟨w.heap.size, 3, none⟩ = some (.int .i64 0)) ∧ Bel w w') (exact ⟨⟨d1, d2, d3, d4⟩, ⟨c1, c2, c3, c4⟩, Below.drew G⟩) (fail)
    obtain ⟨_, _, G5⟩ := ‹(_ ∧ _) ∧ (_ ∧ _) ∧ Bel w _›
    have G6 := Lib.hid G5
    clear G5
    go_wp2_with fail
    go_ret2
    exact ⟨rfl, G6.out⟩
  ·have hB : ¬ B = true := fun hB => by
    have h1 := (HCo.out.1 hB).2
    have h2 := HA.out.1
    rw [h1] at h2
    exact hn h2.symm
   obtain ⟨rfl, rfl⟩ := HNo.out hB
   have hez : ((R.e : Int) != 0) = false := by rw [he]; rfl
   have hnz : ((n : Int) != 1) = true := by simp; omega
   clear hB HCo HNo HYes hn he s1 s2 s3 s4 K3 HA HFr hsz f1 f2 f3 f4
   have G6 := Lib.hid G
   go_quiet (fail)
   go_wp2_with fail
   go_ret2
   exact ⟨rfl, Bel.drewN G6.out _⟩
 ·have hB : ¬ B = true := fun hB => he (HCo.out.1 hB).1
  obtain ⟨rfl, rfl⟩ := HNo.out hB
  have hez : ((R.e : Int) != 0) = true := by simpa using he
  clear hB HCo HNo HYes he s1 s2 s3 s4 K3 HA HFr hsz f1 f2 f3 f4
  have G6 := Lib.hid G
  go_quiet (fail)
  go_wp2_with fail
  go_ret2
  exact ⟨rfl, Bel.drewN G6.out _⟩
end Lex
end Go.Proofs.YtcapkeaedpabjaaGreatDoor

/-
 Layer 7, the reference: Text.
-/
namespace Go.Proofs.YtcapkeaedpabjaaGreatDoor
open Go.RowKit Go.ChangeShapes Go.WideShapes
namespace Lex

theorem print_byte (c : UInt8) : printB c = (!decide ((c.toNat : Int) < 32) && !decide (126 < (c.toNat : Int))) := by
 unfold printB
 rw [Bool.eq_iff_iff]
 simp [UInt8.le_iff_toNat_le]
 omega
theorem print_step (s : ByteArray) (k : Nat) (h : k < s.size) : (s.toList.drop k).all printB = (printB s[k] && (s.toList.drop (k + 1)).all printB) := by
 rw [drop_get s k h, List.all_cons]
/-- What the reference's quoted answers. -/
def quoV (s : Txt) : Ending := if s.all printB then .returned (.tuple #[.string ⟨(34 :: (quo s ++ [34])).toArray⟩, .bool (decide (s.length ≤ 200))]) else .returned (.tuple #[.string ⟨#[]⟩, .bool false])
set_option maxHeartbeats 4000000 in
theorem rquoted_wide (s : ByteArray) (hs : s.size ≤ 140737488355328) (w : World) :
  Calls Tryz.prog 197 #[.string s] w fun e w' => e = quoV s.toList ∧ w = w' := by
 have hV : quoV s.toList = if s.toList.all printB then .returned (.tuple #[.string ⟨(34 :: (quo s.toList ++ [34])).toArray⟩, .bool (decide (s.size ≤ 200))]) else .returned (.tuple #[.string ⟨#[]⟩, .bool false]) := by unfold quoV; rw [toL_len]
 obtain ⟨V, hV0⟩ : ∃ V, quoV s.toList = V := ⟨_, rfl⟩
 rw [hV0] at hV ⊢
 have HV := Lib.hid hV
 have hA : Hid ((s.toList.drop 0).all printB = s.toList.all printB) := Lib.hid rfl
 have hQ : Hid ((⟨#[34]⟩ : ByteArray).toList ++ quo (s.toList.drop 0) = 34 :: quo s.toList) := Lib.hid (by rw [show (⟨#[34]⟩ : ByteArray).toList = [34] from tl _]; rfl)
 generalize s.toList.all printB = B at hV hA HV
 generalize quo s.toList = Q at hQ HV hV
 clear hV hV0
 have l34 := size_lit 34
 have l92 := size_lit 92
 go_enter Tryz.func197, Tryz.ntmps197
 go_wp2
 go_loop [4, 5, 8] (fun o _ i => ∃ (k : Nat) (O : ByteArray), i = .int .i64 (k : Int) ∧ o = .string O ∧ k ≤ s.size ∧ O.size ≤ 1 + 2 * k ∧ Hid ((s.toList.drop k).all printB = B) ∧ Hid (O.toList ++ quo (s.toList.drop k) = 34 :: Q)) (fun _ _ i => s.size - (intOf i).toNat)
 case atStart => exact ⟨0, ⟨#[34]⟩, rfl, rfl, Nat.zero_le _, by rw [l34]; omega, hA, hQ⟩
 case round =>
  obtain ⟨k, O, rfl, rfl, hk, hO, hr, hq⟩ := hrel
  clear hA hQ
  by_cases hlt : k < s.size
  ·have hr0 := hr.out
   have hq0 := hq.out
   rw [print_step s k hlt] at hr0
   rw [drop_get s k hlt, quo_cons] at hq0
   clear hr hq
   obtain ⟨c, hc⟩ : ∃ c, s[k] = c := ⟨_, rfl⟩
   have hi := fun w => idx_str s .i64 (k : Int) k rfl hlt w
   have sl := fun w => cut1 s k (k : Int) ((k : Int) + 1) rfl rfl hlt w
   rw [hc] at hr0 hq0 hi sl
   have lc := size_lit c
   clear hc
   by_cases hp : printB c = true
   ·rw [hp, Bool.true_and] at hr0
    have hr2 := Lib.hid hr0
    rw [print_byte, Bool.and_eq_true, Bool.not_eq_true', Bool.not_eq_true', decide_eq_false_iff_not, decide_eq_false_iff_not] at hp
    obtain ⟨p1, p2⟩ := hp
    by_cases c34 : c = 34
    ·subst c34
     simp only [toNat34.1] at hi p1 p2
     have hq2 : Hid (((O ++ (⟨#[92]⟩ : ByteArray)) ++ (⟨#[34]⟩ : ByteArray)).toList ++ quo (s.toList.drop (k + 1)) = 34 :: Q) := Lib.hid (by rw [app_list, app_list, ← hq0]; simp)
     clear hr0 hq0
     go_wp2
     go_round
     case rel => exact ⟨k + 1, _, by go_num, rfl, by omega, by rw [ByteArray.size_append, ByteArray.size_append, l92, l34]; omega, hr2, hq2⟩
     case measure => simp [intOf]; omega
    have n34 : ((c.toNat : Int) == 34) = false := (neb 34 (by omega) c34).1
    by_cases c92 : c = 92
    ·subst c92
     simp only [toNat34.2] at hi p1 p2 n34
     have hq2 : Hid (((O ++ (⟨#[92]⟩ : ByteArray)) ++ (⟨#[92]⟩ : ByteArray)).toList ++ quo (s.toList.drop (k + 1)) = 34 :: Q) := Lib.hid (by rw [app_list, app_list, ← hq0]; simp)
     clear hr0 hq0
     go_wp2
     go_round
     case rel => exact ⟨k + 1, _, by go_num, rfl, by omega, by rw [ByteArray.size_append, ByteArray.size_append, l92]; omega, hr2, hq2⟩
     case measure => simp [intOf]; omega
    ·have n92 : ((c.toNat : Int) == 92) = false := (neb 92 (by omega) c92).1
     have hq2 : Hid ((O ++ (⟨#[c]⟩ : ByteArray)).toList ++ quo (s.toList.drop (k + 1)) = 34 :: Q) := Lib.hid (by rw [app_list, ← hq0]; simp [c34, c92])
     clear hr0 hq0 c34 c92
     go_wp2
     go_round
     case rel => exact ⟨k + 1, _, by go_num, rfl, by omega, by rw [ByteArray.size_append, lc]; omega, hr2, hq2⟩
     case measure => simp [intOf]; omega
   ·have hp2 : printB c = false := by simpa using hp
    rw [hp2, Bool.false_and] at hr0
    subst hr0
    have hZ := HV.out
    rw [if_neg (by decide)] at hZ
    subst hZ
    rw [print_byte, Bool.and_eq_false_iff, Bool.not_eq_false', Bool.not_eq_false', decide_eq_true_eq, decide_eq_true_eq] at hp2
    clear HV hp hq0
    by_cases p1 : (c.toNat : Int) < 32
    ·clear hp2
     go_wp2
     go_ret2
     exact ⟨rfl, rfl⟩
    ·have p2 : 126 < (c.toNat : Int) := by omega
     clear hp2
     go_wp2
     go_ret2
     exact ⟨rfl, rfl⟩
  ·obtain rfl : k = s.size := by omega
   have hr0 := hr.out
   have hq0 := hq.out
   rw [drop_end s (Nat.le_refl _)] at hr0 hq0
   have hB : true = B := hr0
   subst hB
   have hZ := HV.out
   rw [if_pos rfl] at hZ
   subst hZ
   have hF : Hid (O ++ (⟨#[34]⟩ : ByteArray) = ⟨(34 :: (Q ++ [34])).toArray⟩) := Lib.hid (by
    have e : O.toList = 34 :: Q := by rw [← hq0]; simp [quo]
    rw [← str_back (O ++ (⟨#[34]⟩ : ByteArray)), app_list, e]; rfl)
   clear hr hq hr0 hq0 HV
   go_wp2
   go_ret2
   exact ⟨by rw [← hF.out]; simp; omega, rfl⟩
theorem turn {f : Nat} {args : Array Value} {E : Ending} {w : World} (h : Calls Tryz.prog f args w fun e w' => e = E ∧ w = w') : Calls Tryz.prog f args w fun e w' => e = E ∧ w' = w := h.mono fun _ _ k => ⟨k.1, k.2.symm⟩
end Lex
end Go.Proofs.YtcapkeaedpabjaaGreatDoor

/-
 Layer 7, the reference: Text, of every kind of token.
-/
namespace Go.Proofs.YtcapkeaedpabjaaGreatDoor
open Go.RowKit Go.ChangeShapes Go.WideShapes
namespace Lex

set_option maxRecDepth 100000 in
set_option maxHeartbeats 8000000 in
theorem rtextT_wide (k i a : Int) (S : ByteArray) (hi : -9223372036854775808 ≤ i ∧ i ≤ 9223372036854775807) (hs : S.size ≤ 140737488355328) (w : World) :
  Calls Tryz.prog 145 #[.agg #[.int .i64 k, .string S, .int .i64 i, .int .i64 a]] w fun e w' => e = .returned (.tuple #[.string ⟨(txtT ⟨k, S.toList, i, a⟩).toArray⟩, .int .i64 (txtE ⟨k, S.toList, i, a⟩)]) ∧ Bel w w' := by
 have hno := @txt_no ⟨k, S.toList, i, a⟩
 have hyes := @txt_yes ⟨k, S.toList, i, a⟩
 have HK := Lib.hid (fun w => rkeyword_any S w)
 have HS := Lib.hid (fun w => rSymbol_any S w)
 have HV := Lib.hid (fun w => Num.rvalid_any i w)
 have HF := Lib.hid (fun w => Num.rformat_any i hi.1 hi.2 w)
 have HQ := Lib.hid (fun w => rquoted_wide S (by omega) w)
 have HR0 := fun w => rrun_any S (by unfold maxLen; omega) 0 w
 rw [List.drop_zero, Nat.zero_add, show ((0 : Nat) : Int) = 0 from rfl] at HR0
 have HR := Lib.hid HR0
 have B1 := Lib.hid (Bel.alloc (Bel.refl w) (.cells #[.int .i64 k, .string S, .int .i64 i, .int .i64 a] 54))
 have hWd : (wholeB S.toList = false ∧ S.size = 0) ∨ (wholeB S.toList = false ∧ 24 < S.size) ∨ (1 ≤ S.size ∧ S.size ≤ 24 ∧ ((runN S.toList : Int) == (S.size : Int)) = wholeB S.toList) := by
  unfold wholeB
  rw [toL_len]
  by_cases h0 : S.size = 0
  ·left; exact ⟨by rw [h0]; rfl, h0⟩
  by_cases h24 : 24 < S.size
  ·right; left; exact ⟨by rw [decide_eq_false (show ¬ S.size ≤ 24 by omega)]; simp, h24⟩
  ·right; right
   refine ⟨by omega, by omega, ?_⟩
   rw [decide_eq_true (show 1 ≤ S.size by omega), decide_eq_true (show S.size ≤ 24 by omega), Bool.eq_iff_iff]
   simp
   omega
 have l64 := size_lit 64
 obtain ⟨OK, hOK⟩ : ∃ OK, okT ⟨k, S.toList, i, a⟩ = OK := ⟨_, rfl⟩
 obtain ⟨WR, hWR⟩ : ∃ WR, wrt ⟨k, S.toList, i, a⟩ = WR := ⟨_, rfl⟩
 rw [hOK] at hno hyes
 rw [hWR] at hyes
 generalize txtT ⟨k, S.toList, i, a⟩ = TT at hno hyes ⊢
 generalize txtE ⟨k, S.toList, i, a⟩ = TE at hno hyes ⊢
 unfold okT at hOK
 unfold wrt at hWR
 dsimp only at hOK hWR
 generalize wholeB S.toList = W at hWd hOK
 generalize wordB S.toList = KW at HK hOK
 generalize symB S.toList = SY at HS hOK
 generalize runN S.toList = N at HR hWd
 have HWd := Lib.hid hWd
 have HNo := Lib.hid hno
 have HYes := Lib.hid hyes
 clear hno hyes hWd HR0 hi
 by_cases hk1 : k = 1
 ·subst hk1
  rw [if_pos rfl] at hOK
  rw [if_pos (by decide)] at hWR
  by_cases hi0 : i = 0
  ·subst hi0
   simp only [beq_self_eq_true, Bool.true_and] at hOK
   have hE := Lib.hid hWR
   subst hOK
   clear hWR

   go_enter Tryz.func145, Tryz.ntmps145
   go_upto_region 3 with (fail)
   go_cut [4] (fun s wx => s = .bool W ∧ TkC wx w.heap.size 1 S 0 a ∧ Bel w wx)
   case first =>
    rcases HWd.out with ⟨rfl, h⟩ | ⟨rfl, h⟩ | ⟨h1, h2, h⟩
    ·have z1 : S.size = 0 := h
     obtain rfl := empty_str z1
     clear h z1
     go_quiet (fail)
     go_wp2_with fail
     go_meet
     exact ⟨rfl, TkC.on ((TkC.new w 1 0 a ⟨#[]⟩ 54)) (Bel.drewN (Bel.refl _) _), Bel.drewN B1.out _⟩
    ·have z1 : 0 < S.size := by omega
     have z2 : decide ((S.size : Int) ≤ 24) = false := by simp; omega
     go_quiet (fail)
     go_wp2_with fail
     go_meet
     exact ⟨rfl, TkC.on ((TkC.new w 1 0 a S 54)) (Bel.drewN (Bel.refl _) _), Bel.drewN B1.out _⟩
    ·have z1 : 0 < S.size := h1
     have z2 : decide ((S.size : Int) ≤ 24) = true := by simp; omega
     have z3 : decide (0 < S.size) = true := by simp; omega
     go_quiet ((go_at_call 129; exact Calls.quiet_of_same (turn (HR.out _))))
     go_wp2_with fail
     go_meet
     exact ⟨by rw [← h], TkC.on ((TkC.new w 1 0 a S 54)) (Bel.drewN (Bel.refl _) _), Bel.drewN B1.out _⟩
   case rest =>
    obtain ⟨rfl, ⟨c1, c2, c3, c4, f1, f2, f3, f4⟩, G⟩ := hcut
    cases W with
    | false =>
     simp only [Bool.false_and] at HNo HYes

     obtain ⟨rfl, rfl⟩ := HNo.out (by simp)
     clear HNo HYes
     go_wp2_with (first | (go_at_call 130; ((with_reducible refine (HK.out _).mono ?_); rintro e w' ⟨rfl, rfl⟩)) | (go_at_call 184; ((with_reducible refine (HS.out _).mono ?_); rintro e w' ⟨rfl, rfl⟩)) | (go_at_call 195; ((with_reducible refine (HV.out _).mono ?_); rintro e w' ⟨rfl, rfl⟩)) | (go_at_call 196; ((with_reducible refine (HF.out _).mono ?_); rintro e w' ⟨rfl, rfl⟩)) | (go_at_call 197; ((with_reducible refine (HQ.out _).mono ?_); rintro e w' ⟨rfl, rfl⟩)))
     go_ret2
     exact ⟨rfl, G⟩
    | true =>
     cases KW with
     | true =>
      simp only [Bool.not_true, Bool.and_false] at HNo HYes

      obtain ⟨rfl, rfl⟩ := HNo.out (by simp)
      clear HNo HYes
      go_wp2_with (first | (go_at_call 130; ((with_reducible refine (HK.out _).mono ?_); rintro e w' ⟨rfl, rfl⟩)) | (go_at_call 184; ((with_reducible refine (HS.out _).mono ?_); rintro e w' ⟨rfl, rfl⟩)) | (go_at_call 195; ((with_reducible refine (HV.out _).mono ?_); rintro e w' ⟨rfl, rfl⟩)) | (go_at_call 196; ((with_reducible refine (HF.out _).mono ?_); rintro e w' ⟨rfl, rfl⟩)) | (go_at_call 197; ((with_reducible refine (HQ.out _).mono ?_); rintro e w' ⟨rfl, rfl⟩)))
      go_ret2
      exact ⟨rfl, G⟩
     | false =>
      simp only [Bool.not_false, Bool.and_true] at HNo HYes
      have hEE : Hid ((⟨WR.toArray⟩ : ByteArray) = S) := Lib.hid (by rw [← hE.out, str_back])

      obtain ⟨y1, rfl⟩ := HYes.out (by simp)
      subst y1
      clear HNo HYes
      go_wp2_with (first | (go_at_call 130; ((with_reducible refine (HK.out _).mono ?_); rintro e w' ⟨rfl, rfl⟩)) | (go_at_call 184; ((with_reducible refine (HS.out _).mono ?_); rintro e w' ⟨rfl, rfl⟩)) | (go_at_call 195; ((with_reducible refine (HV.out _).mono ?_); rintro e w' ⟨rfl, rfl⟩)) | (go_at_call 196; ((with_reducible refine (HF.out _).mono ?_); rintro e w' ⟨rfl, rfl⟩)) | (go_at_call 197; ((with_reducible refine (HQ.out _).mono ?_); rintro e w' ⟨rfl, rfl⟩)))
      go_ret2
      exact ⟨by rw [hEE.out]; rfl, G⟩
  ·have hnz : ((i : Int) != 0) = true := by simpa using hi0
   have hz : (i == 0) = false := by simpa using hi0
   rw [hz, Bool.false_and] at hOK
   have hOK2 : ¬ OK = true := by rw [← hOK]; decide
   obtain ⟨rfl, rfl⟩ := HNo.out hOK2
   clear hOK hOK2 HNo HYes hWR hi0 hz
   go_enter Tryz.func145, Tryz.ntmps145
   go_wp2
   go_ret2
   exact ⟨rfl, B1.out⟩
 by_cases hk2 : k = 2
 ·subst hk2
  rw [if_neg (by decide), if_pos rfl] at hOK
  rw [if_pos (by decide)] at hWR
  by_cases hi0 : i = 0
  ·subst hi0
   simp only [beq_self_eq_true, Bool.true_and] at hOK
   have hE := Lib.hid hWR
   subst hOK
   clear hWR

   go_enter Tryz.func145, Tryz.ntmps145
   go_upto_region 3 with (fail)
   go_cut [4] (fun s wx => s = .bool W ∧ TkC wx w.heap.size 2 S 0 a ∧ Bel w wx)
   case first =>
    rcases HWd.out with ⟨rfl, h⟩ | ⟨rfl, h⟩ | ⟨h1, h2, h⟩
    ·have z1 : S.size = 0 := h
     obtain rfl := empty_str z1
     clear h z1
     go_quiet (fail)
     go_wp2_with fail
     go_meet
     exact ⟨rfl, TkC.on ((TkC.new w 2 0 a ⟨#[]⟩ 54)) (Bel.drewN (Bel.refl _) _), Bel.drewN B1.out _⟩
    ·have z1 : 0 < S.size := by omega
     have z2 : decide ((S.size : Int) ≤ 24) = false := by simp; omega
     go_quiet (fail)
     go_wp2_with fail
     go_meet
     exact ⟨rfl, TkC.on ((TkC.new w 2 0 a S 54)) (Bel.drewN (Bel.refl _) _), Bel.drewN B1.out _⟩
    ·have z1 : 0 < S.size := h1
     have z2 : decide ((S.size : Int) ≤ 24) = true := by simp; omega
     have z3 : decide (0 < S.size) = true := by simp; omega
     go_quiet ((go_at_call 129; exact Calls.quiet_of_same (turn (HR.out _))))
     go_wp2_with fail
     go_meet
     exact ⟨by rw [← h], TkC.on ((TkC.new w 2 0 a S 54)) (Bel.drewN (Bel.refl _) _), Bel.drewN B1.out _⟩
   case rest =>
    obtain ⟨rfl, ⟨c1, c2, c3, c4, f1, f2, f3, f4⟩, G⟩ := hcut
    cases KW with
    | false =>
     obtain ⟨rfl, rfl⟩ := HNo.out (by simp)
     clear HNo HYes
     go_wp2_with (first | (go_at_call 130; ((with_reducible refine (HK.out _).mono ?_); rintro e w' ⟨rfl, rfl⟩)) | (go_at_call 184; ((with_reducible refine (HS.out _).mono ?_); rintro e w' ⟨rfl, rfl⟩)) | (go_at_call 195; ((with_reducible refine (HV.out _).mono ?_); rintro e w' ⟨rfl, rfl⟩)) | (go_at_call 196; ((with_reducible refine (HF.out _).mono ?_); rintro e w' ⟨rfl, rfl⟩)) | (go_at_call 197; ((with_reducible refine (HQ.out _).mono ?_); rintro e w' ⟨rfl, rfl⟩)))
     go_ret2
     exact ⟨rfl, G⟩
    | true =>
     have hEE : Hid ((⟨WR.toArray⟩ : ByteArray) = S) := Lib.hid (by rw [← hE.out, str_back])

     obtain ⟨y1, rfl⟩ := HYes.out (by simp)
     subst y1
     clear HNo HYes
     go_wp2_with (first | (go_at_call 130; ((with_reducible refine (HK.out _).mono ?_); rintro e w' ⟨rfl, rfl⟩)) | (go_at_call 184; ((with_reducible refine (HS.out _).mono ?_); rintro e w' ⟨rfl, rfl⟩)) | (go_at_call 195; ((with_reducible refine (HV.out _).mono ?_); rintro e w' ⟨rfl, rfl⟩)) | (go_at_call 196; ((with_reducible refine (HF.out _).mono ?_); rintro e w' ⟨rfl, rfl⟩)) | (go_at_call 197; ((with_reducible refine (HQ.out _).mono ?_); rintro e w' ⟨rfl, rfl⟩)))
     go_ret2
     exact ⟨by rw [hEE.out]; rfl, G⟩
  ·have hnz : ((i : Int) != 0) = true := by simpa using hi0
   have hz : (i == 0) = false := by simpa using hi0
   rw [hz, Bool.false_and] at hOK
   have hOK2 : ¬ OK = true := by rw [← hOK]; decide
   obtain ⟨rfl, rfl⟩ := HNo.out hOK2
   clear hOK hOK2 HNo HYes hWR hi0 hz
   go_enter Tryz.func145, Tryz.ntmps145
   go_wp2
   go_ret2
   exact ⟨rfl, B1.out⟩
 by_cases hk5 : k = 5
 ·subst hk5
  rw [if_neg (by decide), if_neg (by decide), if_pos rfl] at hOK
  rw [if_pos (by decide)] at hWR
  by_cases hi0 : i = 0
  ·subst hi0
   simp only [beq_self_eq_true, Bool.true_and] at hOK
   have hE := Lib.hid hWR
   subst hOK
   clear hWR

   go_enter Tryz.func145, Tryz.ntmps145
   go_upto_region 3 with (fail)
   go_cut [4] (fun s wx => s = .bool W ∧ TkC wx w.heap.size 5 S 0 a ∧ Bel w wx)
   case first =>
    rcases HWd.out with ⟨rfl, h⟩ | ⟨rfl, h⟩ | ⟨h1, h2, h⟩
    ·have z1 : S.size = 0 := h
     obtain rfl := empty_str z1
     clear h z1
     go_quiet (fail)
     go_wp2_with fail
     go_meet
     exact ⟨rfl, TkC.on ((TkC.new w 5 0 a ⟨#[]⟩ 54)) (Bel.drewN (Bel.refl _) _), Bel.drewN B1.out _⟩
    ·have z1 : 0 < S.size := by omega
     have z2 : decide ((S.size : Int) ≤ 24) = false := by simp; omega
     go_quiet (fail)
     go_wp2_with fail
     go_meet
     exact ⟨rfl, TkC.on ((TkC.new w 5 0 a S 54)) (Bel.drewN (Bel.refl _) _), Bel.drewN B1.out _⟩
    ·have z1 : 0 < S.size := h1
     have z2 : decide ((S.size : Int) ≤ 24) = true := by simp; omega
     have z3 : decide (0 < S.size) = true := by simp; omega
     go_quiet ((go_at_call 129; exact Calls.quiet_of_same (turn (HR.out _))))
     go_wp2_with fail
     go_meet
     exact ⟨by rw [← h], TkC.on ((TkC.new w 5 0 a S 54)) (Bel.drewN (Bel.refl _) _), Bel.drewN B1.out _⟩
   case rest =>
    obtain ⟨rfl, ⟨c1, c2, c3, c4, f1, f2, f3, f4⟩, G⟩ := hcut
    cases SY with
    | false =>
     obtain ⟨rfl, rfl⟩ := HNo.out (by simp)
     clear HNo HYes
     go_wp2_with (first | (go_at_call 130; ((with_reducible refine (HK.out _).mono ?_); rintro e w' ⟨rfl, rfl⟩)) | (go_at_call 184; ((with_reducible refine (HS.out _).mono ?_); rintro e w' ⟨rfl, rfl⟩)) | (go_at_call 195; ((with_reducible refine (HV.out _).mono ?_); rintro e w' ⟨rfl, rfl⟩)) | (go_at_call 196; ((with_reducible refine (HF.out _).mono ?_); rintro e w' ⟨rfl, rfl⟩)) | (go_at_call 197; ((with_reducible refine (HQ.out _).mono ?_); rintro e w' ⟨rfl, rfl⟩)))
     go_ret2
     exact ⟨rfl, G⟩
    | true =>
     have hEE : Hid ((⟨WR.toArray⟩ : ByteArray) = S) := Lib.hid (by rw [← hE.out, str_back])

     obtain ⟨y1, rfl⟩ := HYes.out (by simp)
     subst y1
     clear HNo HYes
     go_wp2_with (first | (go_at_call 130; ((with_reducible refine (HK.out _).mono ?_); rintro e w' ⟨rfl, rfl⟩)) | (go_at_call 184; ((with_reducible refine (HS.out _).mono ?_); rintro e w' ⟨rfl, rfl⟩)) | (go_at_call 195; ((with_reducible refine (HV.out _).mono ?_); rintro e w' ⟨rfl, rfl⟩)) | (go_at_call 196; ((with_reducible refine (HF.out _).mono ?_); rintro e w' ⟨rfl, rfl⟩)) | (go_at_call 197; ((with_reducible refine (HQ.out _).mono ?_); rintro e w' ⟨rfl, rfl⟩)))
     go_ret2
     exact ⟨by rw [hEE.out]; rfl, G⟩
  ·have hnz : ((i : Int) != 0) = true := by simpa using hi0
   have hz : (i == 0) = false := by simpa using hi0
   rw [hz, Bool.false_and] at hOK
   have hOK2 : ¬ OK = true := by rw [← hOK]; decide
   obtain ⟨rfl, rfl⟩ := HNo.out hOK2
   clear hOK hOK2 HNo HYes hWR hi0 hz
   go_enter Tryz.func145, Tryz.ntmps145
   go_wp2
   go_ret2
   exact ⟨rfl, B1.out⟩
 by_cases hk6 : k = 6
 ·subst hk6
  rw [if_neg (by decide), if_neg (by decide), if_neg (by decide), if_pos rfl] at hOK
  rw [if_neg (by decide), if_neg (by decide), if_neg (by decide), if_pos rfl] at hWR
  by_cases hi0 : i = 0
  ·subst hi0
   simp only [beq_self_eq_true, Bool.true_and] at hOK
   have hE := Lib.hid hWR
   subst hOK
   clear hWR

   go_enter Tryz.func145, Tryz.ntmps145
   go_upto_region 3 with (fail)
   go_cut [4] (fun s wx => s = .bool W ∧ TkC wx w.heap.size 6 S 0 a ∧ Bel w wx)
   case first =>
    rcases HWd.out with ⟨rfl, h⟩ | ⟨rfl, h⟩ | ⟨h1, h2, h⟩
    ·have z1 : S.size = 0 := h
     obtain rfl := empty_str z1
     clear h z1
     go_quiet (fail)
     go_wp2_with fail
     go_meet
     exact ⟨rfl, TkC.on ((TkC.new w 6 0 a ⟨#[]⟩ 54)) (Bel.drewN (Bel.refl _) _), Bel.drewN B1.out _⟩
    ·have z1 : 0 < S.size := by omega
     have z2 : decide ((S.size : Int) ≤ 24) = false := by simp; omega
     go_quiet (fail)
     go_wp2_with fail
     go_meet
     exact ⟨rfl, TkC.on ((TkC.new w 6 0 a S 54)) (Bel.drewN (Bel.refl _) _), Bel.drewN B1.out _⟩
    ·have z1 : 0 < S.size := h1
     have z2 : decide ((S.size : Int) ≤ 24) = true := by simp; omega
     have z3 : decide (0 < S.size) = true := by simp; omega
     go_quiet ((go_at_call 129; exact Calls.quiet_of_same (turn (HR.out _))))
     go_wp2_with fail
     go_meet
     exact ⟨by rw [← h], TkC.on ((TkC.new w 6 0 a S 54)) (Bel.drewN (Bel.refl _) _), Bel.drewN B1.out _⟩
   case rest =>
    obtain ⟨rfl, ⟨c1, c2, c3, c4, f1, f2, f3, f4⟩, G⟩ := hcut
    cases W with
    | false =>
     obtain ⟨rfl, rfl⟩ := HNo.out (by simp)
     clear HNo HYes
     go_wp2_with (first | (go_at_call 130; ((with_reducible refine (HK.out _).mono ?_); rintro e w' ⟨rfl, rfl⟩)) | (go_at_call 184; ((with_reducible refine (HS.out _).mono ?_); rintro e w' ⟨rfl, rfl⟩)) | (go_at_call 195; ((with_reducible refine (HV.out _).mono ?_); rintro e w' ⟨rfl, rfl⟩)) | (go_at_call 196; ((with_reducible refine (HF.out _).mono ?_); rintro e w' ⟨rfl, rfl⟩)) | (go_at_call 197; ((with_reducible refine (HQ.out _).mono ?_); rintro e w' ⟨rfl, rfl⟩)))
     go_ret2
     exact ⟨rfl, G⟩
    | true =>
     have hEE : Hid ((⟨#[64]⟩ : ByteArray) ++ S = ⟨WR.toArray⟩) := Lib.hid (by rw [← hE.out, cat_lit])

     obtain ⟨y1, rfl⟩ := HYes.out (by simp)
     subst y1
     clear HNo HYes
     go_wp2_with (first | (go_at_call 130; ((with_reducible refine (HK.out _).mono ?_); rintro e w' ⟨rfl, rfl⟩)) | (go_at_call 184; ((with_reducible refine (HS.out _).mono ?_); rintro e w' ⟨rfl, rfl⟩)) | (go_at_call 195; ((with_reducible refine (HV.out _).mono ?_); rintro e w' ⟨rfl, rfl⟩)) | (go_at_call 196; ((with_reducible refine (HF.out _).mono ?_); rintro e w' ⟨rfl, rfl⟩)) | (go_at_call 197; ((with_reducible refine (HQ.out _).mono ?_); rintro e w' ⟨rfl, rfl⟩)))
     go_ret2
     exact ⟨by rw [← hEE.out]; rfl, G⟩
  ·have hnz : ((i : Int) != 0) = true := by simpa using hi0
   have hz : (i == 0) = false := by simpa using hi0
   rw [hz, Bool.false_and] at hOK
   have hOK2 : ¬ OK = true := by rw [← hOK]; decide
   obtain ⟨rfl, rfl⟩ := HNo.out hOK2
   clear hOK hOK2 HNo HYes hWR hi0 hz
   go_enter Tryz.func145, Tryz.ntmps145
   go_wp2
   go_ret2
   exact ⟨rfl, B1.out⟩
 by_cases hk3 : k = 3
 ·subst hk3
  rw [if_neg (by decide), if_neg (by decide), if_neg (by decide), if_neg (by decide), if_pos rfl] at hOK
  rw [if_neg (by decide), if_pos rfl] at hWR
  have hE := Lib.hid hWR
  clear hWR
  by_cases hS0 : S.size = 0
  ·obtain rfl := empty_str hS0
   rw [show (⟨#[]⟩ : ByteArray).toList.isEmpty = true by rw [show (⟨#[]⟩ : ByteArray).toList = [] from tl []]; rfl, Bool.true_and] at hOK
   have HOK := Lib.hid hOK
   have hWf : W = false := by
    rcases HWd.out with ⟨h, _⟩ | ⟨h, _⟩ | ⟨h, _⟩
    ·exact h
    ·exact h
    ·exact absurd h (by rw [show (⟨#[]⟩ : ByteArray).size = 0 from rfl]; omega)
   subst hWf
   clear hOK hS0 HWd HR
   go_enter Tryz.func145, Tryz.ntmps145
   go_upto_region 3 with (fail)
   go_cut [4] (fun s wx => s = .bool false ∧ TkC wx w.heap.size 3 ⟨#[]⟩ i a ∧ Bel w wx)
   case first =>
    go_quiet (fail)
    go_wp2_with fail
    go_meet
    exact ⟨rfl, TkC.on ((TkC.new w 3 i a ⟨#[]⟩ 54)) (Bel.drewN (Bel.refl _) _), Bel.drewN B1.out _⟩
   case rest =>
    obtain ⟨rfl, ⟨c1, c2, c3, c4, f1, f2, f3, f4⟩, G⟩ := hcut
    by_cases hpos : 0 ≤ i
    ·cases hv : Num.vld i with
     | true =>
      have hb := vld_parts hv
      have hok : true = OK := by rw [← HOK.out, decide_eq_true hpos, decide_eq_true hb.2]; rfl
      rw [hv] at HV
      subst hok
      clear hv HOK hb
      have hWE := Lib.hid hE.out.symm
      obtain ⟨y1, rfl⟩ := HYes.out (by simp)
      subst y1
      clear HNo HYes
      go_wp2_with (first | (go_at_call 130; ((with_reducible refine (HK.out _).mono ?_); rintro e w' ⟨rfl, rfl⟩)) | (go_at_call 184; ((with_reducible refine (HS.out _).mono ?_); rintro e w' ⟨rfl, rfl⟩)) | (go_at_call 195; ((with_reducible refine (HV.out _).mono ?_); rintro e w' ⟨rfl, rfl⟩)) | (go_at_call 196; ((with_reducible refine (HF.out _).mono ?_); rintro e w' ⟨rfl, rfl⟩)) | (go_at_call 197; ((with_reducible refine (HQ.out _).mono ?_); rintro e w' ⟨rfl, rfl⟩)))
      go_ret2
      exact ⟨by rw [hWE.out]; rfl, G⟩
     | false =>
      have hok : OK = false := by
       rw [← HOK.out, decide_eq_true hpos, Bool.true_and]
       apply decide_eq_false
       intro h
       rw [Num.vld_of (by omega) h] at hv
       cases hv
      rw [hv] at HV
      subst hok
      clear hv HOK
      obtain ⟨rfl, rfl⟩ := HNo.out (by simp)
      clear HNo HYes
      go_wp2_with (first | (go_at_call 130; ((with_reducible refine (HK.out _).mono ?_); rintro e w' ⟨rfl, rfl⟩)) | (go_at_call 184; ((with_reducible refine (HS.out _).mono ?_); rintro e w' ⟨rfl, rfl⟩)) | (go_at_call 195; ((with_reducible refine (HV.out _).mono ?_); rintro e w' ⟨rfl, rfl⟩)) | (go_at_call 196; ((with_reducible refine (HF.out _).mono ?_); rintro e w' ⟨rfl, rfl⟩)) | (go_at_call 197; ((with_reducible refine (HQ.out _).mono ?_); rintro e w' ⟨rfl, rfl⟩)))
      go_ret2
      exact ⟨rfl, G⟩
    ·have hok : OK = false := by rw [← HOK.out, decide_eq_false hpos]; rfl
     subst hok
     clear HOK
     obtain ⟨rfl, rfl⟩ := HNo.out (by simp)
     clear HNo HYes
     go_wp2_with (first | (go_at_call 130; ((with_reducible refine (HK.out _).mono ?_); rintro e w' ⟨rfl, rfl⟩)) | (go_at_call 184; ((with_reducible refine (HS.out _).mono ?_); rintro e w' ⟨rfl, rfl⟩)) | (go_at_call 195; ((with_reducible refine (HV.out _).mono ?_); rintro e w' ⟨rfl, rfl⟩)) | (go_at_call 196; ((with_reducible refine (HF.out _).mono ?_); rintro e w' ⟨rfl, rfl⟩)) | (go_at_call 197; ((with_reducible refine (HQ.out _).mono ?_); rintro e w' ⟨rfl, rfl⟩)))
     go_ret2
     exact ⟨rfl, G⟩
  ·obtain ⟨hne, hne2⟩ := str_ne (T := S) (by omega)
   rw [hne, Bool.false_and] at hOK
   subst hOK
   clear hS0
   go_enter Tryz.func145, Tryz.ntmps145
   go_upto_region 3 with (fail)
   go_cut [4] (fun s wx => s = .bool W ∧ TkC wx w.heap.size 3 S i a ∧ Bel w wx)
   case first =>
    rcases HWd.out with ⟨rfl, h⟩ | ⟨rfl, h⟩ | ⟨h1, h2, h⟩
    ·have z1 : S.size = 0 := h
     obtain rfl := empty_str z1
     clear h z1
     go_quiet (fail)
     go_wp2_with fail
     go_meet
     exact ⟨rfl, TkC.on ((TkC.new w 3 i a ⟨#[]⟩ 54)) (Bel.drewN (Bel.refl _) _), Bel.drewN B1.out _⟩
    ·have z1 : 0 < S.size := by omega
     have z2 : decide ((S.size : Int) ≤ 24) = false := by simp; omega
     go_quiet (fail)
     go_wp2_with fail
     go_meet
     exact ⟨rfl, TkC.on ((TkC.new w 3 i a S 54)) (Bel.drewN (Bel.refl _) _), Bel.drewN B1.out _⟩
    ·have z1 : 0 < S.size := h1
     have z2 : decide ((S.size : Int) ≤ 24) = true := by simp; omega
     have z3 : decide (0 < S.size) = true := by simp; omega
     go_quiet ((go_at_call 129; exact Calls.quiet_of_same (turn (HR.out _))))
     go_wp2_with fail
     go_meet
     exact ⟨by rw [← h], TkC.on ((TkC.new w 3 i a S 54)) (Bel.drewN (Bel.refl _) _), Bel.drewN B1.out _⟩
   case rest =>
    obtain ⟨rfl, ⟨c1, c2, c3, c4, f1, f2, f3, f4⟩, G⟩ := hcut
    obtain ⟨rfl, rfl⟩ := HNo.out (by simp)
    clear HNo HYes
    go_wp2_with (first | (go_at_call 130; ((with_reducible refine (HK.out _).mono ?_); rintro e w' ⟨rfl, rfl⟩)) | (go_at_call 184; ((with_reducible refine (HS.out _).mono ?_); rintro e w' ⟨rfl, rfl⟩)) | (go_at_call 195; ((with_reducible refine (HV.out _).mono ?_); rintro e w' ⟨rfl, rfl⟩)) | (go_at_call 196; ((with_reducible refine (HF.out _).mono ?_); rintro e w' ⟨rfl, rfl⟩)) | (go_at_call 197; ((with_reducible refine (HQ.out _).mono ?_); rintro e w' ⟨rfl, rfl⟩)))
    go_ret2
    exact ⟨rfl, G⟩
 by_cases hk4 : k = 4
 ·subst hk4
  rw [if_neg (by decide), if_neg (by decide), if_neg (by decide), if_neg (by decide), if_neg (by decide), if_pos rfl] at hOK
  rw [if_neg (by decide), if_neg (by decide), if_pos rfl] at hWR
  by_cases hi0 : i = 0
  ·subst hi0
   simp only [beq_self_eq_true, Bool.true_and] at hOK
   have hE := Lib.hid hWR
   have hq : quoV S.toList = if S.toList.all printB then .returned (.tuple #[.string ⟨WR.toArray⟩, .bool (decide (S.size ≤ 200))]) else .returned (.tuple #[.string ⟨#[]⟩, .bool false]) := by unfold quoV; rw [toL_len, ← hWR]
   rw [hq] at HQ
   rw [toL_len] at hOK
   generalize S.toList.all printB = PB at hOK HQ
   subst hOK
   clear hWR hq

   go_enter Tryz.func145, Tryz.ntmps145
   go_upto_region 3 with (fail)
   go_cut [4] (fun s wx => s = .bool W ∧ TkC wx w.heap.size 4 S 0 a ∧ Bel w wx)
   case first =>
    rcases HWd.out with ⟨rfl, h⟩ | ⟨rfl, h⟩ | ⟨h1, h2, h⟩
    ·have z1 : S.size = 0 := h
     obtain rfl := empty_str z1
     clear h z1
     go_quiet (fail)
     go_wp2_with fail
     go_meet
     exact ⟨rfl, TkC.on ((TkC.new w 4 0 a ⟨#[]⟩ 54)) (Bel.drewN (Bel.refl _) _), Bel.drewN B1.out _⟩
    ·have z1 : 0 < S.size := by omega
     have z2 : decide ((S.size : Int) ≤ 24) = false := by simp; omega
     go_quiet (fail)
     go_wp2_with fail
     go_meet
     exact ⟨rfl, TkC.on ((TkC.new w 4 0 a S 54)) (Bel.drewN (Bel.refl _) _), Bel.drewN B1.out _⟩
    ·have z1 : 0 < S.size := h1
     have z2 : decide ((S.size : Int) ≤ 24) = true := by simp; omega
     have z3 : decide (0 < S.size) = true := by simp; omega
     go_quiet ((go_at_call 129; exact Calls.quiet_of_same (turn (HR.out _))))
     go_wp2_with fail
     go_meet
     exact ⟨by rw [← h], TkC.on ((TkC.new w 4 0 a S 54)) (Bel.drewN (Bel.refl _) _), Bel.drewN B1.out _⟩
   case rest =>
    obtain ⟨rfl, ⟨c1, c2, c3, c4, f1, f2, f3, f4⟩, G⟩ := hcut
    cases PB with
    | false =>
     rw [if_neg (by decide)] at HQ
     simp only [Bool.false_and] at HNo HYes

     obtain ⟨rfl, rfl⟩ := HNo.out (by simp)
     clear HNo HYes
     go_wp2_with (first | (go_at_call 130; ((with_reducible refine (HK.out _).mono ?_); rintro e w' ⟨rfl, rfl⟩)) | (go_at_call 184; ((with_reducible refine (HS.out _).mono ?_); rintro e w' ⟨rfl, rfl⟩)) | (go_at_call 195; ((with_reducible refine (HV.out _).mono ?_); rintro e w' ⟨rfl, rfl⟩)) | (go_at_call 196; ((with_reducible refine (HF.out _).mono ?_); rintro e w' ⟨rfl, rfl⟩)) | (go_at_call 197; ((with_reducible refine (HQ.out _).mono ?_); rintro e w' ⟨rfl, rfl⟩)))
     go_ret2
     exact ⟨rfl, G⟩
    | true =>
     rw [if_pos rfl] at HQ
     simp only [Bool.true_and] at HNo HYes
     by_cases h200 : S.size ≤ 200
     ·rw [decide_eq_true h200] at HQ HNo HYes
      obtain ⟨y1, rfl⟩ := HYes.out (by simp)
      subst y1
      clear HNo HYes
      go_wp2_with (first | (go_at_call 130; ((with_reducible refine (HK.out _).mono ?_); rintro e w' ⟨rfl, rfl⟩)) | (go_at_call 184; ((with_reducible refine (HS.out _).mono ?_); rintro e w' ⟨rfl, rfl⟩)) | (go_at_call 195; ((with_reducible refine (HV.out _).mono ?_); rintro e w' ⟨rfl, rfl⟩)) | (go_at_call 196; ((with_reducible refine (HF.out _).mono ?_); rintro e w' ⟨rfl, rfl⟩)) | (go_at_call 197; ((with_reducible refine (HQ.out _).mono ?_); rintro e w' ⟨rfl, rfl⟩)))
      go_ret2
      exact ⟨rfl, G⟩
     ·rw [decide_eq_false h200] at HQ HNo HYes
      obtain ⟨rfl, rfl⟩ := HNo.out (by simp)
      clear HNo HYes
      go_wp2_with (first | (go_at_call 130; ((with_reducible refine (HK.out _).mono ?_); rintro e w' ⟨rfl, rfl⟩)) | (go_at_call 184; ((with_reducible refine (HS.out _).mono ?_); rintro e w' ⟨rfl, rfl⟩)) | (go_at_call 195; ((with_reducible refine (HV.out _).mono ?_); rintro e w' ⟨rfl, rfl⟩)) | (go_at_call 196; ((with_reducible refine (HF.out _).mono ?_); rintro e w' ⟨rfl, rfl⟩)) | (go_at_call 197; ((with_reducible refine (HQ.out _).mono ?_); rintro e w' ⟨rfl, rfl⟩)))
      go_ret2
      exact ⟨rfl, G⟩
  ·have hnz : ((i : Int) != 0) = true := by simpa using hi0
   have hz : (i == 0) = false := by simpa using hi0
   rw [hz, Bool.false_and] at hOK
   have hOK2 : ¬ OK = true := by rw [← hOK]; decide
   obtain ⟨rfl, rfl⟩ := HNo.out hOK2
   clear hOK hOK2 HNo HYes hWR hi0 hz
   go_enter Tryz.func145, Tryz.ntmps145
   go_wp2
   go_ret2
   exact ⟨rfl, B1.out⟩
 simp only [hk1, hk2, hk5, hk6, hk3, hk4, if_false] at hOK
 subst hOK
 have e1 : (k == 1) = false := by simpa using hk1
 have e2 : (k == 2) = false := by simpa using hk2
 have e3 : (k == 3) = false := by simpa using hk3
 have e4 : (k == 4) = false := by simpa using hk4
 have e5 : (k == 5) = false := by simpa using hk5
 have e6 : (k == 6) = false := by simpa using hk6
 have e7 : (k != 3) = true := by simpa using hk3
 clear hk1 hk2 hk3 hk4 hk5 hk6 hWR
 by_cases hi0 : i = 0
 ·subst hi0
  go_enter Tryz.func145, Tryz.ntmps145
  go_upto_region 3 with (fail)
  go_cut [4] (fun s wx => s = .bool W ∧ TkC wx w.heap.size k S 0 a ∧ Bel w wx)
  case first =>
   rcases HWd.out with ⟨rfl, h⟩ | ⟨rfl, h⟩ | ⟨h1, h2, h⟩
   ·have z1 : S.size = 0 := h
    obtain rfl := empty_str z1
    clear h z1
    go_quiet (fail)
    go_wp2_with fail
    go_meet
    exact ⟨rfl, TkC.on ((TkC.new w k 0 a ⟨#[]⟩ 54)) (Bel.drewN (Bel.refl _) _), Bel.drewN B1.out _⟩
   ·have z1 : 0 < S.size := by omega
    have z2 : decide ((S.size : Int) ≤ 24) = false := by simp; omega
    go_quiet (fail)
    go_wp2_with fail
    go_meet
    exact ⟨rfl, TkC.on ((TkC.new w k 0 a S 54)) (Bel.drewN (Bel.refl _) _), Bel.drewN B1.out _⟩
   ·have z1 : 0 < S.size := h1
    have z2 : decide ((S.size : Int) ≤ 24) = true := by simp; omega
    have z3 : decide (0 < S.size) = true := by simp; omega
    go_quiet ((go_at_call 129; exact Calls.quiet_of_same (turn (HR.out _))))
    go_wp2_with fail
    go_meet
    exact ⟨by rw [← h], TkC.on ((TkC.new w k 0 a S 54)) (Bel.drewN (Bel.refl _) _), Bel.drewN B1.out _⟩
  case rest =>
   obtain ⟨rfl, ⟨c1, c2, c3, c4, f1, f2, f3, f4⟩, G⟩ := hcut
   obtain ⟨rfl, rfl⟩ := HNo.out (by simp)
   clear HNo HYes
   go_wp2_with (first | (go_at_call 130; ((with_reducible refine (HK.out _).mono ?_); rintro e w' ⟨rfl, rfl⟩)) | (go_at_call 184; ((with_reducible refine (HS.out _).mono ?_); rintro e w' ⟨rfl, rfl⟩)) | (go_at_call 195; ((with_reducible refine (HV.out _).mono ?_); rintro e w' ⟨rfl, rfl⟩)) | (go_at_call 196; ((with_reducible refine (HF.out _).mono ?_); rintro e w' ⟨rfl, rfl⟩)) | (go_at_call 197; ((with_reducible refine (HQ.out _).mono ?_); rintro e w' ⟨rfl, rfl⟩)))
   go_ret2
   exact ⟨rfl, G⟩
 ·have hnz : ((i : Int) != 0) = true := by simpa using hi0
  obtain ⟨rfl, rfl⟩ := HNo.out (by simp)
  clear HNo HYes hi0
  go_enter Tryz.func145, Tryz.ntmps145
  go_wp2
  go_ret2
  exact ⟨rfl, B1.out⟩
end Lex
end Go.Proofs.YtcapkeaedpabjaaGreatDoor

/-
 Layer 7: Join, in the code and in the reference.
-/
namespace Go.Proofs.YtcapkeaedpabjaaGreatDoor
open Go.RowKit Go.ChangeShapes Go.WideShapes
namespace Lex

theorem info_str : (Tryz.prog.info? 9).map (fun i => (i.zero, i.size, i.bytes)) = some (some (.string ByteArray.empty), 1, 16) := by kernel_rfl
end Lex
end Go.Proofs.YtcapkeaedpabjaaGreatDoor
