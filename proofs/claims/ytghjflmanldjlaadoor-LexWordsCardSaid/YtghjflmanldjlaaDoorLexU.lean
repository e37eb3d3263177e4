/-
  Layer 7, the code: Text.
-/
import Derived.Test.YtghjflmanldjlaaDoorLexT
namespace Go.Proofs.YtghjflmanldjlaaDoor
open Go.RowKit Go.ChangeShapes Go.WideShapes
namespace Lex

/-- What == says of two tokens. -/
theorem eq_tok (a b : Int) (x y : ByteArray) (c d e f : Int) (w : World) : (Op.equalIn 10000 31 (.agg #[.int .i64 a, .string x, .int .i64 c, .int .i64 e]) (.agg #[.int .i64 b, .string y, .int .i64 d, .int .i64 f])).run Tryd.prog w = .ok (a == b && (x.toList == y.toList && (c == d && e == f))) w := by
  have hS : Tryd.prog.underlying 31 = some (.struct (Tryd.prog.fieldsOf 31)) := by kernel_rfl
  rw [show (10000 : Nat) = 9999 + 1 from rfl, run_equalIn_agg w 9999 31 _ _ hS (by kernel_rfl)]
  simp only [Program.fieldsOf, Tryd.underlying31]
  have u3 := Tryd.underlying3
  have u9 := Tryd.underlying9
  have uK := Tryd.underlying29
  go_simp
  by_cases h1 : a = b <;> by_cases h2 : c = d <;> by_cases h3 : x.toList = y.toList <;> by_cases h4 : e = f <;> simp [h1, h2, h3, h4]
@[go_sem] theorem guard_tok : Tryd.prog.eqGuardType Tryd.prog.depth 31 = false := by kernel_rfl
theorem txt_no {t : Tk} (h : ¬ okT t = true) : txtT t = [] ∧ txtE t = 1 := by
  unfold txtT txtE
  rw [if_neg h, if_neg h]
  exact ⟨rfl, rfl⟩
theorem txt_yes {t : Tk} (h : okT t = true) : txtT t = wrt t ∧ txtE t = 0 := by
  unfold txtT txtE
  rw [if_pos h, if_pos h]
  exact ⟨rfl, rfl⟩
theorem cell_off {w : World} {b b' o o' : Nat} {v u : Value} (h : w.cell? ⟨b, o, none⟩ = some v) (hne : b' ≠ b) : (w.setCell ⟨b', o', none⟩ u).cell? ⟨b, o, none⟩ = some v := by
  rw [World.cell?_setCell_other _ _ _ _ (fun h => hne (Addr.mk.inj h).1)]
  exact h
set_option maxRecDepth 100000 in
set_option maxHeartbeats 4000000 in
theorem text_any (k i a : Int) (S : ByteArray) (hi : -9223372036854775808 ≤ i ∧ i ≤ 9223372036854775807) (hs : S.size ≤ 1000) (w : World) (hm : ML w) :
    Calls Tryd.prog 14 #[.agg #[.int .i64 k, .string S, .int .i64 i, .int .i64 a]] w fun e w' => e = .returned (.tuple #[.string ⟨(txtT ⟨k, S.toList, i, a⟩).toArray⟩, .int .i64 (txtE ⟨k, S.toList, i, a⟩)]) ∧ Bel w w' := by
  have hlen : okT ⟨k, S.toList, i, a⟩ = true → S.size ≤ 200 := fun h => by have := (ok_len h).1; rw [toL_len] at this; exact this
  have hcode := txt_code ⟨k, S.toList, i, a⟩
  have hno := @txt_no ⟨k, S.toList, i, a⟩
  have hyes := @txt_yes ⟨k, S.toList, i, a⟩
  have HW := Lib.hid (fun w hm => written_any k i a S hi hs w hm)
  dsimp only at hcode
  obtain ⟨WT, hWT⟩ : ∃ WT : ByteArray, ⟨(wrt ⟨k, S.toList, i, a⟩).toArray⟩ = WT := ⟨_, rfl⟩
  have hWl : WT.toList = wrt ⟨k, S.toList, i, a⟩ := by rw [← hWT]; exact tl _
  rw [hWT] at HW
  rw [← hWl] at hcode hyes
  generalize okT ⟨k, S.toList, i, a⟩ = B at hlen hcode hno hyes
  generalize txtT ⟨k, S.toList, i, a⟩ = TT at hno hyes ⊢
  generalize txtE ⟨k, S.toList, i, a⟩ = TE at hno hyes ⊢
  have B1 := Lib.hid (Bel.alloc (Bel.refl w) (.cells #[.int .i64 k, .string S, .int .i64 i, .int .i64 a] 31))
  have M1 := Lib.hid (hm.on B1.out)
  have K1 := Lib.hid (TkC.new w k i a S 31)
  clear hWT hWl hm hi
  by_cases h2 : 200 < S.size
  · obtain ⟨rfl, rfl⟩ := hno (fun h => by have := hlen h; omega)
    clear hlen hcode hno hyes
    go_enter Tryd.func14, Tryd.ntmps14
    go_wp2
    go_ret2
    exact ⟨rfl, B1.out⟩
  have HT := Lib.hid (fun w => tokens_any WT w)
  obtain ⟨R, hR⟩ : ∃ R, tokens WT.toList = R := ⟨_, rfl⟩
  rw [hR] at HT hcode
  have HCo := Lib.hid hcode
  have HNo := Lib.hid hno
  have HYes := Lib.hid hyes
  clear hR hlen hcode hno hyes
  go_enter Tryd.func14, Tryd.ntmps14
  go_wp2_with fail
  refine (HW.out _ M1.out).mono ?_
  rintro e w2 ⟨rfl, g2⟩
  have K2 := Lib.hid (K1.out.on g2)
  have G2 := Lib.hid (Bel.trans B1.out g2)
  clear g2 HW K1 M1 B1
  go_wp2_with fail
  refine (HT.out _).mono ?_
  rintro e w3 ⟨⟨o, n, c, rfl, hA, hnc, hfr⟩, g3⟩
  have K3 := Lib.hid (K2.out.on g3)
  have G3 := Lib.hid (Bel.trans G2.out g3)
  have hsz : Hid (w.heap.size < w2.heap.size) := Lib.hid (cell_lt K2.out.1)
  have HA := Lib.hid hA
  have HFr := Lib.hid hfr
  clear g3 HT K2 G2 hA hfr
  obtain ⟨s1, s2, s3, s4, f1, f2, f3, f4⟩ := K3.out
  go_upto_region 6 with (fail)
  have c1 : (w3.setCell ⟨w.heap.size, 3, none⟩ (.int .i64 0)).cell? ⟨w.heap.size, 0, none⟩ = some (.int .i64 k) := by rw [World.cell?_setCell_other _ _ _ _ (fun h => by cases (Addr.mk.inj h).2.1)]; exact s1
  have c2 : (w3.setCell ⟨w.heap.size, 3, none⟩ (.int .i64 0)).cell? ⟨w.heap.size, 1, none⟩ = some (.string S) := by rw [World.cell?_setCell_other _ _ _ _ (fun h => by cases (Addr.mk.inj h).2.1)]; exact s2
  have c3 : (w3.setCell ⟨w.heap.size, 3, none⟩ (.int .i64 0)).cell? ⟨w.heap.size, 2, none⟩ = some (.int .i64 i) := by rw [World.cell?_setCell_other _ _ _ _ (fun h => by cases (Addr.mk.inj h).2.1)]; exact s3
  have c4 : (w3.setCell ⟨w.heap.size, 3, none⟩ (.int .i64 0)).cell? ⟨w.heap.size, 3, none⟩ = some (.int .i64 0) := World.cell?_setCell_same _ _ _ s4
  have G : Bel w (w3.setCell ⟨w.heap.size, 3, none⟩ (.int .i64 0)) := G3.out.setCell (Nat.le_refl _) _
  by_cases he : R.e = 0
  · by_cases hn : n = 1
    · subst hn
      obtain ⟨b, rfl, hb⟩ := HFr.out (by omega)
      obtain ⟨b', off, hbo, hcells⟩ := HA.out.2 (by omega)
      simp only [Option.some.injEq, Addr.mk.injEq, and_true] at hbo
      obtain ⟨rfl, rfl⟩ := hbo
      have hl1 := HA.out.1
      obtain ⟨u, hu⟩ : ∃ u, R.l = [u] := by
        cases hx : R.l with
        | nil => rw [hx] at hl1; cases hl1
        | cons u q =>
          rw [hx] at hl1
          cases q with
          | nil => exact ⟨u, rfl⟩
          | cons z y => simp at hl1
      have hne : w.heap.size ≠ b := by have := hsz.out; omega
      have ht := hcells 0 (by omega)
      simp only [hu, List.getElem_cons_zero, Nat.zero_mul, Nat.add_zero] at ht
      obtain ⟨x1, x2, x3, x4⟩ := ht
      have d1 := cell_off (o' := 3) (u := .int .i64 0) x1 hne
      have d2 := cell_off (o' := 3) (u := .int .i64 0) x2 hne
      have d3 := cell_off (o' := 3) (u := .int .i64 0) x3 hne
      have d4 := cell_off (o' := 3) (u := .int .i64 0) x4 hne
      obtain ⟨uk, us, ui, ua⟩ := u
      dsimp only at d1 d2 d3 d4
      obtain ⟨US, hUS⟩ : ∃ US : ByteArray, ⟨us.toArray⟩ = US := ⟨_, rfl⟩
      have hUl : us = US.toList := by rw [← hUS]; exact (tl _).symm
      rw [hUS] at d2
      rw [hUl] at hu
      simp only [Nat.zero_add] at d1 d2 d3 d4
      have heq := eq_tok uk k US S ui i ua 0
      have heR := Lib.hid he
      have huR := Lib.hid hu
      have hez : ((R.e : Int) != 0) = false := by rw [he]; rfl
      clear x1 x2 x3 x4 s1 s2 s3 s4 hcells hl1 hUS hUl he hu hb hne f1 f2 f3 f4 K3 HA HFr hsz
      cases hv : (uk == k && (US.toList == S.toList && (ui == i && ua == 0))) with
      | true =>
        rw [hv] at heq
        have hB : B = true := HCo.out.2 ⟨heR.out, by
          rw [huR.out]
          simp only [Bool.and_eq_true, beq_iff_eq] at hv
          obtain ⟨rfl, h1, rfl, rfl⟩ := hv
          rw [h1]⟩
        obtain ⟨y1, rfl⟩ := HYes.out hB
        have hTT : Hid (⟨TT.toArray⟩ = WT) := Lib.hid (by rw [y1, str_back])
        clear hv hB y1 HCo HNo HYes heR huR
        go_region_held3 (fun w' => (w'.cell? ⟨b, 0, none⟩ = some (.int .i64 uk) ∧ w'.cell? ⟨b, 1, none⟩ = some (.string US) ∧ w'.cell? ⟨b, 2, none⟩ = some (.int .i64 ui) ∧ w'.cell? ⟨b, 3, none⟩ = some (.int .i64 ua)) ∧ (w'.cell? ⟨w.heap.size, 0, none⟩ = some (.int .i64 k) ∧ w'.cell? ⟨w.heap.size, 1, none⟩ = some (.string S) ∧ w'.cell? ⟨w.heap.size, 2, none⟩ = some (.int .i64 i) ∧ w'.cell? ⟨w.heap.size, 3, none⟩ = some (.int .i64 0)) ∧ Bel w w') (exact ⟨⟨d1, d2, d3, d4⟩, ⟨c1, c2, c3, c4⟩, Below.drew G⟩) (fail)
        obtain ⟨_, _, G5⟩ := ‹(_ ∧ _) ∧ (_ ∧ _) ∧ Bel w _›
        have G6 := Lib.hid G5
        clear G5
        go_wp2_with fail
        go_ret2
        exact ⟨by rw [hTT.out]; rfl, G6.out⟩
      | false =>
        rw [hv] at heq
        have hB : ¬ B = true := fun hB => by
          have h1 := (HCo.out.1 hB).2
          rw [huR.out] at h1
          simp only [List.cons.injEq, Tk.mk.injEq, and_true] at h1
          obtain ⟨rfl, h2, rfl, rfl⟩ := h1
          rw [h2] at hv
          simp at hv
        obtain ⟨rfl, rfl⟩ := HNo.out hB
        clear hv hB HCo HNo HYes heR huR
        go_region_held3 (fun w' => (w'.cell? ⟨b, 0, none⟩ = some (.int .i64 uk) ∧ w'.cell? ⟨b, 1, none⟩ = some (.string US) ∧ w'.cell? ⟨b, 2, none⟩ = some (.int .i64 ui) ∧ w'.cell? ⟨b, 3, none⟩ = some (.int .i64 ua)) ∧ (w'.cell? ⟨w.heap.size, 0, none⟩ = some (.int .i64 k) ∧ w'.cell? ⟨w.heap.size, 1, none⟩ = some (.string S) ∧ w'.cell? ⟨w.heap.size, 2, none⟩ = some (.int .i64 i) ∧ w'.cell? ⟨w.heap.size, 3, none⟩ = some (.int .i64 0)) ∧ Bel w w') (exact ⟨⟨d1, d2, d3, d4⟩, ⟨c1, c2, c3, c4⟩, Below.drew G⟩) (fail)
        obtain ⟨_, _, G5⟩ := ‹(_ ∧ _) ∧ (_ ∧ _) ∧ Bel w _›
        have G6 := Lib.hid G5
        clear G5
        go_wp2_with fail
        go_ret2
        exact ⟨rfl, G6.out⟩
    · have hB : ¬ B = true := fun hB => by
        have h1 := (HCo.out.1 hB).2
        have h2 := HA.out.1
        rw [h1] at h2
        exact hn h2.symm
      obtain ⟨rfl, rfl⟩ := HNo.out hB
      have hez : ((R.e : Int) != 0) = false := by rw [he]; rfl
      have hnz : ((n : Int) != 1) = true := by simp; omega
      clear hB HCo HNo HYes hn he s1 s2 s3 s4 K3 HA HFr hsz f1 f2 f3 f4
      have G6 := Lib.hid G
      go_quiet (fail)
      go_wp2_with fail
      go_ret2
      exact ⟨rfl, Bel.drewN G6.out _⟩
  · have hB : ¬ B = true := fun hB => he (HCo.out.1 hB).1
    obtain ⟨rfl, rfl⟩ := HNo.out hB
    have hez : ((R.e : Int) != 0) = true := by simpa using he
    clear hB HCo HNo HYes he s1 s2 s3 s4 K3 HA HFr hsz f1 f2 f3 f4
    have G6 := Lib.hid G
    go_quiet (fail)
    go_wp2_with fail
    go_ret2
    exact ⟨rfl, Bel.drewN G6.out _⟩
end Lex
end Go.Proofs.YtghjflmanldjlaaDoor
