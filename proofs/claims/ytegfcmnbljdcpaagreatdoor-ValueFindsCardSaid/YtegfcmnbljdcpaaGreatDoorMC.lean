/-
  Layer 6, texts merged: the reference's Text, Check and builders. For every argument within the bounds that each theorem names.
-/
import Derived.Test.YtegfcmnbljdcpaaGreatDoorMB
import Derived.Test.YtegfcmnbljdcpaaGreatDoorMA
import Derived.Test.YtegfcmnbljdcpaaGreatDoorShelf
import Derived.Lib.ItoaLen
import Derived.Laws.OwnMore

/-
  Layer 6, the reference: Text.
-/
namespace Go.Proofs.YtegfcmnbljdcpaaGreatDoor
open Go.RowKit
namespace Val
open Go.Lib (itoa)

theorem esc_ge (l : Txt) : l.length ≤ (esc l).length := by
  induction l with
  | nil => exact Nat.le_refl _
  | cons x l ih =>
    rw [esc]
    split
    · simp only [List.length_cons]; omega
    · simp only [List.length_cons]; omega
def TextI (l : List Cel) (t : V) : Prop := ∀ (o : Option Addr) (n c i : Nat) (r : List Cel), l.drop i = flat t ++ r → wf t = true → (text t).length ≤ 1099511627776 → n ≤ 1000000 → ∀ w : World, Lad w → CArg w o n l →
  Calls Tryz.prog 53 #[.slice o n c, .int .i64 (i : Int)] w fun e w' => e = .returned (.string ⟨(text t).toArray⟩) ∧ Bel w w'
theorem itoa_any (z : Int) (h1 : -9223372036854775808 ≤ z) (h2 : z ≤ 9223372036854775807) (X : ByteArray) (hX : ⟨(itoa z).toArray⟩ = X) (W : World) (hL : Lad W) :
    Calls Tryz.prog 80 #[.int .i64 z] W fun e w' => e = .returned (.string X) ∧ Bel W w' :=
  (Tryz.strconv_Itoa z (by omega) (by omega) W hL.pow).mono fun _ _ ⟨he, k, os, hw⟩ => ⟨by rw [he, ← hX], hw ▸ Bel.grow W k os⟩
set_option maxRecDepth 100000 in
set_option maxHeartbeats 1000000 in
theorem text_null (l : List Cel) : TextI l .null := by
  intro o n c i r hd hw hlen hn w hL hA
  have hl := hA.1
  rw [flat, List.singleton_append] at hd
  obtain ⟨hi, hc, hd2⟩ := cell_of hd
  obtain ⟨b, off, rfl, hcs⟩ := hA.2.2 (by omega)
  obtain ⟨c1, c2, c3, c4⟩ := hcs i hi
  rw [hc] at c1 c2 c3 c4
  simp only at c1 c2 c3 c4
  clear hcs hA hd hd2 hc hlen hw hL
  go_enter Tryz.func53, Tryz.ntmps53
  go_wp2
  go_ret
  exact ⟨rfl, Bel.alloc (Bel.refl _) _⟩
set_option maxRecDepth 100000 in
set_option maxHeartbeats 1000000 in
theorem text_bool (l : List Cel) (v : Bool) : TextI l (.bool v) := by
  intro o n c i r hd hw hlen hn w hL hA
  have hl := hA.1
  rw [flat, List.singleton_append] at hd
  obtain ⟨hi, hc, hd2⟩ := cell_of hd
  obtain ⟨b, off, rfl, hcs⟩ := hA.2.2 (by omega)
  obtain ⟨c1, c2, c3, c4⟩ := hcs i hi
  rw [hc] at c1 c2 c3 c4
  simp only at c1 c2 c3 c4
  clear hcs hA hd hd2 hc hlen hw hL
  cases v
  all_goals
    simp only [Bool.false_eq_true, if_false, if_true] at c2
    go_enter Tryz.func53, Tryz.ntmps53
    go_wp2
    go_ret
    exact ⟨rfl, Bel.alloc (Bel.refl _) _⟩
set_option maxRecDepth 100000 in
set_option maxHeartbeats 1000000 in
theorem text_int (l : List Cel) (z : Int) : TextI l (.int z) := by
  intro o n c i r hd hw hlen hn w hL hA
  have hl := hA.1
  rw [flat, List.singleton_append] at hd
  obtain ⟨hi, hc, hd2⟩ := cell_of hd
  have hfit := hA.2.1 l[i] (List.getElem_mem hi)
  rw [hc] at hfit
  obtain ⟨b, off, rfl, hcs⟩ := hA.2.2 (by omega)
  obtain ⟨c1, c2, c3, c4⟩ := hcs i hi
  rw [hc] at c1 c2 c3 c4
  simp only at c1 c2 c3 c4
  rw [text]
  obtain ⟨X, hX⟩ : ∃ X : ByteArray, ⟨(itoa z).toArray⟩ = X := ⟨_, rfl⟩
  have HI := Lib.hid (fun W h => itoa_any z hfit.2.1.1 hfit.2.1.2 X hX W h)
  rw [hX]
  have HL := Lib.hid hL
  clear hcs hA hd hd2 hc hlen hw hL hfit hX
  go_enter Tryz.func53, Tryz.ntmps53
  go_wp2_with (go_at_call 80; ((with_reducible refine (HI.out _ (HL.out.on (Bel.alloc (Bel.refl _) _))).mono ?_); rintro e w' ⟨rfl, g1⟩))
  go_ret
  exact ⟨rfl, Bel.trans (Bel.alloc (Bel.refl _) _) g1⟩
set_option maxRecDepth 100000 in
set_option maxHeartbeats 1000000 in
theorem text_str (l : List Cel) (s : Txt) : TextI l (.str s) := by
  intro o n c i r hd hw hlen hn w hL hA
  have hl := hA.1
  rw [flat, List.singleton_append] at hd
  obtain ⟨hi, hc, hd2⟩ := cell_of hd
  have hfit := hA.2.1 l[i] (List.getElem_mem hi)
  rw [hc] at hfit
  obtain ⟨b, off, rfl, hcs⟩ := hA.2.2 (by omega)
  obtain ⟨c1, c2, c3, c4⟩ := hcs i hi
  rw [hc] at c1 c2 c3 c4
  simp only at c1 c2 c3 c4
  rw [text]
  rw [text] at hlen
  obtain ⟨X, hX⟩ : ∃ X : ByteArray, ⟨s.toArray⟩ = X := ⟨_, rfl⟩
  have hXl : X.toList = s := by rw [← hX, tl]
  rw [hX] at c3
  have hs : X.size ≤ 1099511627776 := by
    rw [← toL_len, hXl]
    have := esc_ge s
    unfold quo at hlen
    simp only [List.length_cons, List.length_append] at hlen
    omega
  have HQ := Lib.hid (quoted_any X hs)
  rw [hXl] at HQ
  generalize (⟨(quo s).toArray⟩ : ByteArray) = Q at HQ ⊢
  clear hcs hA hd hd2 hc hlen hw hL hfit hX hXl
  go_enter Tryz.func53, Tryz.ntmps53
  go_wp2_with (go_at_call 81; ((with_reducible refine (HQ.out _).mono ?_); rintro e w' ⟨rfl, rfl⟩))
  go_ret
  exact ⟨rfl, Bel.alloc (Bel.refl _) _⟩
end Val
end Go.Proofs.YtegfcmnbljdcpaaGreatDoor

/-
  Layer 6, the reference: Text of lists and maps.
-/
namespace Go.Proofs.YtegfcmnbljdcpaaGreatDoor
open Go.RowKit
namespace Val

/-- What is still to be written of a list of which k elements are written. -/
def restL (k : Nat) (q : L) : Txt := if k = 0 then textL q else moreL q
theorem restL_nil (k : Nat) : restL k .nil = [] := by unfold restL; split <;> rfl
theorem restL_cons (k : Nat) (v : V) (q : L) : restL k (.cons v q) = (if k = 0 then [] else [44]) ++ (text v ++ restL (k + 1) q) := by
  unfold restL
  rw [if_neg (by omega : ¬ k + 1 = 0)]
  split <;> rfl
theorem app_str (X Y : ByteArray) : (X ++ Y).toList = X.toList ++ Y.toList := by
  rw [toL, toL, toL]
  simp [ByteArray.data_append]
theorem size_str (X : ByteArray) : X.size = X.toList.length := (toL_len X).symm
set_option maxRecDepth 100000 in
set_option maxHeartbeats 4000000 in
theorem text_list (l : List Cel) (x : L) (hx : allL (TextI l) x) : TextI l (.list x) := by
  intro o n c i r hd hw hlen hn w hL hA
  have hl := hA.1
  have HA := Lib.hid hA
  rw [flat, List.cons_append] at hd
  obtain ⟨hi, hc, hd2⟩ := cell_of hd
  obtain ⟨b, off, rfl, hcs⟩ := hA.2.2 (by omega)
  obtain ⟨c1, c2, c3, c4⟩ := hcs i hi
  rw [hc] at c1 c2 c3 c4
  simp only at c1 c2 c3 c4
  rw [wf] at hw
  have hN : lenL x ≤ n := by
    have h1 := lenL_le x
    have h2 := congrArg List.length hd2
    rw [List.length_drop, List.length_append] at h2
    omega
  rw [text] at hlen ⊢
  simp only [List.length_cons, List.length_append] at hlen
  obtain ⟨N, hNx⟩ : ∃ N, lenL x = N := ⟨_, rfl⟩
  obtain ⟨G, hG⟩ : ∃ G, textL x = G := ⟨_, rfl⟩
  rw [hNx] at c4 hN
  rw [hG] at hlen ⊢
  have HX := Lib.hid hx
  have HD := Lib.hid hd2
  have HNx := Lib.hid hNx
  have HG := Lib.hid hG
  have HW := Lib.hid hw
  have HL := Lib.hid hL
  clear hcs hA hd hd2 hc hx hNx hG hw hL
  go_enter Tryz.func53, Tryz.ntmps53
  go_wp2
  go_loopw [6, 7, 8] (fun o' a' k' wr => ∃ (q : L) (j k : Nat) (O : ByteArray), o' = .string O ∧ a' = .int .i64 (j : Int) ∧ k' = .int .i64 (k : Int) ∧ k ≤ N ∧ j ≤ n ∧ Hid (k + lenL q = N) ∧ Hid (allL (TextI l) q) ∧ Hid (wfLX q) ∧ Hid (l.drop j = flatL q ++ r) ∧ Hid (O.toList ++ restL k q = G) ∧ Hid (Bel (w.alloc (.cells #[.int .i64 5, .int .i64 0, .string ⟨#[]⟩, .int .i64 (N : Int)] 43)) wr)) (fun _ _ k' _ => N - (intOf k').toNat)
  case atStart => exact ⟨x, i + 1, 0, ⟨#[]⟩, rfl, by go_num, rfl, Nat.zero_le _, by omega, Lib.hid (by rw [HNx.out]; omega), HX, HW, HD, Lib.hid (by rw [tl []]; exact HG.out), Lib.hid (Bel.refl _)⟩
  case round =>
    obtain ⟨q, j, k, O, rfl, rfl, rfl, hk, hj, hkq, hq, hwq, hdq, hmq, hb⟩ := hrel
    rename World => W0
    have d1 := hb.out.cell' (World.cell?_alloc_new w #[.int .i64 5, .int .i64 0, .string ⟨#[]⟩, .int .i64 (N : Int)] 43 0)
    have d4 := hb.out.cell' (World.cell?_alloc_new w #[.int .i64 5, .int .i64 0, .string ⟨#[]⟩, .int .i64 (N : Int)] 43 3)
    have hW := Below.trans (Bel.alloc (Bel.refl w) (.cells #[.int .i64 5, .int .i64 0, .string ⟨#[]⟩, .int .i64 (N : Int)] 43)) (Below.mono hb.out (Nat.le_of_lt (alloc_lt w _)))
    have hGl := congrArg List.length hmq.out
    rw [List.length_append, toL_len] at hGl
    cases q with
    | nil =>
      have hkn := hkq.out
      rw [lenL, Nat.add_zero] at hkn
      subst hkn
      have hmm := hmq.out
      rw [restL_nil, List.append_nil] at hmm
      have hz : Hid (((⟨#[91]⟩ : ByteArray) ++ O) ++ (⟨#[93]⟩ : ByteArray) = ⟨(91 :: (G ++ [93])).toArray⟩) := Lib.hid (by
        rw [← str_back (((⟨#[91]⟩ : ByteArray) ++ O) ++ (⟨#[93]⟩ : ByteArray)), app_str, app_str, hmm, tl [91], tl [93]]
        rfl)
      have z1 : (⟨#[91]⟩ : ByteArray).size = 1 := rfl
      have z2 : (⟨#[93]⟩ : ByteArray).size = 1 := rfl
      have zO : O.size ≤ 1099511627776 := by omega
      clear hkq hq hwq hdq hmq HNx HG HD HX HW hmm hGl hlen
      go_wp2
      go_ret
      exact ⟨by rw [← hz.out]; rfl, hW⟩
    | cons v q =>
      have hd2 := hdq.out
      rw [flatL, List.append_assoc] at hd2
      have hw2 := hwq.out
      unfold wfLX at hw2
      rw [wfL, Bool.and_eq_true] at hw2
      obtain ⟨e1, e2, e3⟩ := nx_flat hd2 hw2.1
      have hmm := hmq.out
      rw [restL_cons] at hmm
      rw [restL_cons] at hGl
      simp only [List.length_append] at hGl
      have hT := hq.out.1 (some ⟨b, off, none⟩) n c j _ hd2 hw2.1 (by omega) hn
      have HNx2 := next_all l l.length (some ⟨b, off, none⟩) n c j (by omega) (by omega) hn
      rw [e1] at HNx2
      have HN := Lib.hid HNx2
      have hq2 := Lib.hid hq.out.2
      have hwq2 : Hid (wfLX q) := Lib.hid hw2.2
      have hdq2 := Lib.hid e2
      have hkq2 : Hid (k + 1 + lenL q = N) := Lib.hid (by have := hkq.out; rw [lenL] at this; omega)
      have hkN : k < N := by have := hkq2.out; omega
      obtain ⟨J, hJ⟩ : ∃ J, j + (flat v).length = J := ⟨_, rfl⟩
      rw [hJ] at HN hdq2 e3
      obtain ⟨T, hTe⟩ : ∃ T : ByteArray, ⟨(text v).toArray⟩ = T := ⟨_, rfl⟩
      have hTl : T.toList = text v := by rw [← hTe, tl]
      rw [hTe] at hT
      have HT := Lib.hid hT
      rw [← hTl] at hmm
      have zT : T.size = (text v).length := by rw [← toL_len, hTl]
      have zs : O.size + T.size ≤ 1099511627776 := by omega
      have z44 : (⟨#[44]⟩ : ByteArray).size = 1 := rfl
      rcases Nat.eq_zero_or_pos k with rfl | hk0
      · rw [if_pos rfl, List.nil_append] at hmm
        have hmq2 : Hid ((O ++ T).toList ++ restL (0 + 1) q = G) := Lib.hid (by rw [app_str, List.append_assoc]; exact hmm)
        clear hkq hq hwq hdq hmq HNx HG HD HX HW hd2 hw2 e1 e2 HNx2 hmm hJ hTe hTl hT hGl hlen zT
        go_wp2_with fail
        refine (HT.out W0 (HL.out.on hW) (HA.out.on hW)).mono ?_
        rintro e w1 ⟨rfl, g1⟩
        go_wp2_with fail
        refine (HN.out w1 (HA.out.on (Bel.trans hW g1))).mono ?_
        rintro e w2 ⟨rfl, g2⟩
        go_wp2_with fail
        go_round
        case rel => exact ⟨q, J, 0 + 1, _, rfl, rfl, by go_num, by omega, by omega, hkq2, hq2, hwq2, hdq2, hmq2, Lib.hid (Bel.trans hb.out (Bel.trans g1 g2))⟩
        case measure => simp [intOf]; omega
      · rw [if_neg (by omega)] at hmm
        have hmq2 : Hid (((O ++ (⟨#[44]⟩ : ByteArray)) ++ T).toList ++ restL (k + 1) q = G) := Lib.hid (by
          rw [app_str, app_str, tl [44]]
          simpa using hmm)
        have hk1 : (0 : Int) < (k : Int) := by omega
        clear hkq hq hwq hdq hmq HNx HG HD HX HW hd2 hw2 e1 e2 HNx2 hmm hJ hTe hTl hT hGl hlen zT
        go_wp2_with fail
        refine (HT.out W0 (HL.out.on hW) (HA.out.on hW)).mono ?_
        rintro e w1 ⟨rfl, g1⟩
        go_wp2_with fail
        refine (HN.out w1 (HA.out.on (Bel.trans hW g1))).mono ?_
        rintro e w2 ⟨rfl, g2⟩
        go_wp2_with fail
        go_round
        case rel => exact ⟨q, J, k + 1, _, rfl, rfl, by go_num, by omega, by omega, hkq2, hq2, hwq2, hdq2, hmq2, Lib.hid (Bel.trans hb.out (Bel.trans g1 g2))⟩
        case measure => simp [intOf]; omega
/-- The same of a map. -/
def restM (k : Nat) (q : M) : Txt := if k = 0 then textM q else moreM q
theorem restM_nil (k : Nat) : restM k .nil = [] := by unfold restM; split <;> rfl
theorem restM_cons (k : Nat) (ky : Txt) (v : V) (q : M) : restM k (.cons ky v q) = (if k = 0 then [] else [44]) ++ (quo ky ++ 58 :: (text v ++ restM (k + 1) q)) := by
  unfold restM
  rw [if_neg (by omega : ¬ k + 1 = 0)]
  split <;> rfl
set_option maxRecDepth 100000 in
set_option maxHeartbeats 4000000 in
theorem text_map (l : List Cel) (x : M) (hx : allM (TextI l) x) : TextI l (.map x) := by
  intro o n c i r hd hw hlen hn w hL hA
  have hl := hA.1
  have HA := Lib.hid hA
  rw [flat, List.cons_append] at hd
  obtain ⟨hi, hc, hd2⟩ := cell_of hd
  obtain ⟨b, off, rfl, hcs⟩ := hA.2.2 (by omega)
  obtain ⟨c1, c2, c3, c4⟩ := hcs i hi
  rw [hc] at c1 c2 c3 c4
  simp only at c1 c2 c3 c4
  rw [wf] at hw
  have hN : lenM x ≤ n := by
    have h1 := lenM_le x
    have h2 := congrArg List.length hd2
    rw [List.length_drop, List.length_append] at h2
    omega
  rw [text] at hlen ⊢
  simp only [List.length_cons, List.length_append] at hlen
  obtain ⟨N, hNx⟩ : ∃ N, lenM x = N := ⟨_, rfl⟩
  obtain ⟨G, hG⟩ : ∃ G, textM x = G := ⟨_, rfl⟩
  rw [hNx] at c4 hN
  rw [hG] at hlen ⊢
  have HX := Lib.hid hx
  have HD := Lib.hid hd2
  have HNx := Lib.hid hNx
  have HG := Lib.hid hG
  have HW := Lib.hid hw
  have HL := Lib.hid hL
  clear hcs hA hd hd2 hc hx hNx hG hw hL
  go_enter Tryz.func53, Tryz.ntmps53
  go_wp2
  go_loopw [6, 7, 8] (fun o' a' k' wr => ∃ (q : M) (j k : Nat) (O : ByteArray), o' = .string O ∧ a' = .int .i64 (j : Int) ∧ k' = .int .i64 (k : Int) ∧ k ≤ N ∧ j ≤ n ∧ Hid (k + lenM q = N) ∧ Hid (allM (TextI l) q) ∧ Hid (wfMX q) ∧ Hid (l.drop j = flatM q ++ r) ∧ Hid (O.toList ++ restM k q = G) ∧ Hid (Bel (w.alloc (.cells #[.int .i64 6, .int .i64 0, .string ⟨#[]⟩, .int .i64 (N : Int)] 43)) wr)) (fun _ _ k' _ => N - (intOf k').toNat)
  case atStart => exact ⟨x, i + 1, 0, ⟨#[]⟩, rfl, by go_num, rfl, Nat.zero_le _, by omega, Lib.hid (by rw [HNx.out]; omega), HX, Lib.hid ⟨_, HW.out⟩, HD, Lib.hid (by rw [tl []]; exact HG.out), Lib.hid (Bel.refl _)⟩
  case round =>
    obtain ⟨q, j, k, O, rfl, rfl, rfl, hk, hj, hkq, hq, hwq, hdq, hmq, hb⟩ := hrel
    rename World => W0
    have d1 := hb.out.cell' (World.cell?_alloc_new w #[.int .i64 6, .int .i64 0, .string ⟨#[]⟩, .int .i64 (N : Int)] 43 0)
    have d4 := hb.out.cell' (World.cell?_alloc_new w #[.int .i64 6, .int .i64 0, .string ⟨#[]⟩, .int .i64 (N : Int)] 43 3)
    have hW := Below.trans (Bel.alloc (Bel.refl w) (.cells #[.int .i64 6, .int .i64 0, .string ⟨#[]⟩, .int .i64 (N : Int)] 43)) (Below.mono hb.out (Nat.le_of_lt (alloc_lt w _)))
    have hGl := congrArg List.length hmq.out
    rw [List.length_append, toL_len] at hGl
    cases q with
    | nil =>
      have hkn := hkq.out
      rw [lenM, Nat.add_zero] at hkn
      subst hkn
      have hmm := hmq.out
      rw [restM_nil, List.append_nil] at hmm
      have hz : Hid (((⟨#[123]⟩ : ByteArray) ++ O) ++ (⟨#[125]⟩ : ByteArray) = ⟨(123 :: (G ++ [125])).toArray⟩) := Lib.hid (by
        rw [← str_back (((⟨#[123]⟩ : ByteArray) ++ O) ++ (⟨#[125]⟩ : ByteArray)), app_str, app_str, hmm, tl [123], tl [125]]
        rfl)
      have z1 : (⟨#[123]⟩ : ByteArray).size = 1 := rfl
      have z2 : (⟨#[125]⟩ : ByteArray).size = 1 := rfl
      have zO : O.size ≤ 1099511627776 := by omega
      clear hkq hq hwq hdq hmq HNx HG HD HX HW hmm hGl hlen
      go_wp2
      go_ret
      exact ⟨by rw [← hz.out]; rfl, hW⟩
    | cons ky v q =>
      have hd1 := hdq.out
      rw [flatM, List.cons_append, List.append_assoc] at hd1
      obtain ⟨hj1, hjc, hd2⟩ := cell_of hd1
      obtain ⟨b', off', he', hcs'⟩ := (HA.out.on hW).2.2 (by omega)
      cases he'
      obtain ⟨-, -, c7, -⟩ := hcs' j hj1
      rw [hjc] at c7
      simp only at c7
      obtain ⟨KX, hKX⟩ : ∃ KX : ByteArray, ⟨ky.toArray⟩ = KX := ⟨_, rfl⟩
      have hKl : KX.toList = ky := by rw [← hKX, tl]
      rw [hKX] at c7
      obtain ⟨q0, hw1⟩ := hwq.out
      rw [wfM] at hw1
      simp only [Bool.and_eq_true] at hw1
      have hw2 : wf v = true ∧ wfM (some ky) q = true := ⟨hw1.1.2, hw1.2⟩
      clear hd1 hw1 hcs' hjc hKX
      obtain ⟨e1, e2, e3⟩ := nx_flat hd2 hw2.1
      have hmm := hmq.out
      rw [restM_cons] at hmm
      rw [restM_cons] at hGl
      simp only [List.length_append, List.length_cons] at hGl
      have hT := hq.out.1 (some ⟨b, off, none⟩) n c (j + 1) _ hd2 hw2.1 (by omega) hn
      have HNx2 := next_all l l.length (some ⟨b, off, none⟩) n c (j + 1) (by omega) (by omega) hn
      rw [e1] at HNx2
      have HN := Lib.hid HNx2
      have hq2 := Lib.hid hq.out.2
      have hwq2 : Hid (wfMX q) := Lib.hid ⟨_, hw2.2⟩
      have hdq2 := Lib.hid e2
      have hkq2 : Hid (k + 1 + lenM q = N) := Lib.hid (by have := hkq.out; rw [lenM] at this; omega)
      have hkN : k < N := by have := hkq2.out; omega
      obtain ⟨J, hJ⟩ : ∃ J, j + 1 + (flat v).length = J := ⟨_, rfl⟩
      rw [hJ] at HN hdq2 e3
      rw [show ((j + 1 : Nat) : Int) = (j : Int) + 1 by omega] at HN hT
      obtain ⟨T, hTe⟩ : ∃ T : ByteArray, ⟨(text v).toArray⟩ = T := ⟨_, rfl⟩
      have hTl : T.toList = text v := by rw [← hTe, tl]
      rw [hTe] at hT
      have HT := Lib.hid hT
      rw [← hTl] at hmm
      have hQ := quoted_any KX (by
        rw [size_str, hKl]
        have := esc_ge ky
        unfold quo at hGl
        simp only [List.length_cons, List.length_append] at hGl
        omega)
      obtain ⟨Q, hQe⟩ : ∃ Q : ByteArray, ⟨(quo KX.toList).toArray⟩ = Q := ⟨_, rfl⟩
      have hQl : Q.toList = quo ky := by rw [← hQe, tl, hKl]
      rw [hQe] at hQ
      have HQ := Lib.hid hQ
      rw [← hQl] at hmm
      have zQ : Q.size = (quo ky).length := by rw [← toL_len, hQl]
      have zT : T.size = (text v).length := by rw [← toL_len, hTl]
      have zs : O.size + Q.size + T.size ≤ 1099511627776 := by omega
      have z44 : (⟨#[44]⟩ : ByteArray).size = 1 := rfl
      have z58 : (⟨#[58]⟩ : ByteArray).size = 1 := rfl
      rcases Nat.eq_zero_or_pos k with rfl | hk0
      · rw [if_pos rfl, List.nil_append] at hmm
        have hmq2 : Hid ((((O ++ Q) ++ (⟨#[58]⟩ : ByteArray)) ++ T).toList ++ restM (0 + 1) q = G) := Lib.hid (by
          rw [app_str, app_str, app_str, tl [58]]
          simpa using hmm)
        clear hkq hq hwq hdq hmq HNx HG HD HX HW hd2 hw2 e1 e2 HNx2 hmm hJ hTe hTl hT hGl hlen zT hQ hQe hQl zQ hKl
        go_wp2_with fail
        refine (HQ.out W0).mono ?_
        rintro e w0 ⟨rfl, rfl⟩
        go_wp2_with fail
        refine (HT.out W0 (HL.out.on hW) (HA.out.on hW)).mono ?_
        rintro e w1 ⟨rfl, g1⟩
        go_wp2_with fail
        refine (HN.out w1 (HA.out.on (Bel.trans hW g1))).mono ?_
        rintro e w2 ⟨rfl, g2⟩
        go_wp2_with fail
        go_round
        case rel => exact ⟨q, J, 0 + 1, _, rfl, rfl, by go_num, by omega, by omega, hkq2, hq2, hwq2, hdq2, hmq2, Lib.hid (Bel.trans hb.out (Bel.trans g1 g2))⟩
        case measure => simp [intOf]; omega
      · rw [if_neg (by omega)] at hmm
        have hmq2 : Hid (((((O ++ (⟨#[44]⟩ : ByteArray)) ++ Q) ++ (⟨#[58]⟩ : ByteArray)) ++ T).toList ++ restM (k + 1) q = G) := Lib.hid (by
          rw [app_str, app_str, app_str, app_str, tl [44], tl [58]]
          simpa using hmm)
        have hk1 : (0 : Int) < (k : Int) := by omega
        clear hkq hq hwq hdq hmq HNx HG HD HX HW hd2 hw2 e1 e2 HNx2 hmm hJ hTe hTl hT hGl hlen zT hQ hQe hQl zQ hKl
        go_wp2_with fail
        refine (HQ.out W0).mono ?_
        rintro e w0 ⟨rfl, rfl⟩
        go_wp2_with fail
        refine (HT.out W0 (HL.out.on hW) (HA.out.on hW)).mono ?_
        rintro e w1 ⟨rfl, g1⟩
        go_wp2_with fail
        refine (HN.out w1 (HA.out.on (Bel.trans hW g1))).mono ?_
        rintro e w2 ⟨rfl, g2⟩
        go_wp2_with fail
        go_round
        case rel => exact ⟨q, J, k + 1, _, rfl, rfl, by go_num, by omega, by omega, hkq2, hq2, hwq2, hdq2, hmq2, Lib.hid (Bel.trans hb.out (Bel.trans g1 g2))⟩
        case measure => simp [intOf]; omega
theorem text_all (l : List Cel) : ∀ t, TextI l t :=
  V_ind (text_null l) (text_bool l) (text_int l) (text_str l) (text_list l) (text_map l)
end Val
end Go.Proofs.YtegfcmnbljdcpaaGreatDoor

/-
  Layer 6, the reference: Check, Depth, Encode.
-/
namespace Go.Proofs.YtegfcmnbljdcpaaGreatDoor
open Go.RowKit
namespace Val
open Go.Lib (itoa)

def rngC (c : Cel) : Bool := !(c.k == 3 && (decide (c.i < -1000000000000) || decide (1000000000000 < c.i)))
def strC (c : Cel) : Bool := decide (c.s.length ≤ 200)
/-- The error of a list of cells. -/
def chkT (l : List Cel) (t : V) : Int :=
  if l.all rngC = false then 2 else if 200 < l.length then 3 else if 8 < lvl t then 3 else if l.all strC = false then 3 else if 4000 < (text t).length then 3 else 0
def chk (l : List Cel) : Int := match par l with
  | none => 1
  | some t => chkT l t
def okC (c : Cel) : Prop := c.s.length ≤ 200 ∧ -9223372036854775808 ≤ c.i ∧ c.i ≤ 9223372036854775807
theorem quo_len {s : Txt} (h : s.length ≤ 200) : (quo s).length ≤ 402 := by
  have := esc_len s
  unfold quo
  simp only [List.length_cons, List.length_append, List.length_nil]
  omega
theorem boundL : ∀ x, allL (fun t => (∀ c ∈ flat t, okC c) → (text t).length + 1 ≤ 430 * (flat t).length) x → (∀ c ∈ flatL x, okC c) → (moreL x).length ≤ 430 * (flatL x).length
  | .nil, _, _ => Nat.zero_le _
  | .cons v r, h, hc => by
    have h1 := h.1 (fun c m => hc c (by rw [flatL]; exact List.mem_append_left _ m))
    have h2 := boundL r h.2 (fun c m => hc c (by rw [flatL]; exact List.mem_append_right _ m))
    rw [moreL, flatL]
    simp only [List.length_cons, List.length_append]
    omega
theorem boundM : ∀ x, allM (fun t => (∀ c ∈ flat t, okC c) → (text t).length + 1 ≤ 430 * (flat t).length) x → (∀ c ∈ flatM x, okC c) → (moreM x).length ≤ 430 * (flatM x).length
  | .nil, _, _ => Nat.zero_le _
  | .cons k v r, h, hc => by
    have h1 := h.1 (fun c m => hc c (by rw [flatM]; exact List.mem_cons_of_mem _ (List.mem_append_left _ m)))
    have h2 := boundM r h.2 (fun c m => hc c (by rw [flatM]; exact List.mem_cons_of_mem _ (List.mem_append_right _ m)))
    have h3 : (quo k).length ≤ 402 := quo_len (hc ⟨4, 0, k, 0⟩ (by rw [flatM]; exact List.mem_cons_self ..)).1
    rw [moreM, flatM]
    simp only [List.length_cons, List.length_append]
    omega
theorem textL_le (x : L) : (textL x).length ≤ (moreL x).length := by cases x <;> simp [textL, moreL]
theorem textM_le (x : M) : (textM x).length ≤ (moreM x).length := by cases x <;> simp [textM, moreM]
theorem text_bound : ∀ t, (∀ c ∈ flat t, okC c) → (text t).length + 1 ≤ 430 * (flat t).length := by
  refine V_ind (fun _ => by simp [text, flat]) (fun b _ => by cases b <;> simp [text, flat]) (fun n h => ?_) (fun s h => ?_) (fun x hx h => ?_) (fun x hx h => ?_)
  · have h1 := h ⟨3, n, [], 0⟩ (by simp [flat])
    have := Lib.itoa_length_le n h1.2.1 h1.2.2
    simp only [text, flat, List.length_cons, List.length_nil]
    omega
  · have h1 := h ⟨4, 0, s, 0⟩ (by simp [flat])
    have : (quo s).length ≤ 402 := quo_len h1.1
    simp only [text, flat, List.length_cons, List.length_nil]
    omega
  · have h1 := boundL x hx (fun c m => h c (by rw [flat]; exact List.mem_cons_of_mem _ m))
    have h2 := textL_le x
    simp only [text, flat, List.length_cons, List.length_append, List.length_nil]
    omega
  · have h1 := boundM x hx (fun c m => h c (by rw [flat]; exact List.mem_cons_of_mem _ m))
    have h2 := textM_le x
    simp only [text, flat, List.length_cons, List.length_append, List.length_nil]
    omega
theorem all_step {p : Cel → Bool} {l : List Cel} {k : Nat} (h : k < l.length) : (l.drop k).all p = (p l[k] && (l.drop (k + 1)).all p) := by
  rw [List.drop_eq_getElem_cons h, List.all_cons]
theorem all_end {p : Cel → Bool} {l : List Cel} {k : Nat} (h : l.length ≤ k) : (l.drop k).all p = true := by
  rw [List.drop_of_length_le h]
  rfl
/-- What is left of Check behind the test of the integers. -/
def chk2 (l : List Cel) (t : V) : Int := if 200 < l.length then 3 else if 8 < lvl t then 3 else if l.all strC = false then 3 else if 4000 < (text t).length then 3 else 0
theorem chkT_no {l : List Cel} {t : V} (h : l.all rngC = false) : chkT l t = 2 := if_pos h
theorem chkT_yes {l : List Cel} {t : V} (h : l.all rngC = true) : chkT l t = chk2 l t := if_neg (by rw [h]; decide)
theorem chk2_a {l : List Cel} {t : V} (h : 200 < l.length) : chk2 l t = 3 := if_pos h
theorem chk2_b {l : List Cel} {t : V} (h : ¬ 200 < l.length) (h2 : 8 < lvl t) : chk2 l t = 3 := by
  unfold chk2
  rw [if_neg h, if_pos h2]
theorem chk2_c {l : List Cel} {t : V} (h : ¬ 200 < l.length) (h2 : ¬ 8 < lvl t) (h3 : l.all strC = false) : chk2 l t = 3 := by
  unfold chk2
  rw [if_neg h, if_neg h2, if_pos h3]
theorem chk2_d {l : List Cel} {t : V} (h : ¬ 200 < l.length) (h2 : ¬ 8 < lvl t) (h3 : l.all strC = true) : chk2 l t = if 4000 < (text t).length then 3 else 0 := by
  unfold chk2
  rw [if_neg h, if_neg h2, if_neg (by rw [h3]; decide)]
set_option maxHeartbeats 4000000 in
theorem check_any (l : List Cel) (o : Option Addr) (n c : Nat) (hn : n ≤ 1000000) (w : World) (hL : Lad w) (hA : CArg w o n l) :
    Calls Tryz.prog 33 #[.slice o n c] w fun e w' => e = .returned (.int .i64 (chk l)) ∧ Bel w w' := by
  have hl := hA.1
  have HF := Lib.hid (formed_any l o n c hn w hA)
  cases hp : par l with
  | none =>
    have hz := Lib.hid (show chk l = 1 by unfold chk; rw [hp])
    have hf : formB l = false := by unfold formB; rw [hp]; rfl
    rw [hf] at HF
    clear hp hf hA hL
    go_enter Tryz.func33, Tryz.ntmps33
    go_wp2_with fail
    refine HF.out.mono ?_
    rintro e w1 ⟨rfl, g1⟩
    go_wp2_with fail
    go_ret
    exact ⟨by rw [hz.out]; rfl, g1⟩
  | some t =>
    obtain ⟨hw, hlf⟩ := par_some.1 hp
    have hz := Lib.hid (show chk l = chkT l t by unfold chk; rw [hp])
    have hf : formB l = true := by unfold formB; rw [hp]; rfl
    rw [hf] at HF
    have HA := Lib.hid hA
    have HL := Lib.hid hL
    have HW := Lib.hid hw
    have HLF := Lib.hid hlf
    clear hp hf hA hL hw hlf
    go_enter Tryz.func33, Tryz.ntmps33
    go_wp2_with fail
    refine HF.out.mono ?_
    rintro e w1 ⟨rfl, g1⟩
    have B1 := Lib.hid g1
    clear g1 HF
    go_wp2_with fail
    go_loop [3] (fun i => ∃ k : Nat, i = .int .i64 (k : Int) ∧ k ≤ n ∧ Hid ((l.drop k).all rngC = l.all rngC)) (fun i => n - (intOf i).toNat)
    case atStart => exact ⟨0, rfl, Nat.zero_le _, Lib.hid rfl⟩
    case round =>
      obtain ⟨k, rfl, hk, hr⟩ := hrel
      by_cases hlt : k < n
      · have hkl : k < l.length := by omega
        obtain ⟨b, off, rfl, hcs⟩ := (HA.out.on B1.out).2.2 (by omega)
        obtain ⟨c1, c2, c3, c4⟩ := hcs k hkl
        have hst := all_step (p := rngC) hkl
        generalize l[k] = x at *
        obtain ⟨xk, xi, xs, xn⟩ := x
        simp only at c1 c2 c3 c4
        unfold rngC at hst
        simp only at hst
        clear hcs
        by_cases h3 : xk = 3
        · subst h3
          by_cases hlo : xi < -1000000000000
          · have hz2 := Lib.hid (chkT_no (t := t) (hr.out.symm.trans (hst.trans (by simp [hlo]))))
            clear hst hr
            go_wp2
            go_ret
            exact ⟨by rw [hz.out, hz2.out]; rfl, B1.out⟩
          · by_cases hhi : 1000000000000 < xi
            · have hz2 := Lib.hid (chkT_no (t := t) (hr.out.symm.trans (hst.trans (by simp [hlo, hhi]))))
              clear hst hr
              go_wp2
              go_ret
              exact ⟨by rw [hz.out, hz2.out]; rfl, B1.out⟩
            · have hr2 : Hid ((l.drop (k + 1)).all rngC = l.all rngC) := Lib.hid (by
                rw [← hr.out]
                unfold rngC
                rw [hst]
                simp [hlo, hhi])
              clear hst hr
              go_wp2
              go_round
              case rel => exact ⟨k + 1, by go_num, by omega, hr2⟩
              case measure => simp [intOf]; omega
        · have hr2 : Hid ((l.drop (k + 1)).all rngC = l.all rngC) := Lib.hid (by
            rw [← hr.out]
            unfold rngC
            rw [hst]
            simp [h3])
          have hb3 : (xk == 3) = false := by simpa using h3
          clear hst hr h3
          go_wp2
          go_round
          case rel => exact ⟨k + 1, by go_num, by omega, hr2⟩
          case measure => simp [intOf]; omega
      · obtain rfl : k = n := by omega
        have hz2 := Lib.hid (hz.out.trans (chkT_yes (t := t) (hr.out.symm.trans (all_end (by omega)))))
        clear hr hz
        by_cases h200 : 200 < k
        · have hz3 := Lib.hid (hz2.out.trans (chk2_a (by omega)))
          clear hz2
          go_wp2
          go_ret
          exact ⟨by rw [hz3.out]; rfl, B1.out⟩
        · have hd0 : l.drop 0 = flat t ++ [] := by rw [List.drop_zero, List.append_nil]; exact HLF.out
          have HV := Lib.hid (fun (W : World) (h : Bel w W) => lev_all l t o k c 0 [] hd0 HW.out hn W (HA.out.on h))
          rw [show (((0 : Nat) : Int)) = 0 from rfl] at HV
          by_cases h8 : 8 < lvl t
          · have hz3 := Lib.hid (hz2.out.trans (chk2_b (by omega) h8))
            generalize lvl t = lv at *
            clear hz2 hd0
            go_wp2_with fail
            refine (HV.out _ B1.out).mono ?_
            rintro e w2 ⟨rfl, g2⟩
            go_wp2_with fail
            go_ret
            exact ⟨by rw [hz3.out]; rfl, Bel.trans B1.out g2⟩
          · obtain ⟨lv, hlv⟩ : ∃ lv, lvl t = lv := ⟨_, rfl⟩
            rw [hlv] at HV
            have h8b : lv ≤ 8 := by omega
            have H8 := Lib.hid h8
            clear hd0 hlv h8
            go_wp2_with fail
            refine (HV.out _ B1.out).mono ?_
            rintro e w2 ⟨rfl, g2⟩
            have B2 := Lib.hid (Bel.trans B1.out g2)
            clear g2 HV
            go_wp2_with fail
            go_loop [4] (fun i => ∃ j : Nat, i = .int .i64 (j : Int) ∧ j ≤ k ∧ Hid ((l.drop j).all strC = l.all strC)) (fun i => k - (intOf i).toNat)
            case atStart => exact ⟨0, rfl, Nat.zero_le _, Lib.hid rfl⟩
            case round =>
              obtain ⟨j, rfl, hj, hr⟩ := hrel
              by_cases hlt2 : j < k
              · have hjl : j < l.length := by omega
                obtain ⟨b, off, rfl, hcs⟩ := (HA.out.on B2.out).2.2 (by omega)
                obtain ⟨c1, c2, c3, c4⟩ := hcs j hjl
                have hst := all_step (p := strC) hjl
                generalize l[j] = x at *
                obtain ⟨xk, xi, xs, xn⟩ := x
                simp only at c1 c2 c3 c4
                unfold strC at hst
                simp only at hst
                obtain ⟨X, hX⟩ : ∃ X : ByteArray, ⟨xs.toArray⟩ = X := ⟨_, rfl⟩
                have hXs : X.size = xs.length := by rw [← toL_len, ← hX, tl]
                rw [hX] at c3
                rw [← hXs] at hst
                clear hcs hX hXs
                by_cases hs2 : X.size ≤ 200
                · have hr2 : Hid ((l.drop (j + 1)).all strC = l.all strC) := Lib.hid (by
                    rw [← hr.out]
                    unfold strC
                    rw [hst]
                    simp [hs2])
                  clear hst hr
                  go_wp2
                  go_round
                  case rel => exact ⟨j + 1, by go_num, by omega, hr2⟩
                  case measure => simp [intOf]; omega
                · have hz3 := Lib.hid (hz2.out.trans (chk2_c (by omega) H8.out (hr.out.symm.trans (hst.trans (by simp [hs2])))))
                  clear hst hr hz2
                  go_wp2
                  go_ret
                  exact ⟨by rw [hz3.out]; rfl, B2.out⟩
              · obtain rfl : j = k := by omega
                have hall := hr.out.symm.trans (all_end (by omega))
                have hz3 := hz2.out.trans (chk2_d (by omega) H8.out hall)
                have hb : (text t).length ≤ 1099511627776 := by
                  have h1 := text_bound t (fun c hc => by
                    rw [← HLF.out] at hc
                    have h1 := List.all_eq_true.1 hall c hc
                    have h2 := HA.out.2.1 c hc
                    exact ⟨of_decide_eq_true h1, h2.2.1⟩)
                  rw [← HLF.out] at h1
                  omega
                have hd0 : l.drop 0 = flat t ++ [] := by rw [List.drop_zero, List.append_nil]; exact HLF.out
                have hT := fun (W : World) (h : Bel w W) => text_all l t o j c 0 [] hd0 HW.out hb hn W (HL.out.on h) (HA.out.on h)
                obtain ⟨T, hTe⟩ : ∃ T : ByteArray, ⟨(text t).toArray⟩ = T := ⟨_, rfl⟩
                have hTs : (text t).length = T.size := by rw [← hTe, ← toL_len, tl]
                rw [hTe] at hT
                rw [hTs] at hz3 hb
                have HT := Lib.hid hT
                rw [show (((0 : Nat) : Int)) = 0 from rfl] at HT
                by_cases h4 : 4000 < T.size
                · rw [if_pos h4] at hz3
                  have hz4 := Lib.hid hz3
                  clear hr hall hz3 hd0 hT hTe hTs hz2
                  go_wp2_with fail
                  refine (HT.out _ B2.out).mono ?_
                  rintro e w3 ⟨rfl, g3⟩
                  go_wp2_with fail
                  go_ret
                  exact ⟨by rw [hz4.out]; rfl, Bel.trans B2.out g3⟩
                · rw [if_neg h4] at hz3
                  have hz4 := Lib.hid hz3
                  clear hr hall hz3 hd0 hT hTe hTs hz2
                  go_wp2_with fail
                  refine (HT.out _ B2.out).mono ?_
                  rintro e w3 ⟨rfl, g3⟩
                  go_wp2_with fail
                  go_ret
                  exact ⟨by rw [hz4.out]; rfl, Bel.trans B2.out g3⟩
end Val
end Go.Proofs.YtegfcmnbljdcpaaGreatDoor

/-
  Layer 6, the reference: literals of cells; checked, Null, Bool, Int, Str; Depth, Encode.
-/
namespace Go.Proofs.YtegfcmnbljdcpaaGreatDoor
open Go.RowKit
namespace Val

/-- A slice of one new cell. -/
theorem lit_cArg (w : World) (k i n : Int) (s : ByteArray) (t : TypeId) (hf : Fits ⟨k, i, s.toList, n⟩) :
    CArg (w.alloc (.cells #[.int .i64 k, .int .i64 i, .string s, .int .i64 n] t)) (some ⟨w.heap.size, 0, none⟩) 1 [⟨k, i, s.toList, n⟩] := by
  refine ⟨rfl, fun c h => by rw [List.mem_singleton.1 h]; exact hf, fun _ => ⟨w.heap.size, 0, rfl, fun j hj => ?_⟩⟩
  obtain rfl : j = 0 := by simp at hj; omega
  refine ⟨?_, ?_, ?_, ?_⟩
  · rw [World.cell?_alloc_new]; rfl
  · rw [World.cell?_alloc_new]; rfl
  · rw [World.cell?_alloc_new]; show some (Value.string s) = _; rw [List.getElem_cons_zero, str_back]
  · rw [World.cell?_alloc_new]; rfl
theorem fits_small (k i n : Int) (s : Txt) (hk : 0 ≤ k ∧ k ≤ 6) (hi : -9223372036854775808 ≤ i ∧ i ≤ 9223372036854775807) (hn : 0 ≤ n ∧ n ≤ 4611686018427387904) (hs : s.length ≤ 140737488355328) : Fits ⟨k, i, s, n⟩ :=
  ⟨⟨by show _ ≤ k; omega, by show k ≤ _; omega⟩, hi, ⟨by show _ ≤ n; omega, by show n ≤ _; omega⟩, hs⟩
theorem emp_list : (⟨#[]⟩ : ByteArray).toList = [] := tl []
/-- A slice of one new cell without a string. -/
theorem lit_cArg0 (w : World) (k i n : Int) (t : TypeId) (hf : Fits ⟨k, i, [], n⟩) :
    CArg (w.alloc (.cells #[.int .i64 k, .int .i64 i, .string ⟨#[]⟩, .int .i64 n] t)) (some ⟨w.heap.size, 0, none⟩) 1 [⟨k, i, [], n⟩] := by
  have h := lit_cArg w k i n ⟨#[]⟩ t (by rw [emp_list]; exact hf)
  rw [emp_list] at h
  exact h
/-- A list of cells and an error, as a function returns them. -/
def CRes (w : World) (e : Ending) (l : List Cel) (E : Int) : Prop := ∃ o n c, e = .returned (.tuple #[.slice o n c, .int .i64 E]) ∧ CArg w o n l ∧ n ≤ c
theorem CRes.nil (w : World) (E : Int) : CRes w (.returned (.tuple #[.slice none 0 0, .int .i64 E])) [] E := ⟨none, 0, 0, rfl, CArg.nil w none, Nat.le_refl _⟩
/-- What a value is that is handed back checked. -/
def chkd (l : List Cel) : List Cel := if chk l = 0 then l else []
theorem checked_any (l : List Cel) (o : Option Addr) (n c : Nat) (hn : n ≤ 1000000) (hc : n ≤ c) (w : World) (hL : Lad w) (hA : CArg w o n l) :
    Calls Tryz.prog 64 #[.slice o n c] w fun e w' => CRes w' e (chkd l) (chk l) ∧ Bel w w' := by
  have HC := Lib.hid (check_any l o n c hn w hL hA)
  have HA := Lib.hid hA
  obtain ⟨z, hz⟩ : ∃ z, chkd l = z := ⟨_, rfl⟩
  rw [hz]
  have hz2 : Hid ((if chk l = 0 then l else []) = z) := Lib.hid hz
  clear hz hA
  generalize chk l = x at HC hz2 ⊢
  by_cases hx : x = 0
  · rw [if_pos hx] at hz2
    obtain rfl := hz2.out
    subst hx
    clear hz2
    go_enter Tryz.func64, Tryz.ntmps64
    go_wp2_with fail
    refine HC.out.mono ?_
    rintro e w1 ⟨rfl, g1⟩
    go_wp2_with fail
    go_ret2
    exact ⟨⟨o, n, c, rfl, HA.out.on g1, hc⟩, g1⟩
  · rw [if_neg hx] at hz2
    obtain rfl := hz2.out
    clear hz2
    go_enter Tryz.func64, Tryz.ntmps64
    go_wp2_with fail
    refine HC.out.mono ?_
    rintro e w1 ⟨rfl, g1⟩
    go_wp2_with fail
    go_ret2
    exact ⟨CRes.nil _ _, g1⟩
/-- What Depth answers. -/
def depC (l : List Cel) : Int := match par l with
  | none => 0
  | some t => if chkT l t = 0 then (lvl t : Int) else 0
/-- What Encode answers. -/
def encT (l : List Cel) : Txt := match par l with
  | none => []
  | some t => if chkT l t = 0 then text t else []
theorem chk_ok {l : List Cel} (h : chk l = 0) : ∃ t, par l = some t ∧ chkT l t = 0 := by
  unfold chk at h
  split at h
  · cases h
  · next t e => exact ⟨t, e, h⟩
end Val
end Go.Proofs.YtegfcmnbljdcpaaGreatDoor

/-
  Layer 6, the reference: Depth, Encode; Same.
-/
namespace Go.Proofs.YtegfcmnbljdcpaaGreatDoor
open Go.RowKit
namespace Val

theorem chk_text {l : List Cel} {t : V} (h : chkT l t = 0) : (text t).length ≤ 4000 := by
  unfold chkT at h
  repeat' split at h
  all_goals first | omega | cases h
theorem chk_len {l : List Cel} {t : V} (h : chkT l t = 0) : l.length ≤ 200 := by
  unfold chkT at h
  repeat' split at h
  all_goals first | omega | cases h
end Val
end Go.Proofs.YtegfcmnbljdcpaaGreatDoor

/-
  Layer 6: cells as values; what append builds of them.
-/
namespace Go.Proofs.YtegfcmnbljdcpaaGreatDoor
open Go.RowKit Go.ChangeShapes Go.WideShapes
namespace Val

/-- A cell as values. -/
def encC (c : Cel) : List Value := [.int .i64 c.k, .int .i64 c.i, .string ⟨c.s.toArray⟩, .int .i64 c.n]
def encCs (l : List Cel) : List Value := l.flatMap encC
theorem encC_len (c : Cel) : (encC c).length = 4 := rfl
theorem encCs_len (l : List Cel) : (encCs l).length = l.length * 4 := by
  induction l with
  | nil => rfl
  | cons c r ih =>
    show (encC c ++ encCs r).length = _
    rw [List.length_append, ih, encC_len, List.length_cons]
    omega
theorem encCs_app (a b : List Cel) : encCs (a ++ b) = encCs a ++ encCs b := by simp [encCs]
theorem encCs_one (c : Cel) : encCs [c] = encC c := by simp [encCs]
theorem cell_one {l : List Cel} : ∀ u ∈ encCs l, u.oneCell' = true := fun u hu => by
  simp only [encCs, List.mem_flatMap, encC] at hu
  obtain ⟨x, _, hx⟩ := hu
  simp only [List.mem_cons, List.not_mem_nil, or_false] at hx
  rcases hx with rfl | rfl | rfl | rfl <;> rfl
theorem encCs_get {l : List Cel} {i : Nat} (h : i < l.length) : (encCs l)[i * 4]? = some (.int .i64 l[i].k) ∧ (encCs l)[i * 4 + 1]? = some (.int .i64 l[i].i) ∧ (encCs l)[i * 4 + 2]? = some (.string ⟨l[i].s.toArray⟩) ∧ (encCs l)[i * 4 + 3]? = some (.int .i64 l[i].n) := by
  have e : encCs l = encCs (l.take i) ++ (encC l[i] ++ encCs (l.drop (i + 1))) := by
    rw [← encCs_one l[i], ← encCs_app, ← encCs_app]
    congr 1
    rw [List.singleton_append, ← List.drop_eq_getElem_cons h, List.take_append_drop]
  have hl : (encCs (l.take i)).length = i * 4 := by rw [encCs_len, List.length_take, Nat.min_eq_left (by omega)]
  rw [e]
  refine ⟨?_, ?_, ?_, ?_⟩
  all_goals
    rw [List.getElem?_append_right (by omega), hl]
    simp [encC]
theorem info_cell : (Tryz.prog.info? 43).map (fun i => (i.zero, i.size, i.bytes)) = some (some (.agg #[.int .i64 0, .int .i64 0, .string ByteArray.empty, .int .i64 0]), 4, 40) := by kernel_rfl
theorem own4_shape {w : World} {base : Nat} {e : TypeId} {v : Value} {k : Nat} {xs : List Value} (h : w.ownsRow base e 4 v k xs) : ∃ o c, v = .slice o k c ∧ k ≤ c := by
  rcases h.2 with ⟨hv, hk⟩ | ⟨g, cap, cur, hv, _, _, hc, _⟩
  · exact ⟨none, 0, by rw [hv, hk], by omega⟩
  · exact ⟨_, _, hv, hc⟩
theorem own4_on {w w' : World} {base : Nat} {e : TypeId} {v : Value} {k : Nat} {xs : List Value} (h : w.ownsRow base e 4 v k xs) (b : Bel w w') : w'.ownsRow base e 4 v k xs :=
  h.kept (row := none) ⟨b.os, b.tape, b.output, b.size, fun i hi _ => b.block i hi⟩ (by cases hv : v.ownBlock <;> simp)
theorem own4_bel {a w w' : World} {e : TypeId} {v : Value} {k : Nat} {xs : List Value} (h : w.ownsRow a.heap.size e 4 v k xs) (b : Bel a w) (hg : w.grownBy w' v.ownBlock) : Bel a w' :=
  Below.grown b hg b.size fun i hi => (h.lt i hi).1
/-- What is owned reads as a slice of cells. -/
theorem own_cArg {w : World} {base : Nat} {e : TypeId} {o : Option Addr} {k c : Nat} {l : List Cel} (h : w.ownsRow base e 4 (.slice o k c) k (encCs l)) (hf : ∀ c ∈ l, Fits c) : CArg w o k l := by
  have hl : l.length = k := by have := h.1; rw [encCs_len] at this; omega
  refine ⟨hl, hf, fun hk => ?_⟩
  rcases h.2 with ⟨hv, hk0⟩ | ⟨g, cap, cur, hv, _, _, _⟩
  · omega
  · simp only [Value.slice.injEq] at hv
    obtain ⟨rfl, -, rfl⟩ := hv
    refine ⟨g, 0, rfl, fun i hi => ?_⟩
    obtain ⟨e1, e2, e3, e4⟩ := encCs_get hi
    have c := h.cells (g := g) rfl
    simp only [Lib.add_plain] at c
    refine ⟨?_, ?_, ?_, ?_⟩
    · have := c _ _ e1; simpa using this
    · have := c _ _ e2; simpa [Nat.add_assoc] using this
    · have := c _ _ e3; simpa [Nat.add_assoc] using this
    · have := c _ _ e4; simpa [Nat.add_assoc] using this
/-- The cells of a slice of cells, as append reads them. -/
theorem cArg_news {w : World} {b off : Nat} {l : List Cel} (h : ∀ i (h : i < l.length), CAt w b (off + i * 4) l[i]) : ∀ j u, (encCs l)[j]? = some u → w.cell? ((⟨b, off, none⟩ : Addr).add j) = some u := fun j u hj => by
  have hlt : j < (encCs l).length := by
    rcases Nat.lt_or_ge j (encCs l).length with k | k
    · exact k
    · rw [List.getElem?_eq_none k] at hj; cases hj
  rw [encCs_len] at hlt
  have hi : j / 4 < l.length := by omega
  obtain ⟨e1, e2, e3, e4⟩ := encCs_get hi
  obtain ⟨c1, c2, c3, c4⟩ := h (j / 4) hi
  rw [Lib.add_plain]
  show w.cell? ⟨b, off + j, none⟩ = _
  have h4 : j % 4 = 0 ∨ j % 4 = 1 ∨ j % 4 = 2 ∨ j % 4 = 3 := by omega
  rcases h4 with h4 | h4 | h4 | h4
  · rw [show j / 4 * 4 = j by omega] at e1 c1
    rw [c1, ← e1, hj]
  · rw [show j / 4 * 4 + 1 = j by omega] at e2
    rw [show off + j / 4 * 4 + 1 = off + j by omega] at c2
    rw [c2, ← e2, hj]
  · rw [show j / 4 * 4 + 2 = j by omega] at e3
    rw [show off + j / 4 * 4 + 2 = off + j by omega] at c3
    rw [c3, ← e3, hj]
  · rw [show j / 4 * 4 + 3 = j by omega] at e4
    rw [show off + j / 4 * 4 + 3 = off + j by omega] at c4
    rw [c4, ← e4, hj]
/-- Cells behind what is owned. -/
theorem appC {Y : World} {m c m2 c2 : Nat} {o o2 : Option Addr} {l l2 : List Cel} {w : World} (hb : Bel w Y) (hown : Y.ownsRow w.heap.size 43 4 (.slice o m c) m (encCs l)) (h2 : CArg Y o2 m2 l2) (hp : 0 < m2) (hm : m + m2 ≤ 1099511627776) :
    ∃ v' w', (Builtin.append_ #[22, 22] 22 #[.slice o m c, .slice o2 m2 c2]).run Tryz.prog Y = .ok v' w' ∧ Bel w w' ∧ ∃ o3 c3, v' = .slice o3 (m + m2) c3 ∧ w'.ownsRow w.heap.size 43 4 (.slice o3 (m + m2) c3) (m + m2) (encCs (l ++ l2)) := by
  obtain ⟨i0, hi, hz0, hz1, hz2⟩ := info_parts info_cell
  obtain ⟨b, off, rfl, hc⟩ := h2.2.2 hp
  obtain ⟨v', w', r, o3, g, -⟩ := run_append_own (P := Tryz.prog) _ w.heap.size 22 22 43 i0 _ 4 40 Tryz.underlying22 hi hz0 hz1 hz2 rfl (by decide) _ m _ hown ⟨b, off, none⟩ m2 c2 (encCs l2) (by rw [encCs_len, h2.1])
    (cArg_news hc) cell_one (by unfold maxLen; omega) (by omega) hb.size
  obtain ⟨p2, c3, rfl, _⟩ := own4_shape o3
  exact ⟨_, w', r, own4_bel hown hb g, p2, c3, rfl, by rw [encCs_app]; exact o3⟩
/-- The same at a region's operation. -/
theorem list_appC {Y : World} {m c m2 c2 : Nat} {p o2 : Option Addr} {l l2 : List Cel} {w : World} {ops : Array Oper} {rest : List Oper} {o : Oper} {a : Act} {Q : Exit → Act → World → Prop} (s x : Operand)
    (ho : o.op = .call { callee := .builtin .append, args := #[s, x], argTypes := #[22, 22] }) (hgd : o.guard = none) (hty : o.type = 22) (hs : a.eval s = .slice p m c) (hx : a.eval x = .slice o2 m2 c2)
    (hb : Bel w Y) (hown : Y.ownsRow w.heap.size 43 4 (.slice p m c) m (encCs l)) (h2 : CArg Y o2 m2 l2) (hp : 0 < m2) (hm : m + m2 ≤ 1099511627776)
    (h : ∀ o3 c3 w', Hid (Bel w w') → Hid (w'.ownsRow w.heap.size 43 4 (.slice o3 (m + m2) c3) (m + m2) (encCs (l ++ l2))) → wpList Tryz.prog ops Q rest (a.put o.dst (.slice o3 (m + m2) c3)) w') : wpList Tryz.prog ops Q (o :: rest) a Y :=
  wpList_plain hgd fun K hK => by
    obtain ⟨v', w', r, g, o3, c3, rfl, k⟩ := appC (c2 := c2) hb hown h2 hp hm
    rw [← hty] at r
    unfold Oper.wp execOp
    simp only [ho, resolve, invoke, builtin, Sem.run_bind, Sem.run_pure, Result.andThen_ok, List.map_toArray, List.map_cons, List.map_nil, hs, hx]
    rw [show (#[o.type, o.type] : Array TypeId) = #[22, 22] by rw [hty]] at r
    simp only [r]
    exact hK _ _ (h o3 c3 w' (Lib.hid g) (Lib.hid k))
end Val
end Go.Proofs.YtegfcmnbljdcpaaGreatDoor

/-
  Layer 6, the reference: part.
-/
namespace Go.Proofs.YtegfcmnbljdcpaaGreatDoor
open Go.RowKit Go.ChangeShapes Go.WideShapes
namespace Val

set_option maxHeartbeats 1000000 in
theorem part_any (l : List Cel) (o : Option Addr) (n c f d t : Nat) (ht : t = f + d) (htn : t ≤ n) (hn : n ≤ 1000000) (w : World) (hA : CArg w o n l) :
    Calls Tryz.prog 35 #[.slice o n c, .int .i64 (f : Int), .int .i64 (t : Int)] w fun e w' => (∃ o2 c2, e = .returned (.slice o2 d c2) ∧ CArg w' o2 d ((l.drop f).take d) ∧ d ≤ c2 ∧ ∀ k, (Value.slice o2 d c2).ownBlock = some k → w.heap.size ≤ k) ∧ Bel w w' := by
  have HA := Lib.hid hA
  have hlen := hA.1
  have HT := Lib.hid ht
  clear hA ht
  go_enter Tryz.func35, Tryz.ntmps35
  go_wp2
  go_loopw [7, 8] (fun v i wr => ∃ (k c' : Nat) (a : Option Addr), v = .slice a k c' ∧ i = .int .i64 ((f + k : Nat) : Int) ∧ k ≤ d ∧ Hid (wr.ownsRow w.heap.size 43 4 (.slice a k c') k (encCs ((l.drop f).take k))) ∧ Hid (Bel w wr)) (fun _ i _ => t - (intOf i).toNat)
  case atStart => exact ⟨0, 0, none, rfl, rfl, by omega, Lib.hid (World.ownsRow_nil _ _ _ _), Lib.hid (Bel.refl _)⟩
  case round =>
    obtain ⟨k, c', a, rfl, rfl, hk, hown, hb⟩ := hrel
    rename World => W0
    by_cases hlt : k < d
    · have hft : (f : Int) + (k : Int) < (t : Int) := by have := HT.out; omega
      have hkn : (f : Int) + (k : Int) < (n : Int) := by omega
      have hkl : f + k < l.length := by have := HT.out; omega
      obtain ⟨b, off, rfl, hcs⟩ := (HA.out.on hb.out).2.2 (by omega)
      obtain ⟨c1, c2, c3, c4⟩ := hcs (f + k) hkl
      have hst : Hid ((l.drop f).take (k + 1) = (l.drop f).take k ++ [l[f + k]]) := Lib.hid (by
        rw [List.take_succ_eq_append_getElem (by simp; omega)]
        simp)
      have hfit := Lib.hid (HA.out.2.1 _ (List.getElem_mem hkl))
      generalize l[f + k] = x at *
      clear hcs
      obtain ⟨xk, xi, xs, xn⟩ := x
      simp only at c1 c2 c3 c4
      obtain ⟨X, hX⟩ : ∃ X : ByteArray, ⟨xs.toArray⟩ = X := ⟨_, rfl⟩
      have hXs := Lib.hid (show X.toList = xs by rw [← hX, tl xs])
      rw [hX] at c3
      clear hX
      have b2 := Lib.hid (hb.out.alloc (.cells #[.int .i64 xk, .int .i64 xi, .string X, .int .i64 xn] 43))
      have o2 := Lib.hid (hown.out.alloc (.cells #[.int .i64 xk, .int .i64 xi, .string X, .int .i64 xn] 43))
      have C2 := Lib.hid (lit_cArg W0 xk xi xn X 43 (by rw [hXs.out]; exact hfit.out))
      rw [hXs.out] at C2
      have q : Hid (k + 1 ≤ 1099511627776) := Lib.hid (by omega)
      go_wp2_with (at_builtin; refine list_appC _ _ rfl rfl rfl rfl rfl b2.out o2.out C2.out (by decide) q.out ?_; intro o3 c3 w3 g3 k3; refine Hid.out ?_)
      refine Lib.hid ?_
      rw [← hst.out] at k3
      clear b2 o2 C2 q hst hown hb hfit
      go_wp2
      go_round
      case rel => exact ⟨k + 1, c3, o3, rfl, by go_num, by omega, k3, g3⟩
      case measure => have := HT.out; simp [intOf]; omega
    · obtain rfl : k = d := by omega
      have hft : ¬ (f : Int) + (k : Int) < (t : Int) := by have := HT.out; omega
      have hO := own_cArg hown.out (fun c h => HA.out.2.1 c (List.mem_of_mem_drop (List.mem_of_mem_take h)))
      have hc := own4_shape hown.out
      go_wp2
      go_ret
      obtain ⟨_, _, h1, h2⟩ := hc
      cases h1
      exact ⟨⟨a, c', rfl, hO, h2, fun i hi => (hown.out.lt i hi).1⟩, hb.out⟩
end Val
end Go.Proofs.YtegfcmnbljdcpaaGreatDoor

/-
  Layer 6, the reference: List, Map.
-/
namespace Go.Proofs.YtegfcmnbljdcpaaGreatDoor
open Go.RowKit Go.ChangeShapes Go.WideShapes
namespace Val

/-- A slice of slices of cells, as a walk reads it. -/
def LArg (w : World) (o : Option Addr) (n : Nat) (ls : List (List Cel)) : Prop := ls.length = n ∧ ∀ i (h : i < ls.length), ∃ a p m c, o = some a ∧ w.cell? (a.add i) = some (.slice p m c) ∧ CArg w p m ls[i] ∧ m ≤ c
theorem LArg.on {w w' : World} {o : Option Addr} {n : Nat} {ls : List (List Cel)} (h : LArg w o n ls) (b : Bel w w') : LArg w' o n ls :=
  ⟨h.1, fun i hi => let ⟨a, p, m, c, e, k, g, q⟩ := h.2 i hi; ⟨a, p, m, c, e, b.cell' k, g.on b, q⟩⟩
theorem LArg.nil (w : World) (o : Option Addr) : LArg w o 0 [] := ⟨rfl, fun i h => absurd h (Nat.not_lt_zero i)⟩
/-- The first error of a list of values. -/
def firstE : List (List Cel) → Int
  | [] => 0
  | l :: r => if chk l = 0 then firstE r else chk l
def listC (ls : List (List Cel)) : List Cel := ⟨5, 0, [], ls.length⟩ :: ls.flatten
def listB (ls : List (List Cel)) : List Cel := if firstE ls = 0 then chkd (listC ls) else []
def listE (ls : List (List Cel)) : Int := if firstE ls = 0 then chk (listC ls) else firstE ls
theorem firstE_step {ls : List (List Cel)} {k : Nat} (h : k < ls.length) : firstE (ls.drop k) = if chk ls[k] = 0 then firstE (ls.drop (k + 1)) else chk ls[k] := by
  rw [List.drop_eq_getElem_cons h, firstE]
theorem flat_step {ls : List (List Cel)} {k : Nat} (h : k < ls.length) : (ls.take (k + 1)).flatten = (ls.take k).flatten ++ ls[k] := by
  rw [List.take_succ_eq_append_getElem h, List.flatten_append]
  simp
theorem flat_le {ls : List (List Cel)} (k : Nat) : (ls.take k).flatten.length ≤ ls.flatten.length := by
  have h : ls.flatten = (ls.take k).flatten ++ (ls.drop k).flatten := by rw [← List.flatten_append, List.take_append_drop]
  rw [h, List.length_append]
  omega
theorem chk_pos {l : List Cel} (h : chk l = 0) : 0 < l.length := by
  obtain ⟨t, hp, _⟩ := chk_ok h
  obtain ⟨_, rfl⟩ := par_some.1 hp
  cases t <;> simp [flat]
end Val
end Go.Proofs.YtegfcmnbljdcpaaGreatDoor

/-
  Slices of slices of cells as arguments of a law; slices of strings, sized.
-/
namespace Go.Proofs.YtegfcmnbljdcpaaGreatDoor
open Go.RowKit Go.ChangeShapes Go.WideShapes Go.Deep

/-- A string of a slice of strings is of memory. -/
theorem sized_strs {H : Type} {P : Program} {ts : List TypeId} {ds : List (DataW H)} (h : (DataW.weightsEach P ts ds).all (· ≤ reachBytes) = true) {j : Nat} {t e : TypeId} {xs : List ByteArray} {sp : List (DataW H)} (ht : ts[j]? = some t) (hd : ds[j]? = some (.slice (strs xs) sp))
    (hu : P.underlying t = some (.slice e)) : ∀ x ∈ xs, x.size ≤ 140737488355328 := fun x hx => by
  have all : ∀ l : List ByteArray, x ∈ l → x.data.toList.length ∈ DataW.weightsAll P e (strs l : List (DataW H)) := by
    intro l
    induction l with
    | nil => intro h; cases h
    | cons y r ih =>
      intro h
      simp only [strs, List.map_cons, DataW.weightsAll, DataW.weights, List.mem_append, List.mem_singleton]
      rcases List.mem_cons.1 h with rfl | h
      · exact Or.inl rfl
      · exact Or.inr (ih h)
  have hm := DataW.weights_mem_each (P := P) ht hd x.data.toList.length (by
    simp only [DataW.weights, hu, List.mem_cons, List.mem_append]
    exact Or.inr (Or.inl (all xs hx)))
  have h1 := List.all_eq_true.1 h _ hm
  have h2 := reachBytes_lt
  have h3 : x.data.toList.length = x.size := Array.length_toList
  have h4 : (2 : Nat) ^ 47 = 140737488355328 := by decide
  simp only [decide_eq_true_eq] at h1
  omega
end Go.Proofs.YtegfcmnbljdcpaaGreatDoor

/-
  Layer 6, the reference: Map.
-/
namespace Go.Proofs.YtegfcmnbljdcpaaGreatDoor
open Go.RowKit Go.ChangeShapes Go.WideShapes
namespace Val

/-- The cells of pairs. -/
def pairC (x : ByteArray × List Cel) : List Cel := ⟨4, 0, x.1.toList, 0⟩ :: x.2
def prsC (ks : List ByteArray) (ls : List (List Cel)) : List Cel := (ks.zip ls).flatMap pairC
def mapC (ks : List ByteArray) (ls : List (List Cel)) : List Cel := ⟨6, 0, [], ls.length⟩ :: prsC ks ls
def mapB (ks : List ByteArray) (ls : List (List Cel)) : List Cel := if ks.length = ls.length then (if firstE ls = 0 then chkd (mapC ks ls) else []) else []
def mapE (ks : List ByteArray) (ls : List (List Cel)) : Int := if ks.length = ls.length then (if firstE ls = 0 then chk (mapC ks ls) else firstE ls) else 1
/-- The cells of the first pairs. -/
def prsT (ks : List ByteArray) (ls : List (List Cel)) (k : Nat) : List Cel := ((ks.zip ls).take k).flatMap pairC
theorem prsT_step {ks : List ByteArray} {ls : List (List Cel)} {k : Nat} (h1 : k < ks.length) (h2 : k < ls.length) : prsT ks ls (k + 1) = (prsT ks ls k ++ [⟨4, 0, ks[k].toList, 0⟩]) ++ ls[k] := by
  have hk : k < (ks.zip ls).length := by rw [List.length_zip]; omega
  unfold prsT
  rw [List.take_succ_eq_append_getElem hk, List.flatMap_append]
  simp [pairC]
theorem prsT_all {ks : List ByteArray} {ls : List (List Cel)} {k : Nat} (h : ls.length ≤ k) : prsT ks ls k = prsC ks ls := by
  unfold prsT prsC
  rw [List.take_of_length_le (by rw [List.length_zip]; omega)]
theorem prsT_le (ks : List ByteArray) (ls : List (List Cel)) (k : Nat) : (prsT ks ls k).length ≤ (prsC ks ls).length := by
  have h : prsC ks ls = prsT ks ls k ++ ((ks.zip ls).drop k).flatMap pairC := by
    unfold prsC prsT
    rw [← List.flatMap_append, List.take_append_drop]
  rw [h, List.length_append]
  omega
set_option maxHeartbeats 4000000 in
theorem map_any (ks : List ByteArray) (ls : List (List Cel)) (o1 o2 : Option Addr) (n1 c1 n c : Nat) (hn1 : n1 ≤ 1000000) (hn : n ≤ 1000) (hks : ∀ x ∈ ks, x.size ≤ 140737488355328) (hs : (prsC ks ls).length ≤ 100000) (hne : n1 = n) (w : World) (hL : Lad w) (hK : SlArg w o1 n1 ks) (hA : LArg w o2 n ls) :
    Calls Tryz.prog 39 #[.slice o1 n1 c1, .slice o2 n c] w fun e w' => CRes w' e (mapB ks ls) (mapE ks ls) ∧ Bel w w' := by
  subst n1
  have HA := Lib.hid hA
  have HK := Lib.hid hK
  have HL := Lib.hid hL
  have hlen := hA.1
  have hlen1 := hK.1
  have hfit : Hid (∀ l ∈ ls, ∀ c ∈ l, Fits c) := Lib.hid (fun l h => by
    obtain ⟨i, hi, rfl⟩ := List.getElem_of_mem h
    obtain ⟨a, p, m, c, _, _, g, _⟩ := hA.2 i hi
    exact g.2.1)
  have HS := Lib.hid hs
  have HKS := Lib.hid hks
  have hzB : Hid ((if firstE ls = 0 then chkd (mapC ks ls) else []) = mapB ks ls) := Lib.hid (by unfold mapB; rw [if_pos (hlen1.trans hlen.symm)])
  have hzE : Hid ((if firstE ls = 0 then chk (mapC ks ls) else firstE ls) = mapE ks ls) := Lib.hid (by unfold mapE; rw [if_pos (hlen1.trans hlen.symm)])
  generalize mapB ks ls = zB at *
  generalize mapE ks ls = zE at *
  clear hA hL hK hs hks
  go_enter Tryz.func39, Tryz.ntmps39
  go_wp2
  have own1 := Lib.hid (World.ownsRow_lit (base := w.heap.size) (e := 43) (size := 4) w #[.int .i64 6, .int .i64 0, .string ⟨#[]⟩, .int .i64 (n : Int)] 1 (Nat.le_refl _) (by decide) rfl)
  go_loopw [6, 7] (fun v i wr => ∃ (k m c' : Nat) (a : Option Addr), v = .slice a m c' ∧ i = .int .i64 (k : Int) ∧ k ≤ n ∧ m ≤ 100001 ∧ Hid (m = 1 + (prsT ks ls k).length) ∧ Hid (wr.ownsRow w.heap.size 43 4 (.slice a m c') m (encCs (⟨6, 0, [], n⟩ :: prsT ks ls k))) ∧ Hid (firstE (ls.drop k) = firstE ls) ∧ Hid (Bel w wr)) (fun _ i _ => n - (intOf i).toNat)
  case atStart => exact ⟨0, 1, 1, _, rfl, rfl, Nat.zero_le _, by omega, Lib.hid rfl, own1, Lib.hid rfl, Lib.hid (Bel.alloc (Bel.refl _) _)⟩
  case round =>
    obtain ⟨k, m, c', a, rfl, rfl, hk, hm0, hm, hown, hfe, hb⟩ := hrel
    rename World => W0
    clear own1
    by_cases hlt : k < n
    · have hkl : k < ls.length := by omega
      have hkk : k < ks.length := by omega
      obtain ⟨b, p, q, d, rfl, hcw, hCAw, hqd⟩ := HA.out.2 k hkl
      have hc := hb.out.cell' hcw
      have hCA := hCAw.on hb.out
      have HCW := Lib.hid hcw
      obtain ⟨b1, rfl, hck⟩ := (HK.out.on hb.out).2 k hkk
      have hst := Lib.hid (firstE_step hkl)
      have hfl := Lib.hid (prsT_step hkk hkl)
      have hle := prsT_le ks ls (k + 1)
      have hsz := Lib.hid (HKS.out _ (List.getElem_mem hkk))
      rw [hfl.out, List.length_append, List.length_append, List.length_singleton] at hle
      have hmo := hm.out
      have hso := HS.out
      have hcl := hCA.1
      obtain ⟨x, hx⟩ : ∃ x, ls[k] = x := ⟨_, rfl⟩
      obtain ⟨y, hy⟩ : ∃ y, ks[k] = y := ⟨_, rfl⟩
      rw [hx] at hCA hCAw hst hfl hle hcl
      rw [hy] at hck hfl hsz
      have HC := Lib.hid (check_any x p q d (by omega) W0 (HL.out.on hb.out) hCA)
      have hpos : Hid (chk x = 0 → 0 < q) := Lib.hid (fun h => by have := chk_pos h; omega)
      have hq2 : q ≤ 100000 ∧ m + 1 + q ≤ 100001 := by omega
      have HCA := Lib.hid hCAw
      clear hx hy hle hCA hmo hso hcw hCAw
      obtain ⟨E, hE⟩ : ∃ E, chk x = E := ⟨_, rfl⟩
      rw [hE] at HC hst hpos
      by_cases h0 : E = 0
      · subst h0
        have hp0 : 0 < q := hpos.out rfl
        go_wp2_with fail
        refine HC.out.mono ?_
        rintro e w1 ⟨rfl, g1⟩
        have hck1 := g1.cell' hck
        have B1 := Lib.hid ((Bel.trans hb.out g1).alloc (.cells #[.int .i64 4, .int .i64 0, .string y, .int .i64 0] 43))
        have o1 := Lib.hid ((own4_on hown.out g1).alloc (.cells #[.int .i64 4, .int .i64 0, .string y, .int .i64 0] 43))
        have C2 := Lib.hid (lit_cArg w1 4 0 0 y 43 (fits_small _ _ _ _ (by omega) (by omega) (by omega) (by rw [toL_len]; exact hsz.out)))
        have q0 : Hid (m + 1 ≤ 1099511627776) := Lib.hid (by omega)
        have q1 : Hid (m + 1 + q ≤ 1099511627776) := Lib.hid (by omega)
        clear HC hown hc hck
        go_wp2_with (at_builtin; refine list_appC _ _ rfl rfl rfl rfl rfl B1.out o1.out C2.out (by decide) q0.out ?_; intro o3 c3 w3 g3 k3; refine Hid.out ?_)
        refine Lib.hid ?_
        have C3 := Lib.hid (HCA.out.on g3.out)
        have hc3 := g3.out.cell' HCW.out
        clear hck1 C2 o1 B1
        go_wp2_with (at_builtin; refine list_appC _ _ rfl rfl rfl rfl rfl g3.out k3.out C3.out hp0 q1.out ?_; intro o4 c4 w4 g4 k4; refine Hid.out ?_)
        refine Lib.hid ?_
        rw [List.cons_append, List.cons_append, ← hfl.out] at k4
        have hm2 : Hid (m + 1 + q = 1 + (prsT ks ls (k + 1)).length) := Lib.hid (by
          have h1 := hm.out
          have h2 := congrArg List.length hfl.out
          rw [List.length_append, List.length_append, List.length_singleton] at h2
          omega)
        have hfe2 : Hid (firstE (ls.drop (k + 1)) = firstE ls) := Lib.hid (by rw [← hfe.out, hst.out]; simp)
        clear k3 C3 hfe hm hfl hst q1 hpos hcl q0 hc3
        go_wp2
        go_round
        case rel => exact ⟨k + 1, m + 1 + q, c4, o4, rfl, by go_num, by omega, by omega, hm2, k4, hfe2, g4⟩
        case measure => simp [intOf]; omega
      · have hz : firstE ls ≠ 0 ∧ firstE ls = E := by rw [← hfe.out, hst.out, if_neg h0]; exact ⟨h0, rfl⟩
        have hB := hzB.out
        have hE2 := hzE.out
        rw [if_neg hz.1] at hB hE2
        rw [hz.2] at hE2
        subst hB hE2
        clear hz hst hfe hpos hm hfl hown hzB hzE
        go_wp2_with fail
        refine HC.out.mono ?_
        rintro e w1 ⟨rfl, g1⟩
        go_wp2_with fail
        go_ret2
        exact ⟨CRes.nil _ _, Bel.trans hb.out g1⟩
    · obtain rfl : k = n := by omega
      have hz : firstE ls = 0 := by rw [← hfe.out, List.drop_of_length_le (by omega)]; rfl
      have htk : prsT ks ls k = prsC ks ls := prsT_all (by omega)
      have hB := hzB.out
      have hE2 := hzE.out
      rw [if_pos hz] at hB hE2
      have hO := hown.out
      have hm2 := hm.out
      have hso := HS.out
      rw [htk] at hO hm2
      rw [show (⟨6, 0, [], (k : Int)⟩ : Cel) :: prsC ks ls = mapC ks ls by unfold mapC; rw [hlen]] at hO
      obtain ⟨_, _, h1, hmc⟩ := own4_shape hO
      cases h1
      have HO := Lib.hid (own_cArg hO (fun c h => by
        rw [mapC] at h
        rcases List.mem_cons.1 h with rfl | h
        · exact fits_small _ _ _ _ (by omega) (by omega) (by omega) (by decide)
        · obtain ⟨⟨y, x⟩, hx, hc⟩ := List.mem_flatMap.1 h
          have hx2 := List.of_mem_zip hx
          rcases List.mem_cons.1 hc with rfl | hc
          · exact fits_small _ _ _ _ (by omega) (by omega) (by omega) (by rw [toL_len]; exact HKS.out _ hx2.1)
          · exact hfit.out x hx2.2 c hc))
      have HC := Lib.hid (checked_any (mapC ks ls) a m c' (by omega) hmc W0 (HL.out.on hb.out) HO.out)
      rw [hB, hE2] at HC
      clear hown hm hz htk hB hE2 hO hm2 HO hzB hzE hfe hso
      go_wp2_with fail
      refine HC.out.mono ?_
      rintro e w1 ⟨⟨o4, k4, c4, rfl, h4, h5⟩, g1⟩
      go_wp2_with fail
      go_ret2
      exact ⟨⟨o4, k4, c4, rfl, h4, h5⟩, Bel.trans hb.out g1⟩
theorem map_off (ks : List ByteArray) (ls : List (List Cel)) (o1 o2 : Option Addr) (n1 c1 n c : Nat) (h1 : ks.length = n1) (h2 : ls.length = n) (hne : n1 ≠ n) (w : World) :
    Calls Tryz.prog 39 #[.slice o1 n1 c1, .slice o2 n c] w fun e w' => CRes w' e (mapB ks ls) (mapE ks ls) ∧ Bel w w' := by
  have hB : mapB ks ls = [] := by unfold mapB; rw [if_neg (by omega)]
  have hE : mapE ks ls = 1 := by unfold mapE; rw [if_neg (by omega)]
  rw [hB, hE]
  have hne2 : ¬ (n1 : Int) = (n : Int) := by omega
  clear hB hE h1 h2 hne
  go_enter Tryz.func39, Tryz.ntmps39
  go_wp2
  go_ret2
  exact ⟨CRes.nil _ _, Bel.refl _⟩
end Val
end Go.Proofs.YtegfcmnbljdcpaaGreatDoor
