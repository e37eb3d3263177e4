/-
  Layer 5: Child and Parent, in the reference and in the code.
-/
import Derived.Test.YtgchjfdldbadlaaIdnI
namespace Go.Proofs.Ytgchjfdldbadlaa
open Go.RowKit
namespace Num

set_option maxHeartbeats 1000000 in
theorem format_bel (n : Int) (h1 : -9223372036854775808 ≤ n) (h2 : n ≤ 9223372036854775807) (w : World) :
    Calls Try.prog 46 #[.int .i64 n] w fun e w' => e = .returned (.string ⟨(fmtL n).toArray⟩) ∧ Bel w w' := by
  unfold fmtL
  obtain ⟨N, hN⟩ : ∃ N : Nat, abz n = N := Int.eq_ofNat_of_zero_le (by unfold abz; split <;> omega)
  have hNb : N ≤ 9223372036854775808 := by unfold abz at hN; split at hN <;> omega
  rw [hN]
  have e : ((N : Int)).toNat = N := by omega
  rw [e]
  clear e
  have HN := Lib.hid hN
  clear hN
  have k0 := ndF_pos 18 N
  have k1 := ndF_le 18 N
  generalize hk : ndF 18 N = K at *
  have Hk := Lib.hid hk
  clear hk
  have hmk := fun W => run_make_row' (P := Try.prog) 56 5 (.int .u8 0) 1 Try.underlying56 info8 rfl .i64 .i64 K (by omega) (by omega) W
  go_enter Try.func46, Try.ntmps46
  go_wp2_with (first | (go_at_call 60; refine (amount_any _ (by omega) (by omega) _).mono ?_; rintro e w' ⟨rfl, rfl⟩; rw [HN.out]) | (go_at_call 61; refine (countDigits_any _ (by omega) _).mono ?_; rintro e w' ⟨rfl, rfl⟩; rw [Hk.out]))
  go_loopw [3, 13] (fun r c wr => ∃ (i m : Nat), i ≤ K ∧ c = .int .i64 (i : Int) ∧ r = .int .u64 (m : Int) ∧ m ≤ 9223372036854775808 ∧ Hid (m = N / 10 ^ i) ∧ wr.rowIs w.heap.size 5 K (rowF K N i) ∧ Bel w wr) (fun _ c _ => K - (intOf c).toNat)
  case atStart =>
    refine ⟨0, N, Nat.zero_le _, rfl, rfl, hNb, Lib.hid (by simp), ?_, (Bel.refl _).alloc _⟩
    exact (World.rowIs_made w (.int .u8 0) K 5).congr fun j hj => by simp [rowF, hj]
  case round =>
    obtain ⟨i, m, hi, rfl, rfl, hm, HM, hrow, hbel⟩ := hrel
    by_cases g : i < K
    · have hcell := hrow.cell (i := K - 1 - i) (by omega)
      have hfree := hrow.frozen (K - 1 - i)
      have HR := Lib.hid hrow
      have hdig := Lib.hid (digs_get K N i g)
      clear hrow
      go_wp2
      go_roundw
      case rel =>
        refine ⟨i + 1, m / 10, by omega, by go_num, by go_num, by omega, Lib.hid (by rw [HM.out, Nat.pow_succ, Nat.div_div_eq_div_mul]), ?_, hbel.setCell (Nat.le_refl _) _⟩
        refine (HR.out.set (K - 1 - i) _).congr fun j hj => ?_
        have hd := hdig.out
        rw [← HM.out] at hd
        unfold rowF
        by_cases e : j = K - 1 - i
        · subst e
          rw [if_pos rfl, if_neg (by omega), hd]
          simp [dgt]; omega
        · rw [if_neg e]
          by_cases e2 : j < K - i
          · rw [if_pos e2, if_pos (by omega)]
          · rw [if_neg e2, if_neg (by omega)]
      case measure => simp [intOf]; omega
    · obtain rfl : i = K := by omega
      have hl := digs_len i N
      have hstr : ∀ W, W = wr → (convert 56 9 (.slice (some ⟨w.heap.size, 0, none⟩) i i)).run Try.prog W = .ok (.string ⟨(digs i N).toArray⟩) W := by
        rintro W rfl
        have := run_convert_bytes_back (P := Try.prog) W 56 9 5 ⟨w.heap.size, 0, none⟩ i (digs i N) Try.underlying56 Try.underlying5 Try.underlying9 (fun j hj => by
          have hc := hrow.cell (i := j) (by omega)
          have : (⟨w.heap.size, 0, none⟩ : Addr).add j = ⟨w.heap.size, j, none⟩ := by simp [Addr.add]; omega
          rw [this, hc]
          have hj' : j < (digs i N).length := hj
          simp [rowF, List.getD_eq_getElem?_getD, List.getElem?_eq_getElem hj'])
        rw [hl] at this
        exact this
      have hs := hstr wr rfl
      have hlb : (digs i N).length ≤ 19 := by omega
      clear hstr hl hrow
      by_cases hn : n < 0
      · go_wp2
        go_ret
        exact ⟨by simp; exact ByteArray.ext (by simp), hbel⟩
      · go_wp2
        go_ret
        exact ⟨by simp, hbel⟩

theorem fmt_len (n : Int) : (fmtL n).length ≤ 20 := by
  unfold fmtL
  rw [List.length_append, digs_len]
  have := ndF_le 18 (abz n).toNat
  split
  · simp; omega
  · simp; omega
end Num
namespace Idn
open Num (fmtL)

theorem chi4 {id : List UInt8} {n : Int} (h : idB id = false) : chiT fmtL id n = [] ∧ chiE fmtL id n = 4 := by
  unfold chiT chiE chi
  rw [if_pos h]
  exact ⟨rfl, rfl⟩
theorem chi2 {id : List UInt8} {n : Int} (h : idB id = true) (h2 : n < 0 ∨ 1000000000000 < n) : chiT fmtL id n = [] ∧ chiE fmtL id n = 2 := by
  unfold chiT chiE chi
  rw [if_neg (by rw [h]; decide), if_pos h2]
  exact ⟨rfl, rfl⟩
theorem chi3 {id : List UInt8} {n : Int} (h : idB id = true) (h2 : ¬ (n < 0 ∨ 1000000000000 < n)) (h3 : 64 < id.length + 1 + (fmtL n).length) : chiT fmtL id n = [] ∧ chiE fmtL id n = 3 := by
  unfold chiT chiE chi
  rw [if_neg (by rw [h]; decide), if_neg h2, if_pos (by simp; omega)]
  exact ⟨rfl, rfl⟩
theorem chi0 {id : List UInt8} {n : Int} (h : idB id = true) (h2 : ¬ (n < 0 ∨ 1000000000000 < n)) (h3 : ¬ 64 < id.length + 1 + (fmtL n).length) : chiT fmtL id n = id ++ 46 :: fmtL n ∧ chiE fmtL id n = 0 := by
  unfold chiT chiE chi
  rw [if_neg (by rw [h]; decide), if_neg h2, if_neg (by simp; omega)]
  exact ⟨rfl, rfl⟩
theorem id_size {s : ByteArray} (h : idB s.toList = true) : 1 ≤ s.size ∧ s.size ≤ 64 := by
  rw [← toL_len]
  unfold idB at h
  simp only [Bool.and_eq_true, decide_eq_true_eq] at h
  exact h.1
theorem child_cat (id D : ByteArray) (l : List UInt8) (h : D.toList = l) : (id ++ (⟨#[46]⟩ : ByteArray)) ++ D = ⟨(id.toList ++ 46 :: l).toArray⟩ := by
  subst h
  apply ByteArray.ext
  apply Array.toList_inj.1
  simp [ByteArray.data_append, toL]
theorem size46 (id D : ByteArray) : ((id ++ (⟨#[46]⟩ : ByteArray)) ++ D).size = id.size + 1 + D.size := by
  have e : (⟨#[46]⟩ : ByteArray).size = 1 := rfl
  simp only [ByteArray.size_append, e]
/-- What a text and an error are as two results. -/
def two2 (t : List UInt8) (e : Int) : Ending := .returned (.tuple #[.string ⟨t.toArray⟩, .int .i64 e])
set_option maxHeartbeats 400000 in
theorem rchild_any (id : ByteArray) (n : Int) (hs : id.size ≤ maxLen) (w : World) :
    Calls Try.prog 22 #[.string id, .int .i64 n] w fun e w' => e = two2 (chiT fmtL id.toList n) (chiE fmtL id.toList n) ∧ w = w' := by
  unfold two2
  have HI := Lib.hid (rid_any id hs)
  cases hI : idB id.toList with
  | false =>
    have hz := Lib.hid (chi4 (n := n) hI)
    rw [hI] at HI
    clear hI
    go_enter Try.func22, Try.ntmps22
    go_wp2_with (go_at_call 13; ((with_reducible refine (HI.out _).mono ?_); rintro e w' ⟨rfl, rfl⟩))
    go_ret2
    exact ⟨by rw [hz.out.1, hz.out.2]; rfl, rfl⟩
  | true =>
    obtain ⟨z1, z2⟩ := id_size hI
    rw [hI] at HI
    by_cases hn : n < 0 ∨ 1000000000000 < n
    · have hz := Lib.hid (chi2 hI hn)
      clear hI
      by_cases h0 : n < 0
      all_goals
        go_enter Try.func22, Try.ntmps22
        go_wp2_with (go_at_call 13; ((with_reducible refine (HI.out _).mono ?_); rintro e w' ⟨rfl, rfl⟩))
        go_ret2
        exact ⟨by rw [hz.out.1, hz.out.2]; rfl, rfl⟩
    · obtain ⟨D, hD⟩ : ∃ D : ByteArray, ⟨(fmtL n).toArray⟩ = D := ⟨_, rfl⟩
      have hDl : D.toList = fmtL n := by rw [← hD, tl]
      have hF := Num.rformat_any n (by omega) (by omega)
      rw [hD] at hF
      have HF := Lib.hid hF
      have zD : D.size ≤ 20 := by rw [← toL_len, hDl]; exact Num.fmt_len n
      have eD : (fmtL n).length = D.size := by rw [← toL_len, hDl]
      have eI : id.toList.length = id.size := toL_len id
      have hC := Lib.hid (child_cat id D _ hDl)
      have n1 : 0 ≤ n := by omega
      have n2 : n ≤ 1000000000000 := by omega
      have hsz := Lib.hid (size46 id D)
      by_cases h3 : 64 < id.size + 1 + D.size
      · have hz := Lib.hid (chi3 hI hn (by rw [eI, eD]; exact h3))
        clear hI hF hn eD hDl hD eI
        go_enter Try.func22, Try.ntmps22
        go_wp2_with (first | (go_at_call 13; ((with_reducible refine (HI.out _).mono ?_); rintro e w' ⟨rfl, rfl⟩)) | (go_at_call 47; ((with_reducible refine (HF.out _).mono ?_); rintro e w' ⟨rfl, rfl⟩)))
        go_ret2
        exact ⟨by rw [hz.out.1, hz.out.2]; rfl, rfl⟩
      · have hz := Lib.hid (chi0 hI hn (by rw [eI, eD]; exact h3))
        clear hI hF hn eD hDl hD eI
        go_enter Try.func22, Try.ntmps22
        go_wp2_with (first | (go_at_call 13; ((with_reducible refine (HI.out _).mono ?_); rintro e w' ⟨rfl, rfl⟩)) | (go_at_call 47; ((with_reducible refine (HF.out _).mono ?_); rintro e w' ⟨rfl, rfl⟩)))
        go_ret2
        exact ⟨by rw [hz.out.1, hz.out.2, ← hC.out]; rfl, rfl⟩
set_option maxHeartbeats 400000 in
theorem child_any (id : ByteArray) (n : Int) (w : World) :
    Calls Try.prog 21 #[.string id, .int .i64 n] w fun e w' => e = two2 (chiT fmtL id.toList n) (chiE fmtL id.toList n) ∧ Bel w w' := by
  unfold two2
  have HI := Lib.hid (id_any id)
  have G := Bel.refl w
  have HV := Lib.hid (Num.valid_any n)
  cases hI : idB id.toList with
  | false =>
    have hz := Lib.hid (chi4 (n := n) hI)
    rw [hI] at HI
    clear hI
    go_enter Try.func21, Try.ntmps21
    go_wp2_with (go_at_call 12; ((with_reducible refine (HI.out _).mono ?_); rintro e w' ⟨rfl, g⟩; replace G := Bel.trans G g; clear g))
    go_ret2
    exact ⟨by rw [hz.out.1, hz.out.2]; rfl, G⟩
  | true =>
    obtain ⟨z1, z2⟩ := id_size hI
    rw [hI] at HI
    by_cases hn : n < 0 ∨ 1000000000000 < n
    · have hz := Lib.hid (chi2 hI hn)
      clear hI
      have hv : 0 ≤ n → Num.vld n = false := fun h => Num.vld_not (by omega)
      by_cases h0 : n < 0
      all_goals
        first
          | rw [hv (by omega)] at HV
          | skip
        clear hv
        go_enter Try.func21, Try.ntmps21
        go_wp2_with (first | (go_at_call 45; ((with_reducible refine (HV.out _).mono ?_); rintro e w' ⟨rfl, rfl⟩)) | (go_at_call 12; ((with_reducible refine (HI.out _).mono ?_); rintro e w' ⟨rfl, g⟩; replace G := Bel.trans G g; clear g)))
        go_ret2
        exact ⟨by rw [hz.out.1, hz.out.2]; rfl, G⟩
    · obtain ⟨D, hD⟩ : ∃ D : ByteArray, ⟨(fmtL n).toArray⟩ = D := ⟨_, rfl⟩
      have hDl : D.toList = fmtL n := by rw [← hD, tl]
      have hF := Num.format_bel n (by omega) (by omega)
      rw [hD] at hF
      have HF := Lib.hid hF
      have zD : D.size ≤ 20 := by rw [← toL_len, hDl]; exact Num.fmt_len n
      have eD : (fmtL n).length = D.size := by rw [← toL_len, hDl]
      have eI : id.toList.length = id.size := toL_len id
      have hC := Lib.hid (child_cat id D _ hDl)
      rw [Num.vld_of (by omega) (by omega)] at HV
      have n1 : 0 ≤ n := by omega
      have n2 : n ≤ 1000000000000 := by omega
      have hsz := Lib.hid (size46 id D)
      by_cases h3 : 64 < id.size + 1 + D.size
      · have hz := Lib.hid (chi3 hI hn (by rw [eI, eD]; exact h3))
        clear hI hF hn eD hDl hD eI
        go_enter Try.func21, Try.ntmps21
        go_wp2_with (first | (go_at_call 45; ((with_reducible refine (HV.out _).mono ?_); rintro e w' ⟨rfl, rfl⟩)) | (go_at_call 12; ((with_reducible refine (HI.out _).mono ?_); rintro e w' ⟨rfl, g⟩; replace G := Bel.trans G g; clear g)) | (go_at_call 46; ((with_reducible refine (HF.out _).mono ?_); rintro e w' ⟨rfl, g⟩; replace G := Bel.trans G g; clear g)))
        go_ret2
        exact ⟨by rw [hz.out.1, hz.out.2]; rfl, G⟩
      · have hz := Lib.hid (chi0 hI hn (by rw [eI, eD]; exact h3))
        clear hI hF hn eD hDl hD eI
        go_enter Try.func21, Try.ntmps21
        go_wp2_with (first | (go_at_call 45; ((with_reducible refine (HV.out _).mono ?_); rintro e w' ⟨rfl, rfl⟩)) | (go_at_call 12; ((with_reducible refine (HI.out _).mono ?_); rintro e w' ⟨rfl, g⟩; replace G := Bel.trans G g; clear g)) | (go_at_call 46; ((with_reducible refine (HF.out _).mono ?_); rintro e w' ⟨rfl, g⟩; replace G := Bel.trans G g; clear g)))
        go_ret2
        exact ⟨by rw [hz.out.1, hz.out.2, ← hC.out]; rfl, G⟩
end Idn
end Go.Proofs.Ytgchjfdldbadlaa
