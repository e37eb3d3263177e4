/-
  Decimal digits, and the contracts of what writes them.
-/
import Derived.Test.YtghjflmanldjlaaDoorNumA
import Derived.Laws.IdiomStrings
import Derived.ShutString
import Derived.Deep.OwnRows
import Derived.Below
namespace Go.Proofs.YtghjflmanldjlaaDoor
open Go.RowKit
namespace Num

/-- How many digits, with at most f + 1 of them. -/
def ndF : Nat → Nat → Nat
  | 0, _ => 1
  | f + 1, n => if n < 10 then 1 else ndF f (n / 10) + 1
def dgt (d : Nat) : UInt8 := UInt8.ofNat (48 + d)
/-- The last k digits of n. -/
def digs : Nat → Nat → List UInt8
  | 0, _ => []
  | k + 1, n => digs k (n / 10) ++ [dgt (n % 10)]
theorem digs_len : ∀ k n, (digs k n).length = k
  | 0, _ => rfl
  | k + 1, n => by simp [digs, digs_len k]
theorem ndF_pos : ∀ f n, 1 ≤ ndF f n
  | 0, _ => Nat.le_refl _
  | f + 1, n => by unfold ndF; split <;> omega
theorem ndF_le : ∀ f n, ndF f n ≤ f + 1
  | 0, _ => Nat.le_refl _
  | f + 1, n => by have := ndF_le f (n / 10); unfold ndF; split <;> omega

theorem countDigits_any (N : Nat) (hN : N < 18446744073709551616) (w : World) :
    Calls Tryd.prog 57 #[.int .u64 (N : Int)] w fun e w' => e = .returned (.int .i64 (ndF 18 N : Int)) ∧ w = w' := by
  go_enter Tryd.func57, Tryd.ntmps57
  go_wp2
  go_loop [0, 4] (fun m i => ∃ (a k f : Nat), m = .int .u64 (a : Int) ∧ i = .int .i64 (k : Int) ∧ k ≤ 18 ∧ a < 18446744073709551616 ∧ k + f = 18 ∧ Hid (ndF 18 N = k + ndF f a)) (fun _ i => 18 - (intOf i).toNat)
  case atStart => exact ⟨N, 0, 18, rfl, rfl, by omega, hN, rfl, Lib.hid (by omega)⟩
  case round =>
    obtain ⟨a, k, f, rfl, rfl, hk, ha, hf, hr⟩ := hrel
    by_cases g : k < 18
    · obtain ⟨f, rfl⟩ : ∃ f', f = f' + 1 := ⟨f - 1, by omega⟩
      have hf' : k + f + 1 = 18 := by omega
      clear hf
      have Hf := Lib.hid hf'
      clear hf'
      by_cases g2 : a < 10
      · have hr' : Hid (ndF 18 N = k + 1) := Lib.hid (by rw [hr.out, ndF, if_pos g2])
        go_wp2
        go_ret
        exact ⟨by rw [hr'.out]; rfl, rfl⟩
      · have hr' : Hid (ndF 18 N = (k + 1) + ndF f (a / 10)) := Lib.hid (by rw [hr.out, ndF, if_neg g2]; omega)
        go_wp2
        go_round
        case rel => exact ⟨a / 10, k + 1, f, by go_num, by go_num, by omega, by omega, by have := Hf.out; omega, hr'⟩
        case measure => simp [intOf]; omega
    · obtain rfl : k = 18 := by omega
      obtain rfl : f = 0 := by omega
      clear hf
      have hr' : Hid (ndF 18 N = 19) := Lib.hid (by rw [hr.out]; rfl)
      go_wp2
      go_ret
      exact ⟨by rw [hr'.out]; rfl, rfl⟩

theorem digs_get : ∀ (k n i : Nat), i < k → (digs k n).getD (k - 1 - i) 0 = dgt (n / 10 ^ i % 10)
  | 0, _, _, h => by omega
  | k + 1, n, 0, _ => by simp [digs, digs_len]
  | k + 1, n, i + 1, h => by
    have e : k + 1 - 1 - (i + 1) = k - 1 - i := by omega
    have hl : k - 1 - i < (digs k (n / 10)).length := by rw [digs_len]; omega
    rw [e, digs, List.getD_eq_getElem?_getD, List.getElem?_append_left hl, ← List.getD_eq_getElem?_getD, digs_get k (n / 10) i (by omega), Nat.div_div_eq_div_mul, ← Nat.pow_succ']
/-- The cells of the digits behind i rounds. -/
def rowF (K N i : Nat) (j : Nat) : Value := if j < K - i then .int .u8 0 else .int .u8 (((digs K N).getD j 0).toNat : Int)

theorem info8 : (Tryd.prog.info? 5).map (fun i => (i.zero, i.size, i.bytes)) = some (some (.int .u8 0), 1, 1) := by kernel_rfl

/-- The decimal form. -/
def fmtL (n : Int) : List UInt8 := (if n < 0 then [45] else []) ++ digs (ndF 18 (abz n).toNat) (abz n).toNat
set_option maxRecDepth 100000 in
set_option maxHeartbeats 1000000 in
theorem format_any (n : Int) (h1 : -9223372036854775808 ≤ n) (h2 : n ≤ 9223372036854775807) (w : World) :
    Calls Tryd.prog 44 #[.int .i64 n] w fun e w' => e = .returned (.string ⟨(fmtL n).toArray⟩) ∧ Grown w w' := by
  unfold fmtL
  obtain ⟨N, hN⟩ : ∃ N : Nat, abz n = N := Int.eq_ofNat_of_zero_le (by unfold abz; split <;> omega)
  have hNb : N ≤ 9223372036854775808 := by unfold abz at hN; split at hN <;> omega
  rw [hN]
  have e : ((N : Int)).toNat = N := by omega
  rw [e]
  clear e
  have HN := Lib.hid hN
  clear hN
  have k0 := ndF_pos 18 N
  have k1 := ndF_le 18 N
  generalize hk : ndF 18 N = K at *
  have Hk := Lib.hid hk
  clear hk
  have hmk := fun W => run_make_row' (P := Tryd.prog) 63 5 (.int .u8 0) 1 Tryd.underlying63 info8 rfl .i64 .i64 K (by omega) (by omega) W
  go_enter Tryd.func44, Tryd.ntmps44
  go_wp2_with (first | (go_at_call 56; refine (amount_any _ (by omega) (by omega) _).mono ?_; rintro e w' ⟨rfl, rfl⟩; rw [HN.out]) | (go_at_call 57; refine (countDigits_any _ (by omega) _).mono ?_; rintro e w' ⟨rfl, rfl⟩; rw [Hk.out]))
  go_loopw [3, 13] (fun r c wr => ∃ (i m : Nat), i ≤ K ∧ c = .int .i64 (i : Int) ∧ r = .int .u64 (m : Int) ∧ m ≤ 9223372036854775808 ∧ Hid (m = N / 10 ^ i) ∧ wr.rowIs w.heap.size 5 K (rowF K N i) ∧ Grown w wr) (fun _ c _ => K - (intOf c).toNat)
  case atStart =>
    refine ⟨0, N, Nat.zero_le _, rfl, rfl, hNb, Lib.hid (by simp), ?_, (Grown.refl _).alloc _ _⟩
    exact (World.rowIs_made w (.int .u8 0) K 5).congr fun j hj => by simp [rowF, hj]
  case round =>
    obtain ⟨i, m, hi, rfl, rfl, hm, HM, hrow, hbel⟩ := hrel
    by_cases g : i < K
    · have hcell := hrow.cell (i := K - 1 - i) (by omega)
      have hfree := hrow.frozen (K - 1 - i)
      have HR := Lib.hid hrow
      have hdig := Lib.hid (digs_get K N i g)
      clear hrow
      go_wp2
      go_roundw
      case rel =>
        refine ⟨i + 1, m / 10, by omega, by go_num, by go_num, by omega, Lib.hid (by rw [HM.out, Nat.pow_succ, Nat.div_div_eq_div_mul]), ?_, hbel.setCell (Nat.le_refl _) _⟩
        refine (HR.out.set (K - 1 - i) _).congr fun j hj => ?_
        have hd := hdig.out
        rw [← HM.out] at hd
        unfold rowF
        by_cases e : j = K - 1 - i
        · subst e
          rw [if_pos rfl, if_neg (by omega), hd]
          simp [dgt]; omega
        · rw [if_neg e]
          by_cases e2 : j < K - i
          · rw [if_pos e2, if_pos (by omega)]
          · rw [if_neg e2, if_neg (by omega)]
      case measure => simp [intOf]; omega
    · obtain rfl : i = K := by omega
      have hl := digs_len i N
      have hstr : ∀ W, W = wr → (convert 63 9 (.slice (some ⟨w.heap.size, 0, none⟩) i i)).run Tryd.prog W = .ok (.string ⟨(digs i N).toArray⟩) W := by
        rintro W rfl
        have := run_convert_bytes_back (P := Tryd.prog) W 63 9 5 ⟨w.heap.size, 0, none⟩ i (digs i N) Tryd.underlying63 Tryd.underlying5 Tryd.underlying9 (fun j hj => by
          have hc := hrow.cell (i := j) (by omega)
          have : (⟨w.heap.size, 0, none⟩ : Addr).add j = ⟨w.heap.size, j, none⟩ := by simp [Addr.add]; omega
          rw [this, hc]
          have hj' : j < (digs i N).length := hj
          simp [rowF, List.getD_eq_getElem?_getD, List.getElem?_eq_getElem hj'])
        rw [hl] at this
        exact this
      have hs := hstr wr rfl
      have hlb : (digs i N).length ≤ 19 := by omega
      clear hstr hl hrow
      by_cases hn : n < 0
      · go_wp2
        go_ret
        exact ⟨by simp; exact ByteArray.ext (by simp), hbel⟩
      · go_wp2
        go_ret
        exact ⟨by simp, hbel⟩

end Num
end Go.Proofs.YtghjflmanldjlaaDoor
