/-
  Layer 8, texts merged: NumA, NumE, NumF, NumG, NumH, NumI. For every argument within the bounds that each theorem names.
-/
import Derived.Test.YtinadbomebgfaaaGreatDoorRows
import Derived.WalkKit
import Derived.Lib.Hide
import Derived.Deep.QuietTactic
import Derived.BigQuiet
import Derived.RowKit3
import Derived.Laws.IdiomStrings
import Derived.ShutString
import Derived.Deep.OwnRows
import Derived.Below
import Derived.Test.YtinadbomebgfaaaGreatDoorShelf

/-
  Contracts of the plain functions of package num and of its reference: which integer or error each one returns.
-/
namespace Go.Proofs.YtinadbomebgfaaaGreatDoor
open Go.RowKit
namespace Num

/-- A valid integer. -/
def vld (n : Int) : Bool := decide (-1000000000000 ≤ n ∧ n ≤ 1000000000000)
theorem vld_true {n : Int} (h : vld n = true) : -1000000000000 ≤ n ∧ n ≤ 1000000000000 := of_decide_eq_true h
theorem vld_false {n : Int} (h : vld n = false) : ¬ (-1000000000000 ≤ n ∧ n ≤ 1000000000000) := of_decide_eq_false h
theorem vld_of {n : Int} (h1 : -1000000000000 ≤ n) (h2 : n ≤ 1000000000000) : vld n = true := decide_eq_true ⟨h1, h2⟩
theorem vld_not {n : Int} (h : ¬ (-1000000000000 ≤ n ∧ n ≤ 1000000000000)) : vld n = false := decide_eq_false h

theorem valid_any (n : Int) (w : World) :
    Calls Tryz.prog 153 #[.int .i64 n] w fun e w' => e = .returned (.bool (vld n)) ∧ w = w' := by
  unfold vld
  by_cases h1 : -1000000000000 ≤ n
  · go_enter Tryz.func153, Tryz.ntmps153
    go_wp2
    go_ret
    exact ⟨by simp [h1], rfl⟩
  · have h1' : n < -1000000000000 := by omega
    go_enter Tryz.func153, Tryz.ntmps153
    go_wp2
    go_ret
    exact ⟨by simp; omega, rfl⟩
theorem rvalid_any (n : Int) (w : World) :
    Calls Tryz.prog 140 #[.int .i64 n] w fun e w' => e = .returned (.bool (vld n)) ∧ w = w' := by
  unfold vld
  by_cases h1 : -1000000000000 ≤ n
  · go_enter Tryz.func140, Tryz.ntmps140
    go_wp2
    go_ret
    exact ⟨by simp [h1], rfl⟩
  · have h1' : n < -1000000000000 := by omega
    go_enter Tryz.func140, Tryz.ntmps140
    go_wp2
    go_ret
    exact ⟨by simp; omega, rfl⟩
/-- An integer that is valid and not negative. -/
def amt (n : Int) : Bool := decide (0 ≤ n) && decide (n ≤ 1000000000000)
theorem amt_true {n : Int} (h : amt n = true) : 0 ≤ n ∧ n ≤ 1000000000000 := by simpa [amt] using h
theorem amt_of {n : Int} (h1 : 0 ≤ n) (h2 : n ≤ 1000000000000) : amt n = true := by simp [amt, h1, h2]
/-- A pair of an integer and an error. -/
def pair (n e : Int) : Ending := .returned (.tuple #[.int .i64 n, .int .i64 e])
def trip (n m e : Int) : Ending := .returned (.tuple #[.int .i64 n, .int .i64 m, .int .i64 e])

/-- What checked returns. -/
def chk (n : Int) : Int := if vld n then n else 0
def chkE (n : Int) : Int := if vld n then 0 else 8
def addV (a b : Int) : Int := if vld a && vld b then chk (a + b) else 0
def addE (a b : Int) : Int := if vld a && vld b then chkE (a + b) else 2
/-- The amount of an integer. -/
def abz (n : Int) : Int := if n < 0 then -n else n
theorem abz_neg {n : Int} (h : n < 0) : abz n = -n := if_pos h
theorem abz_pos {n : Int} (h : ¬ n < 0) : abz n = n := if_neg h
theorem wf_bd {n : Int} (w0 : (Lit.int .i64 n).wf = true) : -9223372036854775808 ≤ n ∧ n ≤ 9223372036854775807 := by
  have h : (decide ((-9223372036854775808 : Int) ≤ n) && decide (n ≤ (9223372036854775807 : Int))) = true := w0
  simpa using h
theorem amount_any (n : Int) (h1 : -9223372036854775808 ≤ n) (h2 : n ≤ 9223372036854775807) (w : World) :
    Calls Tryz.prog 154 #[.int .i64 n] w fun e w' => e = .returned (.int .u64 (abz n)) ∧ w = w' := by
  by_cases h : n < 0
  · rw [abz_neg h]
    go_enter Tryz.func154, Tryz.ntmps154
    go_wp2
    go_ret
    refine ⟨?_, rfl⟩
    have e : IntKind.u64.wrap (-IntKind.u64.wrap n) = -n := by rw [IntKind.wrap_u64, IntKind.wrap_u64]; omega
    simp [e]
  · rw [abz_pos h]
    go_enter Tryz.func154, Tryz.ntmps154
    go_wp2
    go_ret
    exact ⟨by simp, rfl⟩
theorem abz_vld {a : Int} (h : vld a = true) : 0 ≤ abz a ∧ abz a ≤ 1000000000000 := by
  have := vld_true h; unfold abz; split <;> omega
/-- The test of Mul agrees with the product's own size. -/
theorem mul_test {a b : Int} (h : a ≠ 0) : 1000000000000 / abz a < abz b ↔ vld (a * b) = false := by
  have e : abz (a * b) = abz a * abz b := by
    unfold abz
    by_cases ha : a < 0 <;> by_cases hb : b < 0
    · have : ¬ a * b < 0 := by have := Int.mul_pos_of_neg_of_neg ha hb; omega
      simp [ha, hb, this, Int.neg_mul_neg]
    · by_cases hz : b = 0
      · subst hz; simp
      · have : a * b < 0 := Int.mul_neg_of_neg_of_pos ha (by omega)
        simp [ha, hb, this, Int.neg_mul]
    · have : a * b < 0 := Int.mul_neg_of_pos_of_neg (by omega) hb
      simp [ha, hb, this, Int.mul_neg]
    · have : ¬ a * b < 0 := by have := Int.mul_nonneg (a := a) (b := b) (by omega) (by omega); omega
      simp [ha, hb, this]
  have p : 0 < abz a := by unfold abz; split <;> omega
  have q : vld (a * b) = false ↔ 1000000000000 < abz (a * b) := by
    unfold vld abz; rw [decide_eq_false_iff_not]; split <;> omega
  rw [q, e]
  constructor
  · intro h; have := (Int.ediv_lt_iff_lt_mul p).1 h; rw [Int.mul_comm] at this; exact this
  · intro h; apply (Int.ediv_lt_iff_lt_mul p).2; rw [Int.mul_comm]; exact h

def mulV (a b : Int) : Int := if vld a && vld b then chk (a * b) else 0
def mulE (a b : Int) : Int := if vld a && vld b then chkE (a * b) else 2
def subV (a b : Int) : Int := if vld a && vld b then chk (a - b) else 0
def subE (a b : Int) : Int := if vld a && vld b then chkE (a - b) else 2

def clampV (n low high : Int) : Int := if n < low then low else if high < n then high else n

end Num
end Go.Proofs.YtinadbomebgfaaaGreatDoor

/-
  Decimal digits, and the contracts of what writes them.
-/
namespace Go.Proofs.YtinadbomebgfaaaGreatDoor
open Go.RowKit
namespace Num

/-- How many digits, with at most f + 1 of them. -/
def ndF : Nat → Nat → Nat
  | 0, _ => 1
  | f + 1, n => if n < 10 then 1 else ndF f (n / 10) + 1
def dgt (d : Nat) : UInt8 := UInt8.ofNat (48 + d)
/-- The last k digits of n. -/
def digs : Nat → Nat → List UInt8
  | 0, _ => []
  | k + 1, n => digs k (n / 10) ++ [dgt (n % 10)]
theorem digs_len : ∀ k n, (digs k n).length = k
  | 0, _ => rfl
  | k + 1, n => by simp [digs, digs_len k]
theorem ndF_pos : ∀ f n, 1 ≤ ndF f n
  | 0, _ => Nat.le_refl _
  | f + 1, n => by unfold ndF; split <;> omega
theorem ndF_le : ∀ f n, ndF f n ≤ f + 1
  | 0, _ => Nat.le_refl _
  | f + 1, n => by have := ndF_le f (n / 10); unfold ndF; split <;> omega

theorem countDigits_any (N : Nat) (hN : N < 18446744073709551616) (w : World) :
    Calls Tryz.prog 155 #[.int .u64 (N : Int)] w fun e w' => e = .returned (.int .i64 (ndF 18 N : Int)) ∧ w = w' := by
  go_enter Tryz.func155, Tryz.ntmps155
  go_wp2
  go_loop [0, 4] (fun m i => ∃ (a k f : Nat), m = .int .u64 (a : Int) ∧ i = .int .i64 (k : Int) ∧ k ≤ 18 ∧ a < 18446744073709551616 ∧ k + f = 18 ∧ Hid (ndF 18 N = k + ndF f a)) (fun _ i => 18 - (intOf i).toNat)
  case atStart => exact ⟨N, 0, 18, rfl, rfl, by omega, hN, rfl, Lib.hid (by omega)⟩
  case round =>
    obtain ⟨a, k, f, rfl, rfl, hk, ha, hf, hr⟩ := hrel
    by_cases g : k < 18
    · obtain ⟨f, rfl⟩ : ∃ f', f = f' + 1 := ⟨f - 1, by omega⟩
      have hf' : k + f + 1 = 18 := by omega
      clear hf
      have Hf := Lib.hid hf'
      clear hf'
      by_cases g2 : a < 10
      · have hr' : Hid (ndF 18 N = k + 1) := Lib.hid (by rw [hr.out, ndF, if_pos g2])
        go_wp2
        go_ret
        exact ⟨by rw [hr'.out]; rfl, rfl⟩
      · have hr' : Hid (ndF 18 N = (k + 1) + ndF f (a / 10)) := Lib.hid (by rw [hr.out, ndF, if_neg g2]; omega)
        go_wp2
        go_round
        case rel => exact ⟨a / 10, k + 1, f, by go_num, by go_num, by omega, by omega, by have := Hf.out; omega, hr'⟩
        case measure => simp [intOf]; omega
    · obtain rfl : k = 18 := by omega
      obtain rfl : f = 0 := by omega
      clear hf
      have hr' : Hid (ndF 18 N = 19) := Lib.hid (by rw [hr.out]; rfl)
      go_wp2
      go_ret
      exact ⟨by rw [hr'.out]; rfl, rfl⟩

theorem digs_get : ∀ (k n i : Nat), i < k → (digs k n).getD (k - 1 - i) 0 = dgt (n / 10 ^ i % 10)
  | 0, _, _, h => by omega
  | k + 1, n, 0, _ => by simp [digs, digs_len]
  | k + 1, n, i + 1, h => by
    have e : k + 1 - 1 - (i + 1) = k - 1 - i := by omega
    have hl : k - 1 - i < (digs k (n / 10)).length := by rw [digs_len]; omega
    rw [e, digs, List.getD_eq_getElem?_getD, List.getElem?_append_left hl, ← List.getD_eq_getElem?_getD, digs_get k (n / 10) i (by omega), Nat.div_div_eq_div_mul, ← Nat.pow_succ']
/-- The cells of the digits behind i rounds. -/
def rowF (K N i : Nat) (j : Nat) : Value := if j < K - i then .int .u8 0 else .int .u8 (((digs K N).getD j 0).toNat : Int)

theorem info8 : (Tryz.prog.info? 5).map (fun i => (i.zero, i.size, i.bytes)) = some (some (.int .u8 0), 1, 1) := by kernel_rfl

/-- The decimal form. -/
def fmtL (n : Int) : List UInt8 := (if n < 0 then [45] else []) ++ digs (ndF 18 (abz n).toNat) (abz n).toNat
set_option maxRecDepth 100000 in
set_option maxHeartbeats 1000000 in
theorem format_any (n : Int) (h1 : -9223372036854775808 ≤ n) (h2 : n ≤ 9223372036854775807) (w : World) :
    Calls Tryz.prog 123 #[.int .i64 n] w fun e w' => e = .returned (.string ⟨(fmtL n).toArray⟩) ∧ Grown w w' := by
  unfold fmtL
  obtain ⟨N, hN⟩ : ∃ N : Nat, abz n = N := Int.eq_ofNat_of_zero_le (by unfold abz; split <;> omega)
  have hNb : N ≤ 9223372036854775808 := by unfold abz at hN; split at hN <;> omega
  rw [hN]
  have e : ((N : Int)).toNat = N := by omega
  rw [e]
  clear e
  have HN := Lib.hid hN
  clear hN
  have k0 := ndF_pos 18 N
  have k1 := ndF_le 18 N
  generalize hk : ndF 18 N = K at *
  have Hk := Lib.hid hk
  clear hk
  have hmk := fun W => run_make_row' (P := Tryz.prog) 93 5 (.int .u8 0) 1 Tryz.underlying93 info8 rfl .i64 .i64 K (by omega) (by omega) W
  go_enter Tryz.func123, Tryz.ntmps123
  go_wp2_with (first | (go_at_call 154; refine (amount_any _ (by omega) (by omega) _).mono ?_; rintro e w' ⟨rfl, rfl⟩; rw [HN.out]) | (go_at_call 155; refine (countDigits_any _ (by omega) _).mono ?_; rintro e w' ⟨rfl, rfl⟩; rw [Hk.out]))
  go_loopw [3, 13] (fun r c wr => ∃ (i m : Nat), i ≤ K ∧ c = .int .i64 (i : Int) ∧ r = .int .u64 (m : Int) ∧ m ≤ 9223372036854775808 ∧ Hid (m = N / 10 ^ i) ∧ wr.rowIs w.heap.size 5 K (rowF K N i) ∧ Grown w wr) (fun _ c _ => K - (intOf c).toNat)
  case atStart =>
    refine ⟨0, N, Nat.zero_le _, rfl, rfl, hNb, Lib.hid (by simp), ?_, (Grown.refl _).alloc _ _⟩
    exact (World.rowIs_made w (.int .u8 0) K 5).congr fun j hj => by simp [rowF, hj]
  case round =>
    obtain ⟨i, m, hi, rfl, rfl, hm, HM, hrow, hbel⟩ := hrel
    by_cases g : i < K
    · have hcell := hrow.cell (i := K - 1 - i) (by omega)
      have hfree := hrow.frozen (K - 1 - i)
      have HR := Lib.hid hrow
      have hdig := Lib.hid (digs_get K N i g)
      clear hrow
      go_wp2
      go_roundw
      case rel =>
        refine ⟨i + 1, m / 10, by omega, by go_num, by go_num, by omega, Lib.hid (by rw [HM.out, Nat.pow_succ, Nat.div_div_eq_div_mul]), ?_, hbel.setCell (Nat.le_refl _) _⟩
        refine (HR.out.set (K - 1 - i) _).congr fun j hj => ?_
        have hd := hdig.out
        rw [← HM.out] at hd
        unfold rowF
        by_cases e : j = K - 1 - i
        · subst e
          rw [if_pos rfl, if_neg (by omega), hd]
          simp [dgt]; omega
        · rw [if_neg e]
          by_cases e2 : j < K - i
          · rw [if_pos e2, if_pos (by omega)]
          · rw [if_neg e2, if_neg (by omega)]
      case measure => simp [intOf]; omega
    · obtain rfl : i = K := by omega
      have hl := digs_len i N
      have hstr : ∀ W, W = wr → (convert 93 9 (.slice (some ⟨w.heap.size, 0, none⟩) i i)).run Tryz.prog W = .ok (.string ⟨(digs i N).toArray⟩) W := by
        rintro W rfl
        have := run_convert_bytes_back (P := Tryz.prog) W 93 9 5 ⟨w.heap.size, 0, none⟩ i (digs i N) Tryz.underlying93 Tryz.underlying5 Tryz.underlying9 (fun j hj => by
          have hc := hrow.cell (i := j) (by omega)
          have : (⟨w.heap.size, 0, none⟩ : Addr).add j = ⟨w.heap.size, j, none⟩ := by simp [Addr.add]; omega
          rw [this, hc]
          have hj' : j < (digs i N).length := hj
          simp [rowF, List.getD_eq_getElem?_getD, List.getElem?_eq_getElem hj'])
        rw [hl] at this
        exact this
      have hs := hstr wr rfl
      have hlb : (digs i N).length ≤ 19 := by omega
      clear hstr hl hrow
      by_cases hn : n < 0
      · go_wp2
        go_ret
        exact ⟨by simp; exact ByteArray.ext (by simp), hbel⟩
      · go_wp2
        go_ret
        exact ⟨by simp, hbel⟩

end Num
end Go.Proofs.YtinadbomebgfaaaGreatDoor

/-
  The reference's Format, and what Parse and its reference read.
-/
namespace Go.Proofs.YtinadbomebgfaaaGreatDoor
open Go.RowKit
namespace Num

/-- What is left to write, and what is written. -/
def Left (D : List UInt8) (a : Nat) (s : List UInt8) : Prop :=
  (a = 0 ∧ s ≠ [] ∧ s = D) ∨ (∃ f, (a ≠ 0 ∨ s = []) ∧ a < 10 ^ (f + 1) ∧ digs (ndF f a) a ++ s = D)
theorem Left.start {N : Nat} (h : N < 10 ^ 19) : Left (digs (ndF 18 N) N) N [] := Or.inr ⟨18, Or.inr rfl, h, by simp⟩
theorem Left.step {D s : List UInt8} {a : Nat} (h : Left D a s) (g : a ≠ 0 ∨ s = []) : Left D (a / 10) (dgt (a % 10) :: s) := by
  rcases h with ⟨h1, h2, h3⟩ | ⟨f, h1, h2, h3⟩
  · rcases g with g | g
    · exact absurd h1 g
    · exact absurd g h2
  · by_cases ha : a < 10
    · refine Or.inl ⟨by omega, by simp, ?_⟩
      have e : digs (ndF f a) a = [dgt (a % 10)] := by
        cases f with
        | zero => simp [ndF, digs]
        | succ f => simp [ndF, ha, digs]
      rw [e] at h3
      exact h3
    · cases f with
      | zero => simp at h2; omega
      | succ f =>
        refine Or.inr ⟨f, Or.inl (by omega), ?_, ?_⟩
        · rw [Nat.pow_succ] at h2; omega
        · rw [ndF, if_neg ha, digs, List.append_assoc] at h3
          exact h3
theorem Left.done {D s : List UInt8} {a : Nat} (h : Left D a s) (g : ¬ (a ≠ 0 ∨ s = [])) : s = D := by
  rcases h with ⟨h1, h2, h3⟩ | ⟨f, h1, h2, h3⟩
  · exact h3
  · exact absurd h1 g
theorem Left.len {D s : List UInt8} {a : Nat} (h : Left D a s) : s.length ≤ D.length := by
  rcases h with ⟨h1, h2, h3⟩ | ⟨f, h1, h2, h3⟩
  · rw [h3]; exact Nat.le_refl _
  · rw [← h3]; simp

theorem extract_dig : ∀ d : Fin 10, (ByteArray.extract ⟨#[48, 49, 50, 51, 52, 53, 54, 55, 56, 57]⟩ d.val (d.val + 1)) = ⟨#[dgt d.val]⟩ := by decide +kernel
theorem slice_dig (d : Nat) (h : d < 10) (W : World) : (Instr.slice 9 (.string ⟨#[48, 49, 50, 51, 52, 53, 54, 55, 56, 57]⟩) (some (.int .i64 (d : Int))) (some (.int .i64 ((d : Int) + 1))) none).run Tryz.prog W = .ok (.string ⟨#[dgt d]⟩) W := by
  have := run_slice_string (P := Tryz.prog) W 9 ⟨#[48, 49, 50, 51, 52, 53, 54, 55, 56, 57]⟩ .i64 .i64 (d : Int) ((d : Int) + 1) Tryz.underlying9 (by omega) (by omega) (by show (d : Int) + 1 ≤ ((10 : Nat) : Int); omega)
  rw [this]
  have e : ((d : Int) + 1).toNat = d + 1 := by omega
  rw [Int.toNat_natCast, e, extract_dig ⟨d, h⟩]
theorem push_dig (x : UInt8) (t : List UInt8) : (⟨#[x]⟩ : ByteArray) ++ ⟨t.toArray⟩ = ⟨(x :: t).toArray⟩ := ByteArray.ext (by simp)

/-- 1 for the empty string. -/
def emp : Value → Nat
  | .string s => 1 - s.size
  | _ => 0

set_option maxHeartbeats 1000000 in
theorem rformat_pos (N : Nat) (h2 : N ≤ 9223372036854775807) (w : World) :
    Calls Tryz.prog 141 #[.int .i64 (N : Int)] w fun e w' => e = .returned (.string ⟨(digs (ndF 18 N) N).toArray⟩) ∧ w = w' := by
  have hst := Lib.hid (Left.start (N := N) (by omega))
  have hD : (digs (ndF 18 N) N).length ≤ 19 := by rw [digs_len]; exact ndF_le 18 N
  generalize digs (ndF 18 N) N = D at *
  go_enter Tryz.func141, Tryz.ntmps141
  go_wp2
  go_loop [4, 5] (fun s m => ∃ (a : Nat) (t : List UInt8), s = .string ⟨t.toArray⟩ ∧ m = .int .i64 (a : Int) ∧ a ≤ 9223372036854775807 ∧ Hid (Left D a t)) (fun s m => (intOf m).toNat + emp s)
  case atStart => exact ⟨N, [], rfl, rfl, h2, hst⟩
  case round =>
    obtain ⟨a, t, rfl, rfl, ha, hl⟩ := hrel
    have hlen := hl.out.len
    have hlen' : t.length ≤ 19 := by omega
    have hsl := slice_dig (a % 10) (by omega)
    rw [show ((a % 10 : Nat) : Int) = (a : Int) % 10 from by omega] at hsl
    by_cases g : a = 0
    · subst g
      by_cases g2 : t = []
      · subst g2
        have hn := Lib.hid (hl.out.step (Or.inr rfl))
        go_wp2
        go_round
        case rel => exact ⟨0, [dgt 0], congrArg Value.string (ByteArray.ext (by simp [dgt])), rfl, by omega, hn⟩
        case measure => simp [intOf, emp]; decide
      · have hd := Lib.hid (hl.out.done (by simp [g2]))
        have g3 : t.isEmpty = false := by simp [g2]
        go_wp2
        go_ret
        exact ⟨by rw [hd.out]; rfl, rfl⟩
    · have g1 : 1 ≤ a := by omega
      have hn := Lib.hid (hl.out.step (Or.inl g))
      go_wp2
      go_round
      case rel => exact ⟨a / 10, dgt (a % 10) :: t, congrArg Value.string (ByteArray.ext (by simp)), by go_num, by omega, hn⟩
      case measure => simp [intOf, emp]; omega

theorem neg_div (a : Nat) : (-(a : Int)).tdiv 10 = -((a / 10 : Nat) : Int) := by rw [Int.neg_tdiv, Int.tdiv_eq_ediv_of_nonneg (by omega)]; omega
theorem neg_mod (a : Nat) : (-(a : Int)).tmod 10 = -((a % 10 : Nat) : Int) := by rw [Int.neg_tmod, Int.tmod_eq_emod_of_nonneg (by omega)]; omega

set_option maxHeartbeats 1000000 in
theorem rformat_neg (N : Nat) (h1 : 1 ≤ N) (h2 : N ≤ 9223372036854775808) (n : Int) (hn : Hid (n = -(N : Int))) (w : World) :
    Calls Tryz.prog 141 #[.int .i64 n] w fun e w' => e = .returned (.string ⟨(45 :: digs (ndF 18 N) N).toArray⟩) ∧ w = w' := by
  have hst := Lib.hid (Left.start (N := N) (by omega))
  have hD : (digs (ndF 18 N) N).length ≤ 19 := by rw [digs_len]; exact ndF_le 18 N
  generalize digs (ndF 18 N) N = D at *
  have hneg : n < 0 := by have := hn.out; omega
  have hlow : -9223372036854775808 ≤ n := by have := hn.out; omega
  go_enter Tryz.func141, Tryz.ntmps141
  go_wp2
  go_loop [4, 5] (fun s m => ∃ (a : Nat) (k : Int) (t : List UInt8), s = .string ⟨t.toArray⟩ ∧ m = .int .i64 k ∧ a ≤ 9223372036854775808 ∧ k ≤ 0 ∧ -9223372036854775808 ≤ k ∧ Hid (k = -(a : Int)) ∧ Hid (Left D a t)) (fun s m => (-intOf m).toNat + emp s)
  case atStart => exact ⟨N, n, [], rfl, rfl, h2, by omega, by omega, hn, hst⟩
  case round =>
    obtain ⟨a, k, t, rfl, rfl, ha, hk0, hk1, hk, hl⟩ := hrel
    have hlen := hl.out.len
    have hlen' : t.length ≤ 19 := by omega
    by_cases g : a = 0
    · subst g
      have hkz : k = 0 := by have := hk.out; omega
      subst hkz
      have hsl := slice_dig 0 (by omega)
      by_cases g2 : t = []
      · subst g2
        have hn := Lib.hid (hl.out.step (Or.inr rfl))
        go_wp2
        go_round
        case rel => exact ⟨0, 0, [dgt 0], congrArg Value.string (ByteArray.ext (by simp [dgt])), rfl, by omega, by omega, by omega, Lib.hid rfl, hn⟩
        case measure => simp [intOf, emp]; decide
      · have hd := Lib.hid (hl.out.done (by simp [g2]))
        have g3 : t.isEmpty = false := by simp [g2]
        go_wp2
        go_ret
        exact ⟨by rw [← hd.out]; exact congrArg (Ending.returned ∘ Value.string) (ByteArray.ext (by simp)), rfl⟩
    · have g1 : 1 ≤ a := by omega
      have hn' := Lib.hid (hl.out.step (Or.inl g))
      have hkn : k < 0 := by have := hk.out; omega
      have hkb : (k != 0) = true := by simp; omega
      have em : k.tmod 10 = -((a % 10 : Nat) : Int) := by rw [hk.out]; exact neg_mod a
      have ed : k.tdiv 10 = -((a / 10 : Nat) : Int) := by rw [hk.out]; exact neg_div a
      have hsl := slice_dig (a % 10) (by omega)
      obtain ⟨d, hd⟩ : ∃ d, d = a % 10 := ⟨_, rfl⟩
      obtain ⟨q, hq⟩ : ∃ q, q = a / 10 := ⟨_, rfl⟩
      rw [← hd] at em hsl hn'
      rw [← hq] at ed hn'
      have hd10 : d ≤ 9 := by omega
      have hqb : q ≤ 922337203685477580 := by omega
      have hqa : q < a := by omega
      have Hd := Lib.hid hd
      have Hq := Lib.hid hq
      clear hd hq
      by_cases hz : d = 0
      · subst hz
        go_wp2
        go_round
        case rel => exact ⟨q, -(q : Int), dgt 0 :: t, congrArg Value.string (ByteArray.ext (by simp [dgt])), rfl, by omega, by omega, by omega, Lib.hid rfl, hn'⟩
        case measure => have := hk.out; simp [intOf, emp]; omega
      · have hdp : -(d : Int) < 0 := by omega
        go_wp2
        go_round
        case rel => exact ⟨q, -(q : Int), dgt d :: t, congrArg Value.string (ByteArray.ext (by simp)), rfl, by omega, by omega, by omega, Lib.hid rfl, hn'⟩
        case measure => have := hk.out; simp [intOf, emp]; omega

theorem rformat_any (n : Int) (h1 : -9223372036854775808 ≤ n) (h2 : n ≤ 9223372036854775807) (w : World) :
    Calls Tryz.prog 141 #[.int .i64 n] w fun e w' => e = .returned (.string ⟨(fmtL n).toArray⟩) ∧ w = w' := by
  unfold fmtL
  by_cases h : n < 0
  · rw [abz_neg h, if_pos h]
    obtain ⟨N, hN⟩ := Int.eq_ofNat_of_zero_le (a := -n) (by omega)
    rw [hN, Int.toNat_natCast]
    exact rformat_neg N (by omega) (by omega) n (Lib.hid (by omega)) w
  · rw [abz_pos h, if_neg h]
    obtain ⟨N, rfl⟩ := Int.eq_ofNat_of_zero_le (a := n) (by omega)
    rw [Int.toNat_natCast]
    exact rformat_pos N (by omega) w

end Num
end Go.Proofs.YtinadbomebgfaaaGreatDoor

/-
  What Parse and its reference read.
-/
namespace Go.Proofs.YtinadbomebgfaaaGreatDoor
open Go.RowKit
namespace Num

def isDig (c : UInt8) : Bool := decide (48 ≤ c.toNat) && decide (c.toNat ≤ 57)
/-- The decimal form of a number that is not negative. -/
def decB (l : List UInt8) : Bool := l.all isDig && (l == [48] || (!l.isEmpty && l.head? != some 48))

theorem all_take {l : List UInt8} {k : Nat} (h : k < l.length) : (l.take (k + 1)).all isDig = ((l.take k).all isDig && isDig l[k]) := by
  rw [List.take_succ_eq_append_getElem h, List.all_append, List.all_cons, List.all_nil, Bool.and_true]
theorem dig_of {c : UInt8} (h1 : 48 ≤ (c.toNat : Int)) (h2 : (c.toNat : Int) ≤ 57) : isDig c = true := by
  simp only [isDig, Bool.and_eq_true, decide_eq_true_eq]; omega
theorem dig_bd {c : UInt8} (h : isDig c = true) : 48 ≤ (c.toNat : Int) ∧ (c.toNat : Int) ≤ 57 := by
  simp only [isDig, Bool.and_eq_true, decide_eq_true_eq] at h; omega
theorem all_get {l : List UInt8} (h : l.all isDig = true) {k : Nat} (hk : k < l.length) : isDig l[k] = true := List.all_eq_true.1 h _ (List.getElem_mem hk)
theorem not_all {l : List UInt8} {k : Nat} (h : k < l.length) (hk : isDig l[k] = false) : l.all isDig = false := by
  rw [List.all_eq_false]
  exact ⟨l[k], List.getElem_mem h, by simp [hk]⟩

set_option maxHeartbeats 1000000 in
theorem isDecimal_any (s : ByteArray) (hs : s.size ≤ maxLen) (w : World) :
    Calls Tryz.prog 152 #[.string s] w fun e w' => e = .returned (.bool (decB s.data.toList)) ∧ w = w' := by
  unfold maxLen at hs
  have hll : s.data.toList.length = s.size := by simp
  by_cases hall : s.data.toList.all isDig = true
  · have hx : s.toList = s.data.toList := Go.ByteArray.toList_eq s
    have H := Lib.hid hall
    have HL := Lib.hid hll
    by_cases g1 : s.toList = [48]
    · have hd := Lib.hid (show decB s.data.toList = true by rw [← hx, g1]; rfl)
      rw [hd.out]
      clear hx hall hll
      go_enter Tryz.func152, Tryz.ntmps152
      go_wp2
      go_loop [6] (fun i => ∃ k : Nat, k ≤ s.size ∧ i = .int .i64 (k : Int)) (fun i => s.size - (intOf i).toNat)
      case atStart => exact ⟨0, Nat.zero_le _, rfl⟩
      case round =>
        obtain ⟨k, hk, rfl⟩ := hrel
        by_cases hlt : k < s.size
        · obtain ⟨c1, c2⟩ := dig_bd (all_get H.out (k := k) (by rw [HL.out]; exact hlt))
          have c1' : 48 ≤ (s[k].toNat : Int) := c1
          have c2' : (s[k].toNat : Int) ≤ 57 := c2
          clear c1 c2
          go_wp2
          go_round
          case rel => exact ⟨k + 1, by omega, by go_num⟩
          case measure => simp [intOf]; omega
        · go_wp2
          go_ret
          exact ⟨rfl, rfl⟩
    by_cases g2 : s.toList = []
    · have hd := Lib.hid (show decB s.data.toList = false by rw [← hx, g2]; rfl)
      rw [hd.out]
      clear hx hall hll
      go_enter Tryz.func152, Tryz.ntmps152
      go_wp2
      go_loop [6] (fun i => ∃ k : Nat, k ≤ s.size ∧ i = .int .i64 (k : Int)) (fun i => s.size - (intOf i).toNat)
      case atStart => exact ⟨0, Nat.zero_le _, rfl⟩
      case round =>
        obtain ⟨k, hk, rfl⟩ := hrel
        by_cases hlt : k < s.size
        · obtain ⟨c1, c2⟩ := dig_bd (all_get H.out (k := k) (by rw [HL.out]; exact hlt))
          have c1' : 48 ≤ (s[k].toNat : Int) := c1
          have c2' : (s[k].toNat : Int) ≤ 57 := c2
          clear c1 c2
          go_wp2
          go_round
          case rel => exact ⟨k + 1, by omega, by go_num⟩
          case measure => simp [intOf]; omega
        · go_wp2
          go_ret
          exact ⟨rfl, rfl⟩
    have hpos : 0 < s.size := by
      rw [← hll]; rw [hx] at g2; exact List.length_pos_iff.2 g2
    have hd : decB s.data.toList = ((s[0].toNat : Int) != 48) := by
      have e1 : s.data.toList.head? = some s[0] := by
        rw [List.head?_eq_getElem?, List.getElem?_eq_getElem (by omega)]; rfl
      rw [hx] at g1 g2
      simp only [decB, hall, e1, Bool.true_and]
      have : (s.data.toList == [48]) = false := by simpa using g1
      have e2 : s.data.toList.isEmpty = false := by simpa using g2
      rw [this, e2]
      by_cases h : s[0] = 48
      · simp [h]
      · have h0 : s[0].toNat ≠ 48 := fun e => h (UInt8.toNat_inj.1 (e.trans rfl))
        have h1 : (some s[0] != some (48 : UInt8)) = true := by simpa using h
        have h2 : ((s[0].toNat : Int) != 48) = true := by rw [bne_iff_ne]; omega
        rw [h1, h2]
        rfl
    rw [hd]
    have hgb : Hid ((s.toList == [48]) = false ∧ s.toList.isEmpty = false) := Lib.hid ⟨by simpa using g1, by simpa using g2⟩
    clear hd hx hall hll
    go_enter Tryz.func152, Tryz.ntmps152
    go_wp2
    go_loop [6] (fun i => ∃ k : Nat, k ≤ s.size ∧ i = .int .i64 (k : Int)) (fun i => s.size - (intOf i).toNat)
    case atStart => exact ⟨0, Nat.zero_le _, rfl⟩
    case round =>
      obtain ⟨k, hk, rfl⟩ := hrel
      by_cases hlt : k < s.size
      · obtain ⟨c1, c2⟩ := dig_bd (all_get H.out (k := k) (by rw [HL.out]; exact hlt))
        have c1' : 48 ≤ (s[k].toNat : Int) := c1
        have c2' : (s[k].toNat : Int) ≤ 57 := c2
        clear c1 c2
        go_wp2
        go_round
        case rel => exact ⟨k + 1, by omega, by go_num⟩
        case measure => simp [intOf]; omega
      · go_wp2
        go_ret
        exact ⟨by simp [hgb.out.1, hgb.out.2], rfl⟩
  · have hall' : s.data.toList.all isDig = false := by simpa using hall
    have hd : decB s.data.toList = false := by simp [decB, hall']
    rw [hd]
    have H := Lib.hid hall'
    have HL := Lib.hid hll
    clear hall hall' hd hll
    go_enter Tryz.func152, Tryz.ntmps152
    go_wp2
    go_loop [6] (fun i => ∃ k : Nat, k ≤ s.size ∧ i = .int .i64 (k : Int) ∧ Hid ((s.data.toList.take k).all isDig = true)) (fun i => s.size - (intOf i).toNat)
    case atStart => exact ⟨0, Nat.zero_le _, rfl, Lib.hid (by simp)⟩
    case round =>
      obtain ⟨k, hk, rfl, ha⟩ := hrel
      by_cases hlt : k < s.size
      · have hst := Lib.hid (all_take (l := s.data.toList) (k := k) (by rw [HL.out]; exact hlt))
        by_cases c1 : (s[k].toNat : Int) < 48
        · go_wp2
          go_ret
          exact ⟨rfl, rfl⟩
        by_cases c2 : 57 < (s[k].toNat : Int)
        · have c1' : 48 ≤ (s[k].toNat : Int) := by omega
          go_wp2
          go_ret
          exact ⟨rfl, rfl⟩
        · have c1' : 48 ≤ (s[k].toNat : Int) := by omega
          have c2' : (s[k].toNat : Int) ≤ 57 := by omega
          go_wp2
          go_round
          case rel => exact ⟨k + 1, by omega, by go_num, Lib.hid (by rw [hst.out, ha.out]; exact dig_of c1' c2')⟩
          case measure => simp [intOf]; omega
      · have he : k = s.size := by omega
        have hc := ha.out
        rw [he, ← HL.out, List.take_length, H.out] at hc
        exact absurd hc (by simp)

end Num
end Go.Proofs.YtinadbomebgfaaaGreatDoor

/-
  The contract of Parse.
-/
namespace Go.Proofs.YtinadbomebgfaaaGreatDoor
open Go.RowKit
namespace Num

/-- The number that digits make behind a, unless it is too great. -/
def scan : Nat → List UInt8 → Option Nat
  | a, [] => some a
  | a, c :: r => if a * 10 + (c.toNat - 48) ≤ 1000000000000 then scan (a * 10 + (c.toNat - 48)) r else none
def negL (l : List UInt8) : Bool := Lib.hasPrefix l [45]
def bodyL (l : List UInt8) : List UInt8 := Lib.trimPrefix l [45]
def okL (l : List UInt8) : Bool := decB (bodyL l) && !(negL l && bodyL l == [48])
def finV (neg : Bool) : Option Nat → Int
  | some n => if neg then -(n : Int) else n
  | none => 0
def finE : Option Nat → Int
  | some _ => 0
  | none => 2
def parV (l : List UInt8) : Int := if okL l then finV (negL l) (scan 0 (bodyL l)) else 0
def parE (l : List UInt8) : Int := if okL l then finE (scan 0 (bodyL l)) else 1
theorem scan_drop {l : List UInt8} {k a : Nat} (h : k < l.length) : scan a (l.drop k) = if a * 10 + (l[k].toNat - 48) ≤ 1000000000000 then scan (a * 10 + (l[k].toNat - 48)) (l.drop (k + 1)) else none := by
  rw [List.drop_eq_getElem_cons h, scan]

/-- The loop of Parse, whatever stands ahead of it. -/
theorem bodyL_len (l : List UInt8) : (bodyL l).length ≤ l.length := by
  unfold bodyL Lib.trimPrefix
  split
  · simp
  · exact Nat.le_refl _

def isDecimalOk (d : ByteArray) : Prop := ∀ w : World, Calls Tryz.prog 152 #[.string d] w fun e w' => e = .returned (.bool true) ∧ w = w'
set_option maxHeartbeats 1000000 in
theorem parse_core (s d : ByteArray) (neg : Bool) (hs : d.size ≤ maxLen) (w : World)
    (hcut : Hid (∀ w, Calls Tryz.prog 151 #[.string s, .string ⟨#[45]⟩] w fun e w' => e = .returned (.tuple #[.string d, .bool neg]) ∧ w' = w))
    (hd : Hid (decB d.toList = true)) (hn : Hid ((neg && d.toList == [48]) = false)) :
    Calls Tryz.prog 120 #[.string s] w fun e w' => e = pair (finV neg (scan 0 d.toList)) (finE (scan 0 d.toList)) ∧ w = w' := by
  unfold maxLen at hs
  have hx : d.toList = d.data.toList := Go.ByteArray.toList_eq d
  have HL : Hid (d.toList.length = d.size) := Lib.hid (by rw [hx]; simp)
  have HA : Hid (d.toList.all isDig = true) := by
    refine Lib.hid ?_
    have := hd.out
    simp only [decB, Bool.and_eq_true] at this
    exact this.1
  have HI : Hid (isDecimalOk d) := by
    refine Lib.hid fun w => ?_
    have := isDecimal_any d hs w
    rw [← hx, hd.out] at this
    exact this
  have HX := Lib.hid hx
  clear hx
  have hn' := hn.out
  cases neg
  · clear hn'
    go_enter Tryz.func120, Tryz.ntmps120
    go_wp2_with (first | (go_at_call 151; refine (hcut.out _).mono ?_; rintro e w' ⟨rfl, rfl⟩) | (go_at_call 152; refine (HI.out _).mono ?_; rintro e w' ⟨rfl, rfl⟩))
    go_loop [6, 25] (fun n i => ∃ (a k : Nat), k ≤ d.size ∧ i = .int .i64 (k : Int) ∧ n = .int .i64 (a : Int) ∧ a ≤ 1000000000000 ∧ Hid (scan 0 d.toList = scan a (d.toList.drop k))) (fun _ i => d.size - (intOf i).toNat)
    case atStart => exact ⟨0, 0, Nat.zero_le _, rfl, rfl, by omega, Lib.hid rfl⟩
    case round =>
      obtain ⟨a, k, hk, rfl, rfl, ha, hr⟩ := hrel
      by_cases hlt : k < d.size
      · have hlt' : k < d.toList.length := by rw [HL.out]; exact hlt
        have hg : d.toList[k] = d[k] := by simp only [HX.out]; rfl
        obtain ⟨c1, c2⟩ := dig_bd (all_get HA.out hlt')
        rw [hg] at c1 c2
        have hsd := scan_drop (a := a) hlt'
        rw [hg] at hsd
        have HS := Lib.hid hsd
        clear hsd hg hlt'
        by_cases hm : (a : Int) * 10 + ((d[k].toNat : Int) - 48) ≤ 1000000000000
        · have hv := Lib.hid (vld_of (n := (a : Int) * 10 + ((d[k].toNat : Int) - 48)) (by omega) hm)
          go_wp2_with (go_at_call 153; refine (valid_any _ _).mono ?_; rintro e w' ⟨rfl, rfl⟩; rw [hv.out])
          go_round
          case rel => exact ⟨a * 10 + (d[k].toNat - 48), k + 1, by omega, by go_num, congrArg (Value.int .i64) (by omega), by omega, Lib.hid (by rw [hr.out, HS.out, if_pos (by omega)])⟩
          case measure => simp [intOf]; omega
        · have hv := Lib.hid (vld_not (n := (a : Int) * 10 + ((d[k].toNat : Int) - 48)) (by omega))
          have hz := Lib.hid (show scan 0 d.toList = none by rw [hr.out, HS.out, if_neg (by omega)])
          go_wp2_with (go_at_call 153; refine (valid_any _ _).mono ?_; rintro e w' ⟨rfl, rfl⟩; rw [hv.out])
          go_ret2
          exact ⟨by rw [hz.out]; rfl, rfl⟩
      · have hz := Lib.hid (show scan 0 d.toList = some a by rw [hr.out, List.drop_eq_nil_of_le (by rw [HL.out]; omega)]; rfl)
        go_wp2
        go_ret2
        exact ⟨by rw [hz.out]; rfl, rfl⟩
  · have hz0 : (d.toList == [48]) = false := by simpa using hn'
    clear hn'
    go_enter Tryz.func120, Tryz.ntmps120
    go_wp2_with (first | (go_at_call 151; refine (hcut.out _).mono ?_; rintro e w' ⟨rfl, rfl⟩) | (go_at_call 152; refine (HI.out _).mono ?_; rintro e w' ⟨rfl, rfl⟩))
    go_loop [6, 25] (fun n i => ∃ (a k : Nat), k ≤ d.size ∧ i = .int .i64 (k : Int) ∧ n = .int .i64 (a : Int) ∧ a ≤ 1000000000000 ∧ Hid (scan 0 d.toList = scan a (d.toList.drop k))) (fun _ i => d.size - (intOf i).toNat)
    case atStart => exact ⟨0, 0, Nat.zero_le _, rfl, rfl, by omega, Lib.hid rfl⟩
    case round =>
      obtain ⟨a, k, hk, rfl, rfl, ha, hr⟩ := hrel
      by_cases hlt : k < d.size
      · have hlt' : k < d.toList.length := by rw [HL.out]; exact hlt
        have hg : d.toList[k] = d[k] := by simp only [HX.out]; rfl
        obtain ⟨c1, c2⟩ := dig_bd (all_get HA.out hlt')
        rw [hg] at c1 c2
        have hsd := scan_drop (a := a) hlt'
        rw [hg] at hsd
        have HS := Lib.hid hsd
        clear hsd hg hlt'
        by_cases hm : (a : Int) * 10 + ((d[k].toNat : Int) - 48) ≤ 1000000000000
        · have hv := Lib.hid (vld_of (n := (a : Int) * 10 + ((d[k].toNat : Int) - 48)) (by omega) hm)
          go_wp2_with (go_at_call 153; refine (valid_any _ _).mono ?_; rintro e w' ⟨rfl, rfl⟩; rw [hv.out])
          go_round
          case rel => exact ⟨a * 10 + (d[k].toNat - 48), k + 1, by omega, by go_num, congrArg (Value.int .i64) (by omega), by omega, Lib.hid (by rw [hr.out, HS.out, if_pos (by omega)])⟩
          case measure => simp [intOf]; omega
        · have hv := Lib.hid (vld_not (n := (a : Int) * 10 + ((d[k].toNat : Int) - 48)) (by omega))
          have hz := Lib.hid (show scan 0 d.toList = none by rw [hr.out, HS.out, if_neg (by omega)])
          go_wp2_with (go_at_call 153; refine (valid_any _ _).mono ?_; rintro e w' ⟨rfl, rfl⟩; rw [hv.out])
          go_ret2
          exact ⟨by rw [hz.out]; rfl, rfl⟩
      · have hz := Lib.hid (show scan 0 d.toList = some a by rw [hr.out, List.drop_eq_nil_of_le (by rw [HL.out]; omega)]; rfl)
        go_wp2
        go_ret2
        exact ⟨by rw [hz.out]; rfl, rfl⟩

theorem parse_no (s d : ByteArray) (neg b : Bool) (w : World)
    (hcut : Hid (∀ w, Calls Tryz.prog 151 #[.string s, .string ⟨#[45]⟩] w fun e w' => e = .returned (.tuple #[.string d, .bool neg]) ∧ w' = w))
    (hd : Hid (∀ w : World, Calls Tryz.prog 152 #[.string d] w fun e w' => e = .returned (.bool b) ∧ w = w')) (hn : (b && !(neg && d.toList == [48])) = false) :
    Calls Tryz.prog 120 #[.string s] w fun e w' => e = pair 0 1 ∧ w = w' := by
  unfold pair
  cases b
  · clear hn
    go_enter Tryz.func120, Tryz.ntmps120
    go_wp2_with (first | (go_at_call 151; refine (hcut.out _).mono ?_; rintro e w' ⟨rfl, rfl⟩) | (go_at_call 152; refine (hd.out _).mono ?_; rintro e w' ⟨rfl, rfl⟩))
    go_ret2
    exact ⟨rfl, rfl⟩
  · cases neg
    · simp at hn
    · have hz : d.toList = [48] := by simpa using hn
      clear hn
      go_enter Tryz.func120, Tryz.ntmps120
      go_wp2_with (first | (go_at_call 151; refine (hcut.out _).mono ?_; rintro e w' ⟨rfl, rfl⟩) | (go_at_call 152; refine (hd.out _).mono ?_; rintro e w' ⟨rfl, rfl⟩))
      go_ret2
      exact ⟨rfl, rfl⟩
theorem parse_any (s : ByteArray) (hs : s.size ≤ maxLen) (w : World) :
    Calls Tryz.prog 120 #[.string s] w fun e w' => e = pair (parV s.toList) (parE s.toList) ∧ w = w' := by
  have hx : s.toList = s.data.toList := Go.ByteArray.toList_eq s
  have hcut := Lib.hid (fun w => Tryz.strings_CutPrefix s ⟨#[45]⟩ w)
  have h45 : (⟨#[45]⟩ : ByteArray).data.toList = [45] := rfl
  rw [h45, ← hx] at hcut
  have hb : bodyL s.toList = Lib.trimPrefix s.toList [45] := rfl
  have hn : negL s.toList = Lib.hasPrefix s.toList [45] := rfl
  rw [← hb, ← hn] at hcut
  clear hb hn h45
  have hdl : (⟨(bodyL s.toList).toArray⟩ : ByteArray).toList = bodyL s.toList := Go.ByteArray.toList_mk _
  have hds : (⟨(bodyL s.toList).toArray⟩ : ByteArray).size ≤ maxLen := by
    have h1 := bodyL_len s.toList
    have h2 : s.toList.length = s.size := by rw [hx]; simp
    show (bodyL s.toList).toArray.size ≤ maxLen
    simp only [List.size_toArray]
    omega
  unfold parV parE okL
  generalize hd : (⟨(bodyL s.toList).toArray⟩ : ByteArray) = d at *
  rw [← hdl]
  generalize negL s.toList = neg at *
  cases hok : (decB d.toList && !(neg && d.toList == [48]))
  · have hI : Hid (∀ w : World, Calls Tryz.prog 152 #[.string d] w fun e w' => e = .returned (.bool (decB d.toList)) ∧ w = w') := Lib.hid fun w => by
      have := isDecimal_any d hds w
      rw [← Go.ByteArray.toList_eq d] at this
      exact this
    exact parse_no s d neg _ w hcut hI hok
  · obtain ⟨h1, h2⟩ : decB d.toList = true ∧ (neg && d.toList == [48]) = false := by
      rw [Bool.and_eq_true, Bool.not_eq_true'] at hok
      exact hok
    exact parse_core s d neg hds w hcut (Lib.hid h1) (Lib.hid h2)

end Num
end Go.Proofs.YtinadbomebgfaaaGreatDoor

/-
  The contracts of the reference's form and Parse.
-/
namespace Go.Proofs.YtinadbomebgfaaaGreatDoor
open Go.RowKit
namespace Num

theorem upto_step {t : ByteArray} {k : Nat} (h : ∀ j, j < k → ∀ h : j < t.size, 48 ≤ (t[j].toNat : Int) ∧ (t[j].toNat : Int) ≤ 57) {hk : k < t.size} (g : 48 ≤ (t[k].toNat : Int) ∧ (t[k].toNat : Int) ≤ 57) :
    ∀ j, j < k + 1 → ∀ h : j < t.size, 48 ≤ (t[j].toNat : Int) ∧ (t[j].toNat : Int) ≤ 57 := by
  intro j hj h'
  rcases Nat.lt_or_ge j k with h1 | h1
  · exact h j h1 h'
  · obtain rfl : j = k := by omega
    exact g
theorem toList_get (t : ByteArray) {k : Nat} (h : k < t.size) (h' : k < t.toList.length) : t.toList[k] = t[k] := by
  simp only [Go.ByteArray.toList_eq t]; rfl
theorem toList_len (t : ByteArray) : t.toList.length = t.size := by rw [Go.ByteArray.toList_eq t]; simp
theorem all_of_upto {t : ByteArray} {k : Nat} (hk : t.size ≤ k) (h : ∀ j, j < k → ∀ h : j < t.size, 48 ≤ (t[j].toNat : Int) ∧ (t[j].toNat : Int) ≤ 57) : t.toList.all isDig = true := by
  rw [List.all_eq_true]
  intro x hx
  obtain ⟨j, hj, rfl⟩ := List.getElem_of_mem hx
  have hj' : j < t.size := by rw [← toList_len]; exact hj
  have := h j (by omega) hj'
  rw [toList_get t hj' hj]
  exact dig_of this.1 this.2
theorem upto_of_all {t : ByteArray} (h : t.toList.all isDig = true) (k : Nat) (hk : k < t.size) : 48 ≤ (t[k].toNat : Int) ∧ (t[k].toNat : Int) ≤ 57 := by
  have hj : k < t.toList.length := by rw [toList_len]; exact hk
  rw [← toList_get t hk hj]
  exact dig_bd (all_get h hj)

def okT (l : List UInt8) : Bool := decB l

set_option maxHeartbeats 1000000 in
/-- form behind a sign: what follows is t. -/
theorem form_neg (s t : ByteArray) (hs : s.size ≤ maxLen) (hpos : 0 < s.size) (h45 : (s[0].toNat : Int) = 45) (ht : s.extract 1 s.size = t) (hts : t.size ≤ maxLen) (w : World) :
    Calls Tryz.prog 162 #[.string s] w fun e w' => e = .returned (.bool (decB t.toList && !(t.toList == [48]))) ∧ w = w' := by
  unfold maxLen at hs hts
  have hll := toList_len t
  have h45b : ((s[0].toNat : Int) == 45) = true := by simpa using h45
  clear h45
  by_cases hz : t.size = 0
  · have hd : decB t.toList = false := by
      have : t.toList = [] := List.eq_nil_of_length_eq_zero (by omega)
      rw [this]; rfl
    rw [hd, Bool.false_and]
    have hzl : t.toList.length = 0 := by omega
    clear hll hd
    go_enter Tryz.func162, Tryz.ntmps162
    go_wp2
    go_ret
    exact ⟨rfl, rfl⟩
  have hp : 0 < t.size := by omega
  have hg := toList_get t hp (by omega)
  have hhead : t.toList.head? = some t[0] := by rw [List.head?_eq_getElem?, List.getElem?_eq_getElem (by omega), hg]
  have hne : t.toList ≠ [] := fun h => by rw [h] at hll; simp at hll; omega
  by_cases h48 : t[0] = 48
  · have hd : (decB t.toList && !(t.toList == [48])) = false := by
      rw [decB, hhead, h48]
      simp only [bne_self_eq_false, Bool.and_false, Bool.or_false]
      cases t.toList == [48] <;> simp
    rw [hd]
    have h48b : ((t[0].toNat : Int) == 48) = true := by rw [h48]; rfl
    clear hll hd hg hhead hne h48
    go_enter Tryz.func162, Tryz.ntmps162
    go_wp2
    go_ret
    exact ⟨rfl, rfl⟩
  have hd : (decB t.toList && !(t.toList == [48])) = t.toList.all isDig := by
    have e1 : (t.toList == [48]) = false := by
      rw [beq_eq_false_iff_ne]
      intro e
      rw [e] at hhead
      simp at hhead
      exact h48 hhead.symm
    have e2 : (some t[0] != some (48 : UInt8)) = true := by simpa using h48
    have e3 : t.toList.isEmpty = false := by simpa using hne
    rw [decB, hhead, e1, e2, e3]
    simp
  rw [hd]
  have h48b : ((t[0].toNat : Int) == 48) = false := by
    rw [beq_eq_false_iff_ne]
    intro e
    exact h48 (UInt8.toNat_inj.1 (by have : t[0].toNat = 48 := by omega
                                     exact this.trans rfl))
  have hzb : ((t.size : Int) == 0) = false := by rw [beq_eq_false_iff_ne]; omega
  cases hall : t.toList.all isDig
  · have HN := Lib.hid hall
    clear hll hd hg hhead hne h48 hall
    rcases Nat.lt_or_ge 1 t.size with g1 | g1
    all_goals
      go_enter Tryz.func162, Tryz.ntmps162
      go_wp2
      go_loop [39] (fun i => ∃ k : Nat, k ≤ t.size ∧ i = .int .i64 (k : Int) ∧ Hid (∀ j, j < k → ∀ h : j < t.size, 48 ≤ (t[j].toNat : Int) ∧ (t[j].toNat : Int) ≤ 57)) (fun i => t.size - (intOf i).toNat)
      case atStart => exact ⟨0, Nat.zero_le _, rfl, Lib.hid (fun j h => absurd h (by omega))⟩
      case round =>
        obtain ⟨k, hk, rfl, ha⟩ := hrel
        by_cases hlt : k < t.size
        · by_cases c1 : (t[k].toNat : Int) < 48
          · go_wp2
            go_ret
            exact ⟨rfl, rfl⟩
          have c1' : 48 ≤ (t[k].toNat : Int) := by omega
          by_cases c2 : 57 < (t[k].toNat : Int)
          · go_wp2
            go_ret
            exact ⟨rfl, rfl⟩
          · have c2' : (t[k].toNat : Int) ≤ 57 := by omega
            go_wp2
            go_round
            case rel => exact ⟨k + 1, by omega, by go_num, Lib.hid (upto_step ha.out ⟨c1', c2'⟩)⟩
            case measure => simp [intOf]; omega
        · exact absurd (all_of_upto (by omega) ha.out) (by rw [HN.out]; simp)
  · have HA := Lib.hid (upto_of_all hall)
    clear hll hd hg hhead hne h48 hall
    rcases Nat.lt_or_ge 1 t.size with g1 | g1
    all_goals
      go_enter Tryz.func162, Tryz.ntmps162
      go_wp2
      go_loop [39] (fun i => ∃ k : Nat, k ≤ t.size ∧ i = .int .i64 (k : Int)) (fun i => t.size - (intOf i).toNat)
      case atStart => exact ⟨0, Nat.zero_le _, rfl⟩
      case round =>
        obtain ⟨k, hk, rfl⟩ := hrel
        by_cases hlt : k < t.size
        · obtain ⟨c1, c2⟩ := HA.out k hlt
          go_wp2
          go_round
          case rel => exact ⟨k + 1, by omega, by go_num⟩
          case measure => simp [intOf]; omega
        · go_wp2
          go_ret
          exact ⟨rfl, rfl⟩

set_option maxHeartbeats 1000000 in
/-- form without a sign. -/
theorem form_pos (t : ByteArray) (hts : t.size ≤ maxLen) (hno : ∀ h : 0 < t.size, ((t[0].toNat : Int) == 45) = false) (w : World) :
    Calls Tryz.prog 162 #[.string t] w fun e w' => e = .returned (.bool (decB t.toList)) ∧ w = w' := by
  unfold maxLen at hts
  have hll := toList_len t
  by_cases hz : t.size = 0
  · have hd : decB t.toList = false := by
      have : t.toList = [] := List.eq_nil_of_length_eq_zero (by omega)
      rw [this]; rfl
    rw [hd]
    clear hll hd hno
    go_enter Tryz.func162, Tryz.ntmps162
    go_wp2
    go_ret
    exact ⟨rfl, rfl⟩
  have hp : 0 < t.size := by omega
  have hno' := hno hp
  clear hno
  have hg := toList_get t hp (by omega)
  have hhead : t.toList.head? = some t[0] := by rw [List.head?_eq_getElem?, List.getElem?_eq_getElem (by omega), hg]
  have hne : t.toList ≠ [] := fun h => by rw [h] at hll; simp at hll; omega
  have hzb : ((t.size : Int) == 0) = false := by rw [beq_eq_false_iff_ne]; omega
  by_cases h48 : t[0] = 48
  · have h48b : ((t[0].toNat : Int) == 48) = true := by rw [h48]; rfl
    by_cases h1 : 1 < t.size
    · have hd : decB t.toList = false := by
        have e1 : (t.toList == [48]) = false := by
          rw [beq_eq_false_iff_ne]
          intro e
          rw [e] at hll
          simp at hll
          omega
        rw [decB, hhead, h48, e1]
        simp
      rw [hd]
      clear hll hd hg hhead hne h48
      go_enter Tryz.func162, Tryz.ntmps162
      go_wp2
      go_ret
      exact ⟨rfl, rfl⟩
    · have hd : decB t.toList = true := by
        have : t.toList = [48] := by
          rcases h : t.toList with _ | ⟨a, r⟩
          · exact absurd h hne
          · rw [h] at hhead hll
            simp at hhead hll
            have : r = [] := List.eq_nil_of_length_eq_zero (by omega)
            rw [this, hhead, h48]
        rw [this]; rfl
      have hall : t.toList.all isDig = true := by
        rw [decB, Bool.and_eq_true] at hd
        exact hd.1
      rw [hd]
      have h1' : t.size = 1 := by omega
      have HA := Lib.hid (upto_of_all hall)
      have h1b : t.size ≤ 1 := by omega
      clear hll hd hg hhead hne h48 hall h1'
      go_enter Tryz.func162, Tryz.ntmps162
      go_wp2
      go_loop [39] (fun i => ∃ k : Nat, k ≤ t.size ∧ i = .int .i64 (k : Int)) (fun i => t.size - (intOf i).toNat)
      case atStart => exact ⟨0, Nat.zero_le _, rfl⟩
      case round =>
        obtain ⟨k, hk, rfl⟩ := hrel
        by_cases hlt : k < t.size
        · obtain ⟨c1, c2⟩ := HA.out k hlt
          go_wp2
          go_round
          case rel => exact ⟨k + 1, by omega, by go_num⟩
          case measure => simp [intOf]; omega
        · go_wp2
          go_ret
          exact ⟨rfl, rfl⟩
  have hd : decB t.toList = t.toList.all isDig := by
    have e2 : (some t[0] != some (48 : UInt8)) = true := by simpa using h48
    have e3 : t.toList.isEmpty = false := by simpa using hne
    rw [decB, hhead, e2, e3]
    simp
  rw [hd]
  have h48b : ((t[0].toNat : Int) == 48) = false := by
    rw [beq_eq_false_iff_ne]
    intro e
    exact h48 (UInt8.toNat_inj.1 (by have : t[0].toNat = 48 := by omega
                                     exact this.trans rfl))
  cases hall : t.toList.all isDig
  · have HN := Lib.hid hall
    clear hll hd hg hhead hne h48 hall
    rcases Nat.lt_or_ge 1 t.size with g1 | g1
    all_goals
      go_enter Tryz.func162, Tryz.ntmps162
      go_wp2
      go_loop [39] (fun i => ∃ k : Nat, k ≤ t.size ∧ i = .int .i64 (k : Int) ∧ Hid (∀ j, j < k → ∀ h : j < t.size, 48 ≤ (t[j].toNat : Int) ∧ (t[j].toNat : Int) ≤ 57)) (fun i => t.size - (intOf i).toNat)
      case atStart => exact ⟨0, Nat.zero_le _, rfl, Lib.hid (fun j h => absurd h (by omega))⟩
      case round =>
        obtain ⟨k, hk, rfl, ha⟩ := hrel
        by_cases hlt : k < t.size
        · by_cases c1 : (t[k].toNat : Int) < 48
          · go_wp2
            go_ret
            exact ⟨rfl, rfl⟩
          have c1' : 48 ≤ (t[k].toNat : Int) := by omega
          by_cases c2 : 57 < (t[k].toNat : Int)
          · go_wp2
            go_ret
            exact ⟨rfl, rfl⟩
          · have c2' : (t[k].toNat : Int) ≤ 57 := by omega
            go_wp2
            go_round
            case rel => exact ⟨k + 1, by omega, by go_num, Lib.hid (upto_step ha.out ⟨c1', c2'⟩)⟩
            case measure => simp [intOf]; omega
        · exact absurd (all_of_upto (by omega) ha.out) (by rw [HN.out]; simp)
  · have HA := Lib.hid (upto_of_all hall)
    clear hll hd hg hhead hne h48 hall
    rcases Nat.lt_or_ge 1 t.size with g1 | g1
    all_goals
      go_enter Tryz.func162, Tryz.ntmps162
      go_wp2
      go_loop [39] (fun i => ∃ k : Nat, k ≤ t.size ∧ i = .int .i64 (k : Int)) (fun i => t.size - (intOf i).toNat)
      case atStart => exact ⟨0, Nat.zero_le _, rfl⟩
      case round =>
        obtain ⟨k, hk, rfl⟩ := hrel
        by_cases hlt : k < t.size
        · obtain ⟨c1, c2⟩ := HA.out k hlt
          go_wp2
          go_round
          case rel => exact ⟨k + 1, by omega, by go_num⟩
          case measure => simp [intOf]; omega
        · go_wp2
          go_ret
          exact ⟨rfl, rfl⟩

end Num
end Go.Proofs.YtinadbomebgfaaaGreatDoor
