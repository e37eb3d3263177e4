/-
  The reference's Format, and what Parse and its reference read.
-/
import Derived.Test.YtghjflmanldjlaaDoorNumE
namespace Go.Proofs.YtghjflmanldjlaaDoor
open Go.RowKit
namespace Num

/-- What is left to write, and what is written. -/
def Left (D : List UInt8) (a : Nat) (s : List UInt8) : Prop :=
  (a = 0 ∧ s ≠ [] ∧ s = D) ∨ (∃ f, (a ≠ 0 ∨ s = []) ∧ a < 10 ^ (f + 1) ∧ digs (ndF f a) a ++ s = D)
theorem Left.start {N : Nat} (h : N < 10 ^ 19) : Left (digs (ndF 18 N) N) N [] := Or.inr ⟨18, Or.inr rfl, h, by simp⟩
theorem Left.step {D s : List UInt8} {a : Nat} (h : Left D a s) (g : a ≠ 0 ∨ s = []) : Left D (a / 10) (dgt (a % 10) :: s) := by
  rcases h with ⟨h1, h2, h3⟩ | ⟨f, h1, h2, h3⟩
  · rcases g with g | g
    · exact absurd h1 g
    · exact absurd g h2
  · by_cases ha : a < 10
    · refine Or.inl ⟨by omega, by simp, ?_⟩
      have e : digs (ndF f a) a = [dgt (a % 10)] := by
        cases f with
        | zero => simp [ndF, digs]
        | succ f => simp [ndF, ha, digs]
      rw [e] at h3
      exact h3
    · cases f with
      | zero => simp at h2; omega
      | succ f =>
        refine Or.inr ⟨f, Or.inl (by omega), ?_, ?_⟩
        · rw [Nat.pow_succ] at h2; omega
        · rw [ndF, if_neg ha, digs, List.append_assoc] at h3
          exact h3
theorem Left.done {D s : List UInt8} {a : Nat} (h : Left D a s) (g : ¬ (a ≠ 0 ∨ s = [])) : s = D := by
  rcases h with ⟨h1, h2, h3⟩ | ⟨f, h1, h2, h3⟩
  · exact h3
  · exact absurd h1 g
theorem Left.len {D s : List UInt8} {a : Nat} (h : Left D a s) : s.length ≤ D.length := by
  rcases h with ⟨h1, h2, h3⟩ | ⟨f, h1, h2, h3⟩
  · rw [h3]; exact Nat.le_refl _
  · rw [← h3]; simp

theorem extract_dig : ∀ d : Fin 10, (ByteArray.extract ⟨#[48, 49, 50, 51, 52, 53, 54, 55, 56, 57]⟩ d.val (d.val + 1)) = ⟨#[dgt d.val]⟩ := by decide +kernel
theorem slice_dig (d : Nat) (h : d < 10) (W : World) : (Instr.slice 9 (.string ⟨#[48, 49, 50, 51, 52, 53, 54, 55, 56, 57]⟩) (some (.int .i64 (d : Int))) (some (.int .i64 ((d : Int) + 1))) none).run Tryd.prog W = .ok (.string ⟨#[dgt d]⟩) W := by
  have := run_slice_string (P := Tryd.prog) W 9 ⟨#[48, 49, 50, 51, 52, 53, 54, 55, 56, 57]⟩ .i64 .i64 (d : Int) ((d : Int) + 1) Tryd.underlying9 (by omega) (by omega) (by show (d : Int) + 1 ≤ ((10 : Nat) : Int); omega)
  rw [this]
  have e : ((d : Int) + 1).toNat = d + 1 := by omega
  rw [Int.toNat_natCast, e, extract_dig ⟨d, h⟩]
theorem push_dig (x : UInt8) (t : List UInt8) : (⟨#[x]⟩ : ByteArray) ++ ⟨t.toArray⟩ = ⟨(x :: t).toArray⟩ := ByteArray.ext (by simp)

/-- 1 for the empty string. -/
def emp : Value → Nat
  | .string s => 1 - s.size
  | _ => 0

set_option maxHeartbeats 1000000 in
theorem rformat_pos (N : Nat) (h2 : N ≤ 9223372036854775807) (w : World) :
    Calls Tryd.prog 29 #[.int .i64 (N : Int)] w fun e w' => e = .returned (.string ⟨(digs (ndF 18 N) N).toArray⟩) ∧ w = w' := by
  have hst := Lib.hid (Left.start (N := N) (by omega))
  have hD : (digs (ndF 18 N) N).length ≤ 19 := by rw [digs_len]; exact ndF_le 18 N
  generalize digs (ndF 18 N) N = D at *
  go_enter Tryd.func29, Tryd.ntmps29
  go_wp2
  go_loop [4, 5] (fun s m => ∃ (a : Nat) (t : List UInt8), s = .string ⟨t.toArray⟩ ∧ m = .int .i64 (a : Int) ∧ a ≤ 9223372036854775807 ∧ Hid (Left D a t)) (fun s m => (intOf m).toNat + emp s)
  case atStart => exact ⟨N, [], rfl, rfl, h2, hst⟩
  case round =>
    obtain ⟨a, t, rfl, rfl, ha, hl⟩ := hrel
    have hlen := hl.out.len
    have hlen' : t.length ≤ 19 := by omega
    have hsl := slice_dig (a % 10) (by omega)
    rw [show ((a % 10 : Nat) : Int) = (a : Int) % 10 from by omega] at hsl
    by_cases g : a = 0
    · subst g
      by_cases g2 : t = []
      · subst g2
        have hn := Lib.hid (hl.out.step (Or.inr rfl))
        go_wp2
        go_round
        case rel => exact ⟨0, [dgt 0], congrArg Value.string (ByteArray.ext (by simp [dgt])), rfl, by omega, hn⟩
        case measure => simp [intOf, emp]; decide
      · have hd := Lib.hid (hl.out.done (by simp [g2]))
        have g3 : t.isEmpty = false := by simp [g2]
        go_wp2
        go_ret
        exact ⟨by rw [hd.out]; rfl, rfl⟩
    · have g1 : 1 ≤ a := by omega
      have hn := Lib.hid (hl.out.step (Or.inl g))
      go_wp2
      go_round
      case rel => exact ⟨a / 10, dgt (a % 10) :: t, congrArg Value.string (ByteArray.ext (by simp)), by go_num, by omega, hn⟩
      case measure => simp [intOf, emp]; omega

theorem neg_div (a : Nat) : (-(a : Int)).tdiv 10 = -((a / 10 : Nat) : Int) := by rw [Int.neg_tdiv, Int.tdiv_eq_ediv_of_nonneg (by omega)]; omega
theorem neg_mod (a : Nat) : (-(a : Int)).tmod 10 = -((a % 10 : Nat) : Int) := by rw [Int.neg_tmod, Int.tmod_eq_emod_of_nonneg (by omega)]; omega

set_option maxHeartbeats 1000000 in
theorem rformat_neg (N : Nat) (h1 : 1 ≤ N) (h2 : N ≤ 9223372036854775808) (n : Int) (hn : Hid (n = -(N : Int))) (w : World) :
    Calls Tryd.prog 29 #[.int .i64 n] w fun e w' => e = .returned (.string ⟨(45 :: digs (ndF 18 N) N).toArray⟩) ∧ w = w' := by
  have hst := Lib.hid (Left.start (N := N) (by omega))
  have hD : (digs (ndF 18 N) N).length ≤ 19 := by rw [digs_len]; exact ndF_le 18 N
  generalize digs (ndF 18 N) N = D at *
  have hneg : n < 0 := by have := hn.out; omega
  have hlow : -9223372036854775808 ≤ n := by have := hn.out; omega
  go_enter Tryd.func29, Tryd.ntmps29
  go_wp2
  go_loop [4, 5] (fun s m => ∃ (a : Nat) (k : Int) (t : List UInt8), s = .string ⟨t.toArray⟩ ∧ m = .int .i64 k ∧ a ≤ 9223372036854775808 ∧ k ≤ 0 ∧ -9223372036854775808 ≤ k ∧ Hid (k = -(a : Int)) ∧ Hid (Left D a t)) (fun s m => (-intOf m).toNat + emp s)
  case atStart => exact ⟨N, n, [], rfl, rfl, h2, by omega, by omega, hn, hst⟩
  case round =>
    obtain ⟨a, k, t, rfl, rfl, ha, hk0, hk1, hk, hl⟩ := hrel
    have hlen := hl.out.len
    have hlen' : t.length ≤ 19 := by omega
    by_cases g : a = 0
    · subst g
      have hkz : k = 0 := by have := hk.out; omega
      subst hkz
      have hsl := slice_dig 0 (by omega)
      by_cases g2 : t = []
      · subst g2
        have hn := Lib.hid (hl.out.step (Or.inr rfl))
        go_wp2
        go_round
        case rel => exact ⟨0, 0, [dgt 0], congrArg Value.string (ByteArray.ext (by simp [dgt])), rfl, by omega, by omega, by omega, Lib.hid rfl, hn⟩
        case measure => simp [intOf, emp]; decide
      · have hd := Lib.hid (hl.out.done (by simp [g2]))
        have g3 : t.isEmpty = false := by simp [g2]
        go_wp2
        go_ret
        exact ⟨by rw [← hd.out]; exact congrArg (Ending.returned ∘ Value.string) (ByteArray.ext (by simp)), rfl⟩
    · have g1 : 1 ≤ a := by omega
      have hn' := Lib.hid (hl.out.step (Or.inl g))
      have hkn : k < 0 := by have := hk.out; omega
      have hkb : (k != 0) = true := by simp; omega
      have em : k.tmod 10 = -((a % 10 : Nat) : Int) := by rw [hk.out]; exact neg_mod a
      have ed : k.tdiv 10 = -((a / 10 : Nat) : Int) := by rw [hk.out]; exact neg_div a
      have hsl := slice_dig (a % 10) (by omega)
      obtain ⟨d, hd⟩ : ∃ d, d = a % 10 := ⟨_, rfl⟩
      obtain ⟨q, hq⟩ : ∃ q, q = a / 10 := ⟨_, rfl⟩
      rw [← hd] at em hsl hn'
      rw [← hq] at ed hn'
      have hd10 : d ≤ 9 := by omega
      have hqb : q ≤ 922337203685477580 := by omega
      have hqa : q < a := by omega
      have Hd := Lib.hid hd
      have Hq := Lib.hid hq
      clear hd hq
      by_cases hz : d = 0
      · subst hz
        go_wp2
        go_round
        case rel => exact ⟨q, -(q : Int), dgt 0 :: t, congrArg Value.string (ByteArray.ext (by simp [dgt])), rfl, by omega, by omega, by omega, Lib.hid rfl, hn'⟩
        case measure => have := hk.out; simp [intOf, emp]; omega
      · have hdp : -(d : Int) < 0 := by omega
        go_wp2
        go_round
        case rel => exact ⟨q, -(q : Int), dgt d :: t, congrArg Value.string (ByteArray.ext (by simp)), rfl, by omega, by omega, by omega, Lib.hid rfl, hn'⟩
        case measure => have := hk.out; simp [intOf, emp]; omega

theorem rformat_any (n : Int) (h1 : -9223372036854775808 ≤ n) (h2 : n ≤ 9223372036854775807) (w : World) :
    Calls Tryd.prog 29 #[.int .i64 n] w fun e w' => e = .returned (.string ⟨(fmtL n).toArray⟩) ∧ w = w' := by
  unfold fmtL
  by_cases h : n < 0
  · rw [abz_neg h, if_pos h]
    obtain ⟨N, hN⟩ := Int.eq_ofNat_of_zero_le (a := -n) (by omega)
    rw [hN, Int.toNat_natCast]
    exact rformat_neg N (by omega) (by omega) n (Lib.hid (by omega)) w
  · rw [abz_pos h, if_neg h]
    obtain ⟨N, rfl⟩ := Int.eq_ofNat_of_zero_le (a := n) (by omega)
    rw [Int.toNat_natCast]
    exact rformat_pos N (by omega) w

end Num
end Go.Proofs.YtghjflmanldjlaaDoor
