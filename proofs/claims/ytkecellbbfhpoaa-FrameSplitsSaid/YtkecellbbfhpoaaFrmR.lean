/-
  Layer 4, the code: cutField.
-/
import Derived.Test.YtkecellbbfhpoaaFrmQ
import Derived.Lib.ConvBytes
import Derived.Deep.OwnRows
import Derived.ScopeJumps
import Derived.WalkMore
namespace Go.Proofs.Ytkecellbbfhpoaa
open Go.RowKit Go.ChangeShapes Go.WideShapes
namespace Frm
open Hsh

/-- The bytes l lie in block b, from place q on. -/
def Rd (w : World) (b q : Nat) (l : List UInt8) : Prop := ∀ j (h : j < l.length), w.cell? ⟨b, q + j, none⟩ = some (.int .u8 (l[j].toNat : Int))
theorem Rd.drewN {w : World} {b q : Nat} {l : List UInt8} (h : Rd w b q l) (n : Nat) : Rd (w.drewN n) b q l := fun j hj => by
  have := h j hj
  simpa using this
theorem Rd.part {w : World} {b q : Nat} {l : List UInt8} (h : Rd w b q l) (i v : Nat) : Rd w b (q + i) ((l.drop i).take v) := fun j hj => by
  have hj' : j < min v (l.length - i) := by simpa using hj
  rw [Nat.add_assoc, h (i + j) (by omega)]
  simp
theorem Rd.drop {w : World} {b q : Nat} {l : List UInt8} (h : Rd w b q l) (i : Nat) : Rd w b (q + i) (l.drop i) := fun j hj => by
  have hj' : j < l.length - i := by simpa using hj
  rw [Nat.add_assoc, h (i + j) (by omega)]
  simp
theorem Rd.nil {w : World} {b q : Nat} : Rd w b q [] := fun j hj => absurd hj (Nat.not_lt_zero j)
/-- The string of such bytes. -/
theorem Rd.conv {W : World} {b q c : Nat} {l : List UInt8} (h : Rd W b q l) (n : Nat) (hn : l.length = n) : (convert 36 9 (.slice (some ⟨b, q, none⟩) n c)).run Try.prog W = .ok (.string ⟨l.toArray⟩) W := by
  subst hn
  exact run_convert_bytes_back (P := Try.prog) W 36 9 5 ⟨b, q, none⟩ c l Try.underlying36 Try.underlying5 Try.underlying9 (fun j hj => by
    rw [Lib.add_plain]
    exact h j hj)
theorem size_u8 (w : World) : (Go.sizeOf 5).run Try.prog w = .ok 1 w := by
  obtain ⟨i0, hi, hz0, hz1, hz2⟩ := info_parts info_u8
  rw [run_sizeOf (P := Try.prog) (w := w) hi]
  unfold Program.cellsOf
  rw [hi]
  simp [hz1]
/-- A piece of such bytes, its room limited; and the rest. -/
theorem piece (b q n c i j : Nat) (hi : i ≤ j) (hj : j ≤ c) : ∃ q1, (i < j → q1 = q + i) ∧ ∀ w, (Instr.slice 36 (.slice (some ⟨b, q, none⟩) n c) (some (.int .i64 (i : Int))) (some (.int .i64 (j : Int))) (some (.int .i64 (j : Int)))).run Try.prog w = .ok (.slice (some ⟨b, q1, none⟩) (j - i) (j - i)) w := by
  refine ⟨if j = i then q else q + i, fun h => by rw [if_neg (by omega)], fun w => ?_⟩
  have ht : Try.prog.underlying 36 = some (.slice (Try.prog.elem 36)) := by kernel_rfl
  have he : Try.prog.elem 36 = 5 := by kernel_rfl
  rw [run_slice_lhm w _ _ _ _ ht .i64 .i64 .i64 _ _ _ (by omega) (by omega) (by omega) (by omega), he, size_u8]
  by_cases h : j = i
  · subst h; simp [Result.andThen, sliced]
  · simp [Result.andThen, sliced, h, Addr.add]
theorem rest (b q n c i : Nat) (hi : i ≤ n) (hn : n ≤ c) : ∃ q1, (i < n → q1 = q + i) ∧ ∀ w, (Instr.slice 36 (.slice (some ⟨b, q, none⟩) n c) (some (.int .i64 (i : Int))) none none).run Try.prog w = .ok (.slice (some ⟨b, q1, none⟩) (n - i) (c - i)) w := by
  refine ⟨if c = i then q else q + i, fun h => by rw [if_neg (by omega)], fun w => ?_⟩
  have ht : Try.prog.underlying 36 = some (.slice (Try.prog.elem 36)) := by kernel_rfl
  have he : Try.prog.elem 36 = 5 := by kernel_rfl
  rw [run_slice_l w _ _ _ _ ht .i64 _ (by omega) (by omega), he, size_u8]
  by_cases h : c = i
  · subst h; simp [Result.andThen, sliced]
  · simp [Result.andThen, sliced, h, Addr.add]
/-- Or of two int. -/
theorem ofI64 (a : Nat) (ha : a < 9223372036854775808) : (BitVec.ofInt 64 (a : Int)).toNat = a := by
  rw [BitVec.ofInt_natCast, BitVec.toNat_ofNat]
  exact Nat.mod_eq_of_lt (by omega)
theorem or_val2 (a b : Nat) (ha : a < 256) (hb : b < 256) : bits .or .i64 ((a : Int) * 256) (b : Int) = ((a * 256 + b : Nat) : Int) := by
  show IntKind.i64.wrap ((BitVec.ofInt 64 ((a : Int) * 256) ||| BitVec.ofInt 64 (b : Int)).toNat : Int) = _
  rw [show (a : Int) * 256 = ((2 ^ 8 * a : Nat) : Int) by omega, BitVec.toNat_or, ofI64 _ (by omega), ofI64 b (by omega), or_add 8 a b (by omega), IntKind.wrap_i64]
  omega
set_option maxHeartbeats 4000000 in
theorem cut_short (b q n c : Nat) (hn : n < 2) (w : World) :
    Calls Try.prog 24 #[.slice (some ⟨b, q, none⟩) n c] w fun e w' => e = .returned (.tuple #[.slice none 0 0, .slice none 0 0, .int .i64 14]) ∧ w' = w := by
  go_enter Try.func24, Try.ntmps24
  go_wp2
  go_ret3
  exact ⟨rfl, rfl⟩
set_option maxHeartbeats 4000000 in
/-- A field's length is read; then the three ways. -/
theorem cut_any (b q n c v : Nat) (x y : UInt8) (l : List UInt8) (hn : (x :: y :: l).length = n) (hc : n ≤ c) (hm : n ≤ 9223372036854000000) (hv : val2 x y = v) (w : World) (hR : Rd w b q (x :: y :: l)) :
    Calls Try.prog 24 #[.slice (some ⟨b, q, none⟩) n c] w fun e w' =>
      ((4000 < v ∧ e = .returned (.tuple #[.slice none 0 0, .slice none 0 0, .int .i64 13])) ∨
       (v ≤ 4000 ∧ l.length < v ∧ e = .returned (.tuple #[.slice none 0 0, .slice none 0 0, .int .i64 14])) ∨
       (v ≤ 4000 ∧ v ≤ l.length ∧ ∃ q1 q2, Rd w b q1 (l.take v) ∧ Rd w b q2 (l.drop v) ∧ e = .returned (.tuple #[.slice (some ⟨b, q1, none⟩) v v, .slice (some ⟨b, q2, none⟩) (n - (2 + v)) (c - (2 + v)), .int .i64 0]))) ∧ ∃ m, w' = w.drewN m := by
  have hn' : l.length + 2 = n := hn
  have x0 : w.cell? ⟨b, q, none⟩ = some (.int .u8 (x.toNat : Int)) := by have := hR 0 (by simp); simpa using this
  have x1 : w.cell? ⟨b, q + 1, none⟩ = some (.int .u8 (y.toNat : Int)) := by have := hR 1 (by simp); simpa using this
  have HR := Lib.hid hR
  have q0 := x.toNat_lt
  have q1 := y.toNat_lt
  unfold val2 at hv
  have o1 := or_val2 x.toNat y.toNat (by omega) (by omega)
  rw [hv] at o1
  clear hR hn
  generalize x.toNat = a0 at *
  generalize y.toNat = a1 at *
  have m0 : IntKind.i64.wrap ((a0 : Int) * 256) = (a0 : Int) * 256 := by rw [IntKind.wrap_i64]; omega
  go_enter Try.func24, Try.ntmps24
  go_upto_region 3 with (fail)
  go_quiet (fail)
  clear x0 x1 o1 m0
  by_cases hbig : 4000 < v
  · go_wp2
    go_ret3
    exact ⟨Or.inl ⟨hbig, rfl⟩, _, rfl⟩
  · have i1 : IntKind.i64.wrap (2 + (v : Int)) = 2 + (v : Int) := by rw [IntKind.wrap_i64]; omega
    by_cases hsh : l.length < v
    · have g1 : ((n : Int) < 2 + (v : Int)) = True := eq_true (by omega)
      go_wp2
      go_ret3
      exact ⟨Or.inr (Or.inl ⟨by omega, hsh, rfl⟩), _, rfl⟩
    · have g1 : ((n : Int) < 2 + (v : Int)) = False := eq_false (by omega)
      obtain ⟨r1, h1, s1⟩ := piece b q n c 2 (2 + v) (by omega) (by omega)
      obtain ⟨r2, h2, s2⟩ := rest b q n c (2 + v) (by omega) hc
      have e1 : ((2 : Nat) : Int) = 2 := rfl
      have e2 : ((2 + v : Nat) : Int) = 2 + (v : Int) := by omega
      have e3 : 2 + v - 2 = v := by omega
      rw [e1, e2, e3] at s1
      rw [e2] at s2
      have R1 : Hid (Rd w b r1 (l.take v)) := Lib.hid (by
        by_cases hz : v = 0
        · subst hz
          exact Rd.nil
        · rw [h1 (by omega)]
          exact HR.out.part 2 v)
      have R2 : Hid (Rd w b r2 (l.drop v)) := Lib.hid (by
        by_cases hz : 2 + v < n
        · rw [h2 hz]
          have := HR.out.drop (2 + v)
          rwa [show (x :: y :: l).drop (2 + v) = l.drop v by rw [Nat.add_comm]; rfl] at this
        · rw [List.drop_of_length_le (by omega)]
          exact Rd.nil)
      clear h1 h2 e1 e2 e3 HR
      go_upto_region 9 with (fail)
      go_quiet (fail)
      clear s1 s2 g1 i1
      go_wp2
      go_ret3
      exact ⟨Or.inr (Or.inr ⟨by omega, by omega, r1, r2, R1.out, R2.out, rfl⟩), _, World.drewN_drewN _ _ _⟩
end Frm
end Go.Proofs.Ytkecellbbfhpoaa
