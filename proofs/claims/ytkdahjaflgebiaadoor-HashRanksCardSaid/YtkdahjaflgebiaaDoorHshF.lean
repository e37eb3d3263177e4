/-
  Hex, and strconv.ParseUint at base 16.
-/
import Derived.Test.YtkdahjaflgebiaaDoorHshE
import Derived.Lib.Strings
import Derived.Lib.Walk
import Derived.Lib.ConvBytes
import Derived.Lib.AtoiAllMem
import Derived.Laws.Strings3
import Derived.Laws.Closers25
import Derived.Laws.Closers25b
import Derived.WalkKit
import Derived.BigCall
import Derived.BigGuard
namespace Go.Proofs.YtkdahjaflgebiaaDoor
open Go.RowKit
namespace Hsh

theorem cat_eq (n K : Nat) (hK : K ≤ 16) (h : n < 16 ^ K) : (⟨(List.replicate (16 - K) (48 : UInt8)).toArray⟩ : ByteArray) ++ ⟨(hexF K n).toArray⟩ = ⟨(hexL n).toArray⟩ := by
  have e := hexF_pad n K h (16 - K)
  rw [show K + (16 - K) = 16 by omega] at e
  unfold hexL
  rw [e]
  apply ByteArray.ext
  simp [ByteArray.data_append]
theorem hex_core (n : Nat) (w : World) (hL : Lad w) (hf : Hid (∀ W, Lad W → Calls Tryd.prog 30 #[.int .u64 (n : Int), .int .i64 16] W fun e w' => (∃ K : Nat, K ≤ 16 ∧ n < 16 ^ K ∧ e = .returned (.string ⟨(hexF K n).toArray⟩)) ∧ Bel W w')) :
    Calls Tryd.prog 17 #[.int .u64 (n : Int)] w fun e w' => e = .returned (.string ⟨(hexL n).toArray⟩) ∧ Bel w w' := by
  go_enter Tryd.func17, Tryd.ntmps17
  go_wp2_with fail
  refine (hf.out _ hL).mono ?_
  rintro e w1 ⟨⟨K, k1, k2, rfl⟩, g⟩
  have hs : (⟨(hexF K n).toArray⟩ : ByteArray).size = K := by show (hexF K n).toArray.size = K; simp [hexF_len]
  have hc := Lib.hid (cat_eq n K k1 k2)
  have hz : (⟨(List.replicate (16 - K) (48 : UInt8)).toArray⟩ : ByteArray).size = 16 - K := by show (List.replicate (16 - K) (48 : UInt8)).toArray.size = _; simp
  obtain ⟨x, hx⟩ : ∃ x : ByteArray, ⟨(hexF K n).toArray⟩ = x := ⟨_, rfl⟩
  obtain ⟨c, hcc⟩ : ∃ c : Nat, 16 - K = c := ⟨_, rfl⟩
  have hr := Lib.hid (rep_any c (by omega))
  obtain ⟨y, hy⟩ : ∃ y : ByteArray, ⟨(List.replicate c (48 : UInt8)).toArray⟩ = y := ⟨_, rfl⟩
  rw [hcc] at hc hz
  rw [hx] at hs hc ⊢
  rw [hy] at hc hz hr
  have Hx := Lib.hid hx
  have Hy := Lib.hid hy
  clear hx hy k2 hf
  have hlt : (9223372036854775807 < y.size + x.size) = False := eq_false (by omega)
  go_wp2_with fail
  rw [show (16 : Int) - (K : Int) = (c : Int) by omega]
  refine (hr.out _).mono ?_
  rintro e w2 ⟨rfl, rfl⟩
  go_wp2_with fail
  go_ret
  exact ⟨by rw [← hc.out]; rfl, g⟩
theorem hex_any (n : Nat) (hn : n < 18446744073709551616) : Tells 17 #[.int .u64 (n : Int)] (.returned (.string ⟨(hexL n).toArray⟩)) := fun W h =>
  hex_core n W h (Lib.hid fun W h => fuint_any n hn W h)

/-- What strconv.ParseUint reads: capital letters too, any number of digits, as long as it fits 64 bits. -/
def digU (c : Nat) : Int := if 48 ≤ c ∧ c ≤ 57 then (c : Int) - 48 else if 97 ≤ c ∧ c ≤ 102 then (c : Int) - 87 else if 65 ≤ c ∧ c ≤ 70 then (c : Int) - 55 else -1
def puF : Nat → List UInt8 → Option Nat
  | a, [] => some a
  | a, c :: r => if digU c.toNat < 0 then none else if 1152921504606846976 ≤ a then none else puF (a * 16 + (digU c.toNat).toNat) r
def pu (l : List UInt8) : Option Nat := if l = [] then none else puF 0 l
theorem lower_any (c : Nat) (w : World) (r : Int) (hr : bits BinOp.or IntKind.u8 (c : Int) 32 = r) :
    Calls Tryd.prog 64 #[.int .u8 (c : Int)] w fun e w' => e = .returned (.int .u8 r) ∧ w' = w := by
  go_enter Tryd.func64, Tryd.ntmps64
  go_wp2
  go_ret
  exact ⟨rfl, rfl⟩
def lw (c : Nat) : Int := bits BinOp.or IntKind.u8 (c : Int) 32
theorem lw_fin : ∀ c : Fin 256, 0 ≤ lw c.val ∧ lw c.val < 256 ∧ (97 ≤ lw c.val → 65 ≤ c.val) ∧ (¬ (48 ≤ c.val ∧ c.val ≤ 57) → digU c.val = if 97 ≤ lw c.val ∧ lw c.val ≤ 102 then lw c.val - 87 else -1) := by decide +kernel
theorem digU_dec {c : Nat} (h : 48 ≤ c ∧ c ≤ 57) : digU c = (c : Int) - 48 := by unfold digU; rw [if_pos h]
theorem digU_bd (c : Nat) : -1 ≤ digU c ∧ digU c ≤ 15 := by
  unfold digU
  split
  · omega
  · split
    · omega
    · split <;> omega
theorem pu_bad {a : Nat} {c : UInt8} {r : List UInt8} (h : digU c.toNat < 0) : puF a (c :: r) = none := by rw [puF, if_pos h]
theorem pu_big {a : Nat} {c : UInt8} {r : List UInt8} (h : 1152921504606846976 ≤ a) : puF a (c :: r) = none := by rw [puF, if_pos h]; split <;> rfl
theorem pu_go {a d : Nat} {c : UInt8} {r : List UInt8} (h : digU c.toNat = (d : Int)) (ha : a < 1152921504606846976) : puF a (c :: r) = puF (a * 16 + d) r := by
  rw [puF, if_neg (by omega), if_neg (by omega), h, Int.toNat_natCast]
/-- How strconv's inner ParseUint ends at base 16, 64 bits. -/
def PuEnds (l : List UInt8) (e : Ending) : Prop :=
  (∃ n : Nat, pu l = some n ∧ n < 18446744073709551616 ∧ e = .returned (.tuple #[.int .u64 (n : Int), .nilIface])) ∨
  (pu l = none ∧ (e = .returned (.tuple #[.int .u64 0, .iface 91 (.int .i64 2)]) ∨ e = .returned (.tuple #[.int .u64 18446744073709551615, .iface 91 (.int .i64 1)])))
set_option maxHeartbeats 4000000 in
set_option maxRecDepth 100000 in
theorem ipu_empty (w : World) : Calls Tryd.prog 46 #[.string ⟨#[]⟩, .int .i64 16, .int .i64 64] w fun e w' => PuEnds [] e ∧ Bel w w' := by
  go_enter Tryd.func46, Tryd.ntmps46
  go_wp2
  go_ret2
  exact ⟨Or.inr ⟨rfl, Or.inl rfl⟩, Bel.refl _⟩
set_option maxHeartbeats 32000000 in
set_option maxRecDepth 100000 in
theorem ipu_some (t : ByteArray) (hne : t.size ≠ 0) (hmax : t.size ≤ 9223372036854775806) (w : World) :
    Calls Tryd.prog 46 #[.string t, .int .i64 16, .int .i64 64] w fun e w' => PuEnds t.data.toList e ∧ Hid (w' = Lib.bytesWorld w 5 t) := by
  have hemp : t.toList.isEmpty = false := by
    rw [← decide_eq_emptyBytes]
    exact decide_eq_false (fun h => hne (by rw [h]; rfl))
  have hcv := Lib.run_convert_string_bytes (P := Tryd.prog) w 9 66 5 t (u := .string) Tryd.underlying9 Tryd.underlying66 Tryd.underlying5
  have hB : ∀ j, j < t.size → (Lib.bytesWorld w 5 t).cell? ⟨w.heap.size, j, none⟩ = some (.int .u8 (t.data.toList.getD j 0).toNat) := fun j hj => Lib.bytesWorld_cell w 5 t j hj
  obtain ⟨W1, hW1⟩ : ∃ W1, W1 = Lib.bytesWorld w 5 t := ⟨_, rfl⟩
  rw [← hW1] at hcv hB ⊢
  clear hW1
  obtain ⟨bs, hL⟩ : ∃ bs, bs = t.data.toList := ⟨_, rfl⟩
  have hLn : bs.length = t.size := by rw [hL, Lib.size_eq]
  have hbn : Hid (pu bs = puF 0 bs) := Lib.hid (by unfold pu; rw [if_neg]; intro h; rw [h] at hLn; exact hne (by simpa using hLn.symm))
  rw [← hL] at hB ⊢
  clear hL
  have hmv : IntKind.u64.wrap (IntKind.u64.wrap 18446744073709551616 - 1) = 18446744073709551615 := by
    rw [IntKind.wrap_u64, IntKind.wrap_u64]
    decide
  go_enter Tryd.func46, Tryd.ntmps46
  go_wp2
  go_loop [12, 13, 101] (fun vu vn vi => ∃ (k acc : Nat) (a : Int), vu = .bool false ∧ vn = .int .u64 a ∧ vi = .int .i64 k ∧ k ≤ t.size ∧ Hid (a = (acc : Int) ∧ acc < 18446744073709551616 ∧ pu bs = puF acc (bs.drop k)))
    (fun _ _ vi => t.size - (intOf vi).toNat)
  case atStart => exact ⟨0, 0, 0, rfl, rfl, rfl, by omega, Lib.hid ⟨rfl, by omega, hbn.out⟩⟩
  case round =>
    obtain ⟨k, acc, a, rfl, rfl, rfl, hk, hh⟩ := hrel
    obtain ⟨ha, hacc, hdec⟩ := hh.out
    clear hh hbn
    have a0 : 0 ≤ a := by omega
    have a1 : a < 18446744073709551616 := by omega
    by_cases hkn : k < t.size
    · have hc := hB k hkn
      have hdrop : bs.drop k = bs[k]'(by omega) :: bs.drop (k + 1) := List.drop_eq_getElem_cons (by omega)
      have hget : bs.getD k 0 = bs[k]'(by omega) := by simp [List.getD, List.getElem?_eq_getElem (show k < bs.length by omega)]
      rw [hdrop] at hdec
      rw [hget] at hc
      generalize bs[k]'(by omega) = c at hc hdec
      have hc256 : c.toNat < 256 := c.toNat_lt
      clear hB hdrop hget
      obtain ⟨l0, l1, l65, l2⟩ := lw_fin ⟨c.toNat, hc256⟩
      simp only at l0 l1 l65 l2
      by_cases hdig : 48 ≤ c.toNat ∧ c.toNat ≤ 57
      · have hD := digU_dec hdig
        obtain ⟨hd0, hd1⟩ := hdig
        clear l0 l1 l65 l2
        by_cases hcut : 1152921504606846976 ≤ acc
        · have hF := Lib.hid (hdec.trans (pu_big hcut))
          have icut : 1152921504606846976 ≤ a := by omega
          clear hcut hacc ha hdec hD
          go_wp2
          go_ret2
          exact ⟨Or.inr ⟨hF.out, Or.inr rfl⟩, Lib.hid rfl⟩
        · have HN : Hid (a * 16 + ((c.toNat : Int) - 48) = ((acc * 16 + (c.toNat - 48) : Nat) : Int) ∧ acc * 16 + (c.toNat - 48) < 18446744073709551616 ∧ pu bs = puF (acc * 16 + (c.toNat - 48)) (bs.drop (k + 1))) :=
            Lib.hid ⟨by omega, by omega, hdec.trans (pu_go (by omega) (by omega))⟩
          have icut : a < 1152921504606846976 := by omega
          clear hcut hacc ha hdec hD
          go_wp2
          refine ⟨⟨k + 1, acc * 16 + (c.toNat - 48), a * 16 + ((c.toNat : Int) - 48), rfl, (by first | rfl | (congr 1; omega)), (by first | rfl | (congr 1; omega)), by omega, HN⟩, by simp [intOf]; omega⟩
      · have l3 := l2 hdig
        by_cases h95 : c.toNat = 95
        · have hF := Lib.hid (hdec.trans (pu_bad (by rw [h95]; decide)))
          rw [h95] at hc
          clear hacc ha hdec l0 l1 l65 l2 l3 hdig hc256 h95
          have hr : bits BinOp.or IntKind.u8 95 32 = 127 := by decide +kernel
          go_wp2_with (go_at_call 64; refine (lower_any 95 _ 127 hr).mono ?_; rintro e w' ⟨rfl, rfl⟩)
          go_ret2
          exact ⟨Or.inr ⟨hF.out, Or.inl rfl⟩, Lib.hid rfl⟩
        · have n95 : ((c.toNat : Int) == 95) = false := by simp; omega
          obtain ⟨r, hr⟩ : ∃ r, lw c.toNat = r := ⟨_, rfl⟩
          rw [hr] at l0 l1 l65 l3
          have hlow := Lib.hid (fun W => lower_any c.toNat W r hr)
          clear l2 hr h95
          by_cases hx : 97 ≤ r ∧ r ≤ 102
          · rw [if_pos hx] at l3
            have h65 := l65 hx.1
            have c57 : 57 < c.toNat := by omega
            obtain ⟨hx1, hx2⟩ := hx
            obtain ⟨d, hd⟩ : ∃ d : Nat, r - 87 = (d : Int) := ⟨(r - 87).toNat, by omega⟩
            have hd16 : d < 16 := by omega
            obtain rfl : r = (d : Int) + 87 := by omega
            rw [hd] at l3
            by_cases hcut : 1152921504606846976 ≤ acc
            · have hF := Lib.hid (hdec.trans (pu_big hcut))
              have icut : 1152921504606846976 ≤ a := by omega
              clear hcut hacc ha hdec l3 hd l65 hdig
              go_wp2_with (go_at_call 64; refine (hlow.out _).mono ?_; rintro e w' ⟨rfl, rfl⟩)
              go_ret2
              exact ⟨Or.inr ⟨hF.out, Or.inr rfl⟩, Lib.hid rfl⟩
            · have HN : Hid (a * 16 + (d : Int) = ((acc * 16 + d : Nat) : Int) ∧ acc * 16 + d < 18446744073709551616 ∧ pu bs = puF (acc * 16 + d) (bs.drop (k + 1))) :=
                Lib.hid ⟨by omega, by omega, hdec.trans (pu_go l3 (by omega))⟩
              have icut : a < 1152921504606846976 := by omega
              clear hcut hacc ha hdec l3 hd l65 hdig
              go_wp2_with (go_at_call 64; refine (hlow.out _).mono ?_; rintro e w' ⟨rfl, rfl⟩)
              refine ⟨⟨k + 1, acc * 16 + d, a * 16 + d, rfl, (by first | rfl | (congr 1; omega)), (by first | rfl | (congr 1; omega)), by omega, HN⟩, by simp [intOf]; omega⟩
          · rw [if_neg hx] at l3
            have hF := Lib.hid (hdec.trans (pu_bad (by omega)))
            clear hacc ha hdec l3 l65
            go_wp2_with (go_at_call 64; refine (hlow.out _).mono ?_; rintro e w' ⟨rfl, rfl⟩)
            all_goals go_ret2
            all_goals exact ⟨Or.inr ⟨hF.out, Or.inl rfl⟩, Lib.hid rfl⟩
    · have hkk : k = t.size := by omega
      subst hkk
      have hF : pu bs = some acc := by rw [hdec, List.drop_eq_nil_of_le (by omega)]; rfl
      have HF := Lib.hid hF
      have Hac := Lib.hid hacc
      subst ha
      clear hacc hF a0 a1 hdec
      go_wp2
      go_ret2
      exact ⟨Or.inl ⟨acc, HF.out, Hac.out, rfl⟩, Lib.hid rfl⟩
end Hsh
end Go.Proofs.YtkdahjaflgebiaaDoor
