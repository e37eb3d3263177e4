/-
  Layer 4's reference: Join.
-/
import Derived.Test.YtkecellbbfhpoaaFrmF
namespace Go.Proofs.Ytkecellbbfhpoaa
open Go.RowKit Go.ChangeShapes Go.WideShapes
theorem make_bytes (n : Nat) (hn : n ≤ 140737488355328) (W : World) : (Instr.makeSlice 36 (.int .i64 0) (.int .i64 (n : Int))).run Try.prog W = .ok (.slice (some ⟨W.heap.size, 0, none⟩) 0 n) (W.alloc (.cells (madeCells #[.int .u8 0] n) 5)) := by
  obtain ⟨i0, hi, hz0, hz1, hz2⟩ := info_parts info_u8
  have h := run_make (P := Try.prog) (w := W) 36 5 i0 _ Try.underlying36 hi hz0 .i64 .i64 0 (n : Int) (by omega) (by omega) (by rw [hz2]; omega) (by omega)
  rw [h, hz1]
  simp only [Int.toNat_natCast, Nat.mul_one]
  rfl
theorem made_own (W : World) (base n : Nat) (hn : n ≤ maxLen) (hb : base ≤ W.heap.size) : (W.alloc (.cells (madeCells #[.int .u8 0] n) 5)).ownsRow base 5 1 (.slice (some ⟨W.heap.size, 0, none⟩) 0 n) 0 [] :=
  World.ownsRow_made W _ n hb hn (by rw [size_madeCells]; simp)
namespace Frm
open Hsh

def OkJ (fs : List (List UInt8)) : Prop := (frms fs).length ≤ 262144
instance (fs : List (List UInt8)) : Decidable (OkJ fs) := by unfold OkJ; infer_instance
def joiB (fs : List (List UInt8)) : List UInt8 := if OkJ fs then frms fs else []
def joiE (fs : List (List UInt8)) : Int := if OkJ fs then 0 else 3
theorem joi_ok {fs : List (List UInt8)} (h : OkJ fs) : joiB fs = frms fs ∧ joiE fs = 0 := by
  unfold joiB joiE
  rw [if_pos h, if_pos h]
  exact ⟨rfl, rfl⟩
theorem joi_no {fs : List (List UInt8)} (h : ¬ OkJ fs) : joiB fs = [] ∧ joiE fs = 3 := by
  unfold joiB joiE
  rw [if_neg h, if_neg h]
  exact ⟨rfl, rfl⟩
/-- The frames of the first k. -/
def frmAt (xs : List ByteArray) (k : Nat) : List UInt8 := frms (lists (xs.take k))
theorem frmAt_zero (xs : List ByteArray) : frmAt xs 0 = [] := rfl
theorem frmAt_all {n : Nat} {xs : List ByteArray} (h : xs.length = n) : frmAt xs n = frms (lists xs) := by
  unfold frmAt
  rw [List.take_of_length_le (by omega)]
theorem frmAt_step {k : Nat} {xs : List ByteArray} (h : k < xs.length) : frmAt xs (k + 1) = frmAt xs k ++ frm xs[k].toList := by
  unfold frmAt lists frms
  rw [List.take_succ_eq_append_getElem h, List.map_append, List.flatMap_append]
  simp
theorem frmAt_len {k : Nat} {xs : List ByteArray} (h : k < xs.length) : (frmAt xs (k + 1)).length = (frmAt xs k).length + 8 + xs[k].size := by
  rw [frmAt_step h, List.length_append, frm_len, toL_len]
  omega
theorem frmAt_le {k : Nat} {xs : List ByteArray} : (frmAt xs k).length ≤ (frms (lists xs)).length := by
  unfold frmAt lists frms
  conv => rhs; rw [← List.take_append_drop k xs]
  rw [List.map_append, List.flatMap_append, List.length_append]
  omega
set_option maxHeartbeats 8000000 in
theorem rjoin_any (o : Option Addr) (n c : Nat) (xs : List ByteArray) (hn : n ≤ maxLen) (hx : ∀ x ∈ xs, x.size ≤ 140737488355328) (w : World) (hA : SlArg w o n xs) :
    Calls Try.prog 21 #[.slice o n c] w fun e w' => e = .returned (.tuple #[.string ⟨(joiB (lists xs)).toArray⟩, .int .i64 (joiE (lists xs))]) ∧ Bel w w' := by
  have hlen := hA.1
  unfold maxLen at hn
  obtain ⟨i0, hi, hz0, hz1, hz2⟩ := info_parts info_u8
  have HA := Lib.hid hA
  have HX := Lib.hid hx
  clear hA hx
  go_enter Try.func21, Try.ntmps21
  go_wp2
  go_loopw [4, 12] (fun t i wr => ∃ (k T : Nat), t = .int .i64 (T : Int) ∧ i = .int .i64 (k : Int) ∧ k ≤ n ∧ T ≤ 262144 ∧ Hid ((frmAt xs k).length = T) ∧ Hid (Bel w wr)) (fun _ i _ => n - (intOf i).toNat)
  case atStart => exact ⟨0, 0, rfl, rfl, Nat.zero_le _, by omega, Lib.hid rfl, Lib.hid (Bel.refl _)⟩
  case round =>
    obtain ⟨k, T, rfl, rfl, hk, hT, hTl, hb⟩ := hrel
    rename World => W0
    by_cases hlt : k < n
    · have hkx : k < xs.length := by omega
      obtain ⟨p, rfl, hc0⟩ := HA.out.2 k hkx
      have hc := hb.out.cell' hc0
      have hl := frmAt_len hkx
      rw [hTl.out] at hl
      have hle := frmAt_le (k := k + 1) (xs := xs)
      have hxs := HX.out xs[k] (List.getElem_mem hkx)
      obtain ⟨x, hxe⟩ : ∃ x, xs[k] = x := ⟨_, rfl⟩
      rw [hxe] at hc hc0 hl hxs
      have a1 : IntKind.i64.wrap ((T : Int) + 8) = (T : Int) + 8 := by rw [IntKind.wrap_i64]; omega
      have a2 : IntKind.i64.wrap ((T : Int) + 8 + (x.size : Int)) = (T : Int) + 8 + (x.size : Int) := by rw [IntKind.wrap_i64]; omega
      by_cases hbig : 262136 < x.size
      · have hz := Lib.hid (joi_no (fs := lists xs) (fun h => by unfold OkJ at h; omega))
        clear hTl hl hle hxs
        go_wp2
        go_ret2
        exact ⟨by rw [hz.out.1, hz.out.2]; rfl, hb.out⟩
      · by_cases hsum : 262144 < T + 8 + x.size
        · have hz := Lib.hid (joi_no (fs := lists xs) (fun h => by unfold OkJ at h; omega))
          clear hTl hl hle hxs
          go_wp2
          go_ret2
          exact ⟨by rw [hz.out.1, hz.out.2]; rfl, hb.out⟩
        · have hl' : Hid ((frmAt xs (k + 1)).length = T + 8 + x.size) := Lib.hid hl
          clear hTl hl hle hxs hxe hc0
          go_wp2
          go_round
          case rel => exact ⟨k + 1, T + 8 + x.size, by go_num, by go_num, by omega, by omega, hl', by assumption⟩
          case measure => simp [intOf]; omega
    · obtain rfl : k = n := by omega
      have hT' := hTl.out
      rw [frmAt_all hlen] at hT'
      have hz := Lib.hid (joi_ok (fs := lists xs) (by unfold OkJ; omega))
      have hTT := Lib.hid hT'
      clear hTl hT'
      have mk := fun W => make_bytes T (by omega) W
      go_wp2
      have own0 := Lib.hid (made_own W0 w.heap.size T (by unfold maxLen; omega) hb.out.size)
      have B0 : Hid (Bel w (W0.alloc (.cells (madeCells #[.int .u8 0] T) 5))) := Lib.hid (hb.out.alloc _)
      clear mk hb hlt
      go_loopw [6, 45] (fun v i wr => ∃ (j m c' : Nat) (a : Option Addr), v = .slice a m c' ∧ i = .int .i64 (j : Int) ∧ j ≤ k ∧ Hid ((frmAt xs j).length = m) ∧ Hid (wr.ownsRow w.heap.size 5 1 (.slice a m c') m (encB (frmAt xs j))) ∧ Hid (Bel w wr)) (fun _ i _ => k - (intOf i).toNat)
      case atStart => exact ⟨0, 0, T, _, rfl, rfl, Nat.zero_le _, Lib.hid rfl, own0, B0⟩
      case round =>
        obtain ⟨j, m, c', a, rfl, rfl, hj, hml, hown, hb⟩ := hrel
        rename World => W1
        clear own0 B0
        by_cases hlt : j < k
        · have hjx : j < xs.length := by omega
          obtain ⟨p, rfl, hc0⟩ := HA.out.2 j hjx
          have hc := hb.out.cell' hc0
          have hl := frmAt_len hjx
          have hle := frmAt_le (k := j + 1) (xs := xs)
          have hst := frmAt_step hjx
          rw [hml.out] at hl
          rw [hTT.out] at hle
          obtain ⟨x, hxe⟩ : ∃ x, xs[j] = x := ⟨_, rfl⟩
          rw [hxe] at hc hc0 hl hst
          have hs := Lib.hid (rseal_ok x (by omega))
          obtain ⟨F, hF⟩ : ∃ F : ByteArray, ⟨(frm x.toList).toArray⟩ = F := ⟨_, rfl⟩
          have hFl : F.toList = frm x.toList := by rw [← hF, tl']
          have hFs : F.size = x.size + 8 := by rw [← toL_len, hFl, frm_len, toL_len]
          rw [hF] at hs
          rw [← hFl] at hst
          have hm2 : Hid ((frmAt xs (j + 1)).length = m + F.size) := Lib.hid (by omega)
          have q3 : Hid (m + F.size ≤ maxLen) := Lib.hid (by unfold maxLen; omega)
          have q4 : Hid (m + F.size ≤ 140737488355328) := Lib.hid (by omega)
          have hst' := Lib.hid hst
          have hown0 := hown
          clear hst hFl hF hxe hFs hle hl hml hown
          go_wp2_with fail
          refine (hs.out _).mono ?_
          rintro e W2 ⟨rfl, g1⟩
          have HO := Lib.hid (own_on hown0.out g1)
          have B2 := Lib.hid (Bel.trans hb.out g1)
          clear hown0 hb
          go_wp2_with (at_builtin; refine Lib.wpList_append_own_string _ rfl _ _ 36 9 rfl w.heap.size 5 i0 Try.underlying36 Try.underlying9 hi hz0 hz1 hz2 _ _ _ rfl HO.out F rfl q3.out q4.out B2.out.size ?_; intro v3 w3 hown3 hgrow3 hnil3; refine Hid.out ?_)
          refine Lib.hid ?_
          obtain ⟨o3, c3, rfl⟩ := own_shape hown3
          have b3 := Lib.hid (own_bel HO.out B2.out hgrow3)
          rw [strCells_enc, ← encB_app, ← hst'.out] at hown3
          have h3 := Lib.hid hown3
          clear hnil3 hgrow3 hown3 q3 q4 hst' HO B2 g1
          go_wp2
          go_round
          case rel => exact ⟨j + 1, m + F.size, c3, o3, by go_num, by go_num, by omega, hm2, h3, b3⟩
          case measure => simp [intOf]; omega
        · obtain rfl : j = k := by omega
          have hO := hown.out
          rw [frmAt_all hlen] at hO
          have cv := own_conv hO
          clear hown hO hml
          go_wp2
          go_ret2
          exact ⟨by rw [hz.out.1, hz.out.2]; rfl, hb.out⟩
end Frm
end Go.Proofs.Ytkecellbbfhpoaa
