/-
  Layer 4, the code: Pack.
-/
import Derived.Test.YtkecellbbfhpoaaFrmP
namespace Go.Proofs.Ytkecellbbfhpoaa
open Go.RowKit Go.ChangeShapes Go.WideShapes
namespace Frm
open Hsh

set_option maxHeartbeats 8000000 in
theorem pack_any (o : Option Addr) (n c : Nat) (xs : List ByteArray) (hn : n ≤ maxLen) (w : World) (hA : SlArg w o n xs) :
    Calls Try.prog 11 #[.slice o n c] w fun e w' => e = .returned (.tuple #[.string ⟨(pckB (lists xs)).toArray⟩, .int .i64 (pckE (lists xs))]) ∧ Bel w w' := by
  have hlen := hA.1
  unfold maxLen at hn
  obtain ⟨i0, hi, hz0, hz1, hz2⟩ := info_parts info_u8
  by_cases h64 : 64 < n
  · have hz := Lib.hid (pck_no (fs := lists xs) (fun h => by have := h.1; rw [lists_len] at this; omega))
    clear hA
    go_enter Try.func11, Try.ntmps11
    go_wp2
    go_ret2
    exact ⟨by rw [hz.out.1, hz.out.2]; rfl, Bel.refl _⟩
  · have HA := Lib.hid hA
    have hnw : IntKind.u8.wrap (n : Int) = (n : Int) := by simp [IntKind.wrap, IntKind.signed, IntKind.bits]; omega
    clear hA
    go_enter Try.func11, Try.ntmps11
    go_wp2
    have own1 := Lib.hid (World.ownsRow_lit (base := w.heap.size) (e := 5) (size := 1) w #[.int .u8 (n : Int)] 1 (Nat.le_refl _) (by decide) rfl)
    have enc1 : encB (pckAt n xs 0) = [.int .u8 (n : Int)] := by
      have e : (UInt8.ofNat n).toNat = n := cnt_of (by omega)
      simp [pckAt, encB, lists, flds, e]
    go_loopw [4, 16] (fun v i wr => ∃ (k m c' : Nat) (a : Option Addr), v = .slice a m c' ∧ i = .int .i64 (k : Int) ∧ k ≤ n ∧ m ≤ 1 + 4002 * k ∧ Hid (wr.ownsRow w.heap.size 5 1 (.slice a m c') m (encB (pckAt n xs k))) ∧
      Hid (∀ x ∈ xs.take k, x.size ≤ 4000) ∧ Hid (Bel w wr)) (fun _ i _ => n - (intOf i).toNat)
    case atStart => exact ⟨0, 1, 1, _, rfl, rfl, Nat.zero_le _, by omega, Lib.hid (by rw [enc1]; exact own1.out), Lib.hid (by simp), Lib.hid (Bel.alloc (Bel.refl _) _)⟩
    case round =>
      obtain ⟨k, m, c', a, rfl, rfl, hk, hm, hown, hsz, hb⟩ := hrel
      rename World => W0
      clear own1 enc1
      by_cases hlt : k < n
      · have hkx : k < xs.length := by omega
        obtain ⟨p, rfl, hc0⟩ := HA.out.2 k hkx
        have hc := hb.out.cell' hc0
        obtain ⟨x, hxe⟩ : ∃ x, xs[k] = x := ⟨_, rfl⟩
        by_cases hbig : 4000 < x.size
        · have hz := Lib.hid (pck_no (fs := lists xs) (fun h => by have := h.2 x.toList (List.mem_map.2 ⟨x, hxe ▸ List.getElem_mem hkx, rfl⟩); rw [toL_len] at this; omega))
          rw [hxe] at hc hc0
          clear hsz hown
          go_wp2
          go_ret2
          exact ⟨by rw [hz.out.1, hz.out.2]; rfl, hb.out⟩
        · have hst := Lib.hid (pckAt_step (n := n) hkx (by rw [hxe]; omega))
          have hsz' : Hid (∀ y ∈ xs.take (k + 1), y.size ≤ 4000) := Lib.hid (fun y hy => by
            rw [List.take_succ_eq_append_getElem hkx, List.mem_append] at hy
            rcases hy with hy | hy
            · exact hsz.out y hy
            · simp only [List.mem_singleton] at hy
              rw [hy, hxe]
              omega)
          rw [hxe] at hc hc0 hst
          have u0 : IntKind.i64.wrap ((x.size : Int) / 256) = (x.size : Int) / 256 := by rw [IntKind.wrap_i64]; omega
          have u1 : IntKind.u8.wrap ((x.size : Int) / 256) = (x.size : Int) / 256 := by simp [IntKind.wrap, IntKind.signed, IntKind.bits]; omega
          have u2 : IntKind.u8.wrap (x.size : Int) = (x.size : Int) % 256 := by simp [IntKind.wrap, IntKind.signed, IntKind.bits]
          clear hsz hxe
          have G := hb.out
          have GS := G.size
          have q1 := Lib.hid (cells_new W0 [.int .u8 ((x.size : Int) / 256), .int .u8 ((x.size : Int) % 256)] 5)
          have q2 : Hid (∀ u ∈ [Value.int .u8 ((x.size : Int) / 256), .int .u8 ((x.size : Int) % 256)], u.oneCell' = true) := Lib.hid (fun u hu => by simp at hu; rcases hu with rfl | rfl <;> rfl)
          have r3 : Hid (m + 2 ≤ maxLen) := Lib.hid (by unfold maxLen; omega)
          have r4 : Hid ((m + 2) * 1 ≤ 140737488355328) := Lib.hid (by omega)
          have q5 : Hid (w.heap.size ≤ (W0.alloc (.cells #[.int .u8 ((x.size : Int) / 256), .int .u8 ((x.size : Int) % 256)] 5)).heap.size) := Lib.hid (Nat.le_trans GS (Nat.le_of_lt (alloc_lt _ _)))
          go_wp2_with (at_builtin; refine wpList_append_own _ rfl _ _ 36 rfl w.heap.size 5 i0 (.int .u8 0) 1 1 Try.underlying36 hi hz0 hz1 hz2 rfl (by decide) _ _ _ rfl (hown.out.alloc _) ⟨W0.heap.size, 0, none⟩ 2 2 [.int .u8 ((x.size : Int) / 256), .int .u8 ((x.size : Int) % 256)] rfl rfl q1.out q2.out r3.out r4.out q5.out ?_; intro v' w' hO2 hgrow2 hnil2; refine Hid.out ?_)
          refine Lib.hid ?_
          obtain ⟨o2, c2, rfl⟩ := own_shape hO2
          have b1 : Bel w w' := own_bel (hown.out.alloc _) (G.alloc (.cells #[.int .u8 ((x.size : Int) / 256), .int .u8 ((x.size : Int) % 256)] 5)) hgrow2
          have HO := Lib.hid hO2
          have hcS := b1.cell' hc0
          have B1 := Lib.hid b1
          have q3 : Hid (m + 2 + x.size ≤ maxLen) := Lib.hid (by unfold maxLen; omega)
          have q4 : Hid (m + 2 + x.size ≤ 140737488355328) := Lib.hid (by omega)
          clear u0 u1 u2 hO2 hown hc hgrow2 hnil2 q1 q2 r3 r4 q5
          go_wp2_with (at_builtin; refine Lib.wpList_append_own_string _ rfl _ _ 36 9 rfl w.heap.size 5 i0 Try.underlying36 Try.underlying9 hi hz0 hz1 hz2 _ _ _ rfl HO.out x rfl q3.out q4.out B1.out.size ?_; intro v3 w3 hown3 hgrow3 hnil3; refine Hid.out ?_)
          refine Lib.hid ?_
          obtain ⟨o3, c3, rfl⟩ := own_shape hown3
          have b3 := Lib.hid (own_bel HO.out B1.out hgrow3)
          rw [strCells_enc, ← hst.out] at hown3
          have h3 := Lib.hid hown3
          clear hnil3 hgrow3 hown3 q3 q4 hst HO b1 B1 G GS hb
          go_wp2
          go_round
          case rel => exact ⟨k + 1, m + 2 + x.size, c3, o3, by go_num, by go_num, by omega, by omega, h3, hsz', b3⟩
          case measure => simp [intOf]; omega
      · obtain rfl : k = n := by omega
        have hz := Lib.hid (pck_ok (fs := lists xs) ⟨by rw [lists_len]; omega, fun f hf => by
          obtain ⟨y, hy, rfl⟩ := List.mem_map.1 hf
          rw [toL_len]
          exact hsz.out y (by rw [List.take_of_length_le (by omega)]; exact hy)⟩)
        have hO := hown.out
        rw [pckAt_all hlen] at hO
        have cv := own_conv hO
        clear hown hsz hO
        go_wp2
        go_ret2
        exact ⟨by rw [hz.out.1, hz.out.2]; rfl, hb.out⟩
end Frm
end Go.Proofs.Ytkecellbbfhpoaa
