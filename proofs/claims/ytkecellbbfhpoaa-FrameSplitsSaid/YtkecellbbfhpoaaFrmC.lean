/-
  Layer 4's reference and its law's helpers: total, same, four, Open.
-/
import Derived.Test.YtkecellbbfhpoaaHshA
import Derived.Test.YtkecellbbfhpoaaHshK
import Derived.Test.YtkecellbbfhpoaaFrmB
import Derived.Lib.Strings
import Derived.SliceStrings
import Derived.Carry
import Derived.Deep.RegionWith
import Derived.Deep.DeepCutAuto
import Derived.Laws.DeepStrings4
namespace Go.Proofs.Ytkecellbbfhpoaa
open Go.RowKit Go.ChangeShapes Go.WideShapes
namespace Frm
open Hsh

/-- The cells of four bytes. -/
def c4 (n : Nat) : Array Value := #[.int .u8 ((UInt8.ofNat (n / 16777216)).toNat : Int), .int .u8 ((UInt8.ofNat (n / 65536)).toNat : Int), .int .u8 ((UInt8.ofNat (n / 256)).toNat : Int), .int .u8 ((UInt8.ofNat n).toNat : Int)]
theorem c4_eq (n : Nat) (hn : n < 4294967296) : (#[.int .u8 ((n : Int) / 16777216), .int .u8 ((n : Int) / 65536 % 256), .int .u8 ((n : Int) / 256 % 256), .int .u8 ((n : Int) % 256)] : Array Value) = c4 n := by
  unfold c4
  simp only [UInt8.toNat_ofNat']
  rw [show (n : Int) / 16777216 = ((n / 16777216 % 2 ^ 8 : Nat) : Int) by omega, show (n : Int) / 65536 % 256 = ((n / 65536 % 2 ^ 8 : Nat) : Int) by omega, show (n : Int) / 256 % 256 = ((n / 256 % 2 ^ 8 : Nat) : Int) by omega, show (n : Int) % 256 = ((n % 2 ^ 8 : Nat) : Int) by omega]
theorem c4_get (n j : Nat) (hj : j < (be4 n).length) : (c4 n)[j]? = some (.int .u8 ((be4 n)[j].toNat : Int)) := by
  have h4 : j < 4 := hj
  rcases (show j = 0 ∨ j = 1 ∨ j = 2 ∨ j = 3 by omega) with rfl | rfl | rfl | rfl <;> rfl
theorem four_any (n : Nat) (hn : n < 4294967296) (w : World) :
    Calls Try.prog 27 #[.int .u32 (n : Int)] w fun e w' => e = .returned (.slice (some ⟨w.heap.size, 0, none⟩) 4 4) ∧ w' = w.alloc (.cells (c4 n) 5) := by
  have h := Lib.hid (c4_eq n hn)
  go_enter Try.func27, Try.ntmps27
  go_wp2
  go_ret
  exact ⟨rfl, congrArg (fun c => w.alloc (.cells c 5)) h.out⟩
/-- The string of four bytes. -/
theorem conv4 (n g : Nat) (W : World) (h : ∀ j, j < 4 → W.cell? ⟨g, j, none⟩ = (c4 n)[j]?) : (convert 36 9 (.slice (some ⟨g, 0, none⟩) 4 4)).run Try.prog W = .ok (.string ⟨(be4 n).toArray⟩) W := by
  have := run_convert_bytes_back (P := Try.prog) W 36 9 5 ⟨g, 0, none⟩ 4 (be4 n) Try.underlying36 Try.underlying5 Try.underlying9 (fun j hj => by
    rw [Addr.add_lit, Nat.zero_add, h j hj]
    exact c4_get n j hj)
  exact this
theorem conv4_new (n : Nat) (W : World) : (convert 36 9 (.slice (some ⟨W.heap.size, 0, none⟩) 4 4)).run Try.prog (W.alloc (.cells (c4 n) 5)) = .ok (.string ⟨(be4 n).toArray⟩) (W.alloc (.cells (c4 n) 5)) :=
  conv4 n W.heap.size _ fun _ _ => World.cell?_alloc_new _ _ _ _
theorem tl' (l : List UInt8) : (⟨l.toArray⟩ : ByteArray).toList = l := Go.ByteArray.toList_mk _
/-- What Open answers. -/
def badE : Bad → Int
  | .trunc => 14
  | .corrupt => 13
def opB (l : List UInt8) : List UInt8 := match opn l with | .ok (b, _) => b | .error _ => []
def opN (l : List UInt8) : Nat := match opn l with | .ok (_, n) => n | .error _ => 0
def opE (l : List UInt8) : Int := match opn l with | .ok _ => 0 | .error b => badE b
theorem op_bad {l : List UInt8} {b : Bad} (h : opn l = .error b) : opB l = [] ∧ opN l = 0 ∧ opE l = badE b := by
  unfold opB opN opE
  rw [h]
  exact ⟨rfl, rfl, rfl⟩
theorem op_good {l b : List UInt8} {n : Nat} (h : opn l = .ok (b, n)) : opB l = b ∧ opN l = n ∧ opE l = 0 := by
  unfold opB opN opE
  rw [h]
  exact ⟨rfl, rfl, rfl⟩
/-- A piece of a string. -/
theorem cutS (s : ByteArray) (i j : Nat) (zi zj : Int) (hi : zi = (i : Int)) (hj : zj = (j : Int)) (h1 : i ≤ j) (h2 : j ≤ s.size) (w : World) :
    (Instr.slice 9 (.string s) (some (.int .i64 zi)) (some (.int .i64 zj)) none).run Try.prog w = .ok (.string ⟨((s.toList.drop i).take (j - i)).toArray⟩) w := by
  subst hi hj
  rw [run_slice_string_if w 9 s .i64 .i64 (i : Int) (j : Int) Try.underlying9, if_pos ⟨by omega, by omega⟩, if_pos ⟨by omega, by omega⟩, Lib.extract_eq, toL]
  simp only [Int.toNat_natCast]
theorem open_parts {s : ByteArray} (h : 8 ≤ s.size) : s.toList = s[0] :: s[1] :: s[2] :: s[3] :: s[4] :: s[5] :: s[6] :: s[7] :: s.toList.drop 8 := by
  have hl : 8 ≤ s.toList.length := by rw [toL_len]; exact h
  have e : s.toList = s.toList[0] :: s.toList[1] :: s.toList[2] :: s.toList[3] :: s.toList[4] :: s.toList[5] :: s.toList[6] :: s.toList[7] :: s.toList.drop 8 := by
    conv => lhs; rw [← List.drop_zero (l := s.toList)]
    rw [List.drop_eq_getElem_cons (i := 0) (by omega), List.drop_eq_getElem_cons (i := 1) (by omega), List.drop_eq_getElem_cons (i := 2) (by omega), List.drop_eq_getElem_cons (i := 3) (by omega), List.drop_eq_getElem_cons (i := 4) (by omega), List.drop_eq_getElem_cons (i := 5) (by omega), List.drop_eq_getElem_cons (i := 6) (by omega), List.drop_eq_getElem_cons (i := 7) (by omega)]
  conv => lhs; rw [e]
  rw [toL_get s 0 (by omega), toL_get s 1 (by omega), toL_get s 2 (by omega), toL_get s 3 (by omega), toL_get s 4 (by omega), toL_get s 5 (by omega), toL_get s 6 (by omega), toL_get s 7 (by omega)]
theorem open_big {s : ByteArray} {v : Nat} {h8 : 8 ≤ s.size} (hv : val4 s[0] s[1] s[2] s[3] = v) (h : 262136 < v) : opn s.toList = .error .corrupt := by
  rw [open_parts h8, opn_eq, hv, if_pos h]
theorem open_short {s : ByteArray} {v : Nat} (h8 : 8 ≤ s.size) (hv : val4 s[0] s[1] s[2] s[3] = v) (h : v ≤ 262136) (h2 : s.size - 8 < v) : opn s.toList = .error .trunc := by
  rw [open_parts h8, opn_eq, hv, if_neg (by omega), if_pos (by rw [List.length_drop, toL_len]; exact h2)]
theorem open_sum {s : ByteArray} (h8 : 8 ≤ s.size) : (s.toList.drop 4).take 4 = [s[4], s[5], s[6], s[7]] := by
  conv => lhs; rw [open_parts h8]
  rfl
theorem open_other {s : ByteArray} {v : Nat} (h8 : 8 ≤ s.size) (hv : val4 s[0] s[1] s[2] s[3] = v) (h : v ≤ 262136) (h2 : v + 8 ≤ s.size) (h3 : (be4 (crc ((s.toList.drop 8).take v)) == (s.toList.drop 4).take 4) = false) : opn s.toList = .error .corrupt := by
  rw [open_sum h8, beq_eq_false_iff_ne] at h3
  rw [open_parts h8, opn_eq, hv, if_neg (by omega), if_neg (by rw [List.length_drop, toL_len]; omega), if_neg (fun e => h3 e.symm)]
theorem open_same {s : ByteArray} {v : Nat} (h8 : 8 ≤ s.size) (hv : val4 s[0] s[1] s[2] s[3] = v) (h : v ≤ 262136) (h2 : v + 8 ≤ s.size) (h3 : (be4 (crc ((s.toList.drop 8).take v)) == (s.toList.drop 4).take 4) = true) : opn s.toList = .ok ((s.toList.drop 8).take v, 8 + v) := by
  rw [open_sum h8, beq_iff_eq] at h3
  rw [open_parts h8, opn_eq, hv, if_neg (by omega), if_neg (by rw [List.length_drop, toL_len]; omega)]
  exact if_pos h3.symm
/-- The byte at a place. -/
theorem idx_str (s : ByteArray) (k : IntKind) (z : Int) (i : Nat) (hz : z = (i : Int)) (h : i < s.size) (w : World) : (Instr.index 9 (.string s) (.int k z)).run Try.prog w = .ok (.int .u8 (s[i].toNat : Int)) w := by
  subst hz
  rw [run_index_string w 9 s k _ Try.underlying9, dif_pos ⟨by omega, by omega⟩]
  have e : ((i : Int)).toNat = i := by omega
  simp only [e]
set_option maxHeartbeats 4000000 in
theorem ropen_any (s : ByteArray) (hs : s.size ≤ 140737488355328) (w : World) :
    Calls Try.prog 19 #[.string s] w fun e w' => e = .returned (.tuple #[.string ⟨(opB s.toList).toArray⟩, .int .i64 (opN s.toList : Int), .int .i64 (opE s.toList)]) ∧ Bel w w' := by
  by_cases h8 : s.size < 8
  · have hz := Lib.hid (op_bad (opn_short (show s.toList.length < 8 by rw [toL_len]; exact h8)))
    go_enter Try.func19, Try.ntmps19
    go_wp2
    go_ret3
    exact ⟨by rw [hz.out.1, hz.out.2.1, hz.out.2.2]; rfl, Bel.refl _⟩
  · have h8' : 8 ≤ s.size := by omega
    clear h8
    have x0 := fun w => idx_str s .i64 0 0 rfl (by omega) w
    have x1 := fun w => idx_str s .i64 1 1 rfl (by omega) w
    have x2 := fun w => idx_str s .i64 2 2 rfl (by omega) w
    have x3 := fun w => idx_str s .i64 3 3 rfl (by omega) w
    obtain ⟨v, hv⟩ : ∃ v, val4 s[0] s[1] s[2] s[3] = v := ⟨_, rfl⟩
    have HV := Lib.hid hv
    unfold val4 at hv
    have q0 := s[0].toNat_lt
    have q1 := s[1].toNat_lt
    have q2 := s[2].toNat_lt
    have q3 := s[3].toNat_lt
    generalize s[0].toNat = b0 at *
    generalize s[1].toNat = b1 at *
    generalize s[2].toNat = b2 at *
    generalize s[3].toNat = b3 at *
    have hvi : (((b0 : Int) * 256 + (b1 : Int)) * 256 + (b2 : Int)) * 256 + (b3 : Int) = (v : Int) := by omega
    have m0 : IntKind.i64.wrap ((b0 : Int) * 256) = (b0 : Int) * 256 := by rw [IntKind.wrap_i64]; omega
    have a0 : IntKind.i64.wrap ((b0 : Int) * 256 + (b1 : Int)) = (b0 : Int) * 256 + (b1 : Int) := by rw [IntKind.wrap_i64]; omega
    have m1 : IntKind.i64.wrap (((b0 : Int) * 256 + (b1 : Int)) * 256) = ((b0 : Int) * 256 + (b1 : Int)) * 256 := by rw [IntKind.wrap_i64]; omega
    have a1 : IntKind.i64.wrap (((b0 : Int) * 256 + (b1 : Int)) * 256 + (b2 : Int)) = ((b0 : Int) * 256 + (b1 : Int)) * 256 + (b2 : Int) := by rw [IntKind.wrap_i64]; omega
    have m2 : IntKind.i64.wrap ((((b0 : Int) * 256 + (b1 : Int)) * 256 + (b2 : Int)) * 256) = (((b0 : Int) * 256 + (b1 : Int)) * 256 + (b2 : Int)) * 256 := by rw [IntKind.wrap_i64]; omega
    have a2 : IntKind.i64.wrap ((((b0 : Int) * 256 + (b1 : Int)) * 256 + (b2 : Int)) * 256 + (b3 : Int)) = (v : Int) := by rw [hvi, IntKind.wrap_i64]; omega
    have v0 : v < 4294967296 := by omega
    clear hvi hv
    go_enter Try.func19, Try.ntmps19
    go_upto_region 3 with (fail)
    go_quiet (fail)
    clear m0 a0 m1 a1 m2 a2 x0 x1 x2 x3 q0 q1 q2 q3
    by_cases hbig : 262136 < v
    · have hz := Lib.hid (op_bad (open_big (h8 := h8') HV.out hbig))
      clear HV
      go_wp2
      go_ret3
      exact ⟨by rw [hz.out.1, hz.out.2.1, hz.out.2.2]; rfl, (Bel.refl w).drewN _⟩
    · by_cases hsh : s.size - 8 < v
      · have hz := Lib.hid (op_bad (open_short h8' HV.out (by omega) hsh))
        clear HV
        go_wp2
        go_ret3
        exact ⟨by rw [hz.out.1, hz.out.2.1, hz.out.2.2]; rfl, (Bel.refl w).drewN _⟩
      · have hv2 : v + 8 ≤ s.size := by omega
        have sl1 := fun w => cutS s 8 (8 + v) 8 (8 + (v : Int)) rfl (by omega) (by omega) (by omega) w
        have sl2 := fun w => cutS s 4 8 4 8 rfl rfl (by omega) (by omega) w
        rw [show 8 + v - 8 = v by omega] at sl1
        obtain ⟨B, hB⟩ : ∃ B : ByteArray, ⟨((s.toList.drop 8).take v).toArray⟩ = B := ⟨_, rfl⟩
        obtain ⟨X, hX⟩ : ∃ X : ByteArray, ⟨((s.toList.drop 4).take (8 - 4)).toArray⟩ = X := ⟨_, rfl⟩
        have hBl : B.toList = (s.toList.drop 8).take v := by rw [← hB, tl']
        have hXl : X.toList = (s.toList.drop 4).take 4 := by rw [← hX, tl']
        have hBs : B.size = v := by rw [← toL_len, hBl, List.length_take, List.length_drop, toL_len]; omega
        rw [hB] at sl1
        rw [hX] at sl2
        have i1 : IntKind.i64.wrap (8 + (v : Int)) = 8 + (v : Int) := by rw [IntKind.wrap_i64]; omega
        have hcr := Lib.hid (rcrc_any B (by unfold maxLen; omega))
        have hkl := crc_lt B.toList
        obtain ⟨k, hk⟩ : ∃ k, crc B.toList = k := ⟨_, rfl⟩
        rw [hk] at hcr hkl
        have hfo := Lib.hid (four_any k hkl)
        obtain ⟨Y, hY⟩ : ∃ Y : ByteArray, ⟨(be4 k).toArray⟩ = Y := ⟨_, rfl⟩
        have hYl : Y.toList = be4 k := by rw [← hY, tl']
        have cv : (convert 36 9 (.slice (some ⟨w.heap.size, 0, none⟩) 4 4)).run Try.prog ((w.drewN (nq + 1)).alloc (.cells (c4 k) 5)) = .ok (.string Y) ((w.drewN (nq + 1)).alloc (.cells (c4 k) 5)) := hY ▸ conv4_new k (w.drewN (nq + 1))
        have G : Bel w (w.drewN nq) := (Bel.refl w).drewN nq
        clear hB hX hY
        cases hq : (be4 k == (s.toList.drop 4).take 4) with
        | false =>
          have hz := Lib.hid (op_bad (open_other h8' HV.out (by omega) (by omega) (by rw [← hBl, hk]; exact hq)))
          clear HV hk hBl
          go_upto_region 8 with (fail)
          go_region_with (first | (go_at_call 28; (with_reducible refine (hcr.out _).mono ?_); rintro e w' ⟨rfl, rfl⟩) | (go_at_call 27; (with_reducible refine (hfo.out _).mono ?_); rintro e w' ⟨rfl, rfl⟩))
          go_wp2
          go_ret3
          exact ⟨by rw [hz.out.1, hz.out.2.1, hz.out.2.2]; rfl, Bel.alloc (Below.drew G) _⟩
        | true =>
          have hz := Lib.hid (op_good (open_same h8' HV.out (by omega) (by omega) (by rw [← hBl, hk]; exact hq)))
          rw [← hBl] at hz
          have HB : Hid ((⟨B.toList.toArray⟩ : ByteArray) = B) := Lib.hid (by rw [toL])
          clear HV hk hBl
          go_upto_region 8 with (fail)
          go_region_with (first | (go_at_call 28; (with_reducible refine (hcr.out _).mono ?_); rintro e w' ⟨rfl, rfl⟩) | (go_at_call 27; (with_reducible refine (hfo.out _).mono ?_); rintro e w' ⟨rfl, rfl⟩))
          go_wp2
          go_ret3
          exact ⟨by rw [hz.out.1, hz.out.2.1, hz.out.2.2, HB.out]; rfl, Bel.alloc (Below.drew G) _⟩
end Frm
end Go.Proofs.Ytkecellbbfhpoaa
