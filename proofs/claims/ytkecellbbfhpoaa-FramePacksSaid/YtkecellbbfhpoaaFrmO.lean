/-
  Layer 4, the code: Seal, Open.
-/
import Derived.Test.YtkecellbbfhpoaaFrmN
namespace Go.Proofs.Ytkecellbbfhpoaa
open Go.RowKit Go.ChangeShapes Go.WideShapes
namespace Frm
open Hsh

set_option maxHeartbeats 4000000 in
theorem seal_ok (s : ByteArray) (hs : s.size ≤ 262136) (w : World) :
    Calls Try.prog 16 #[.string s] w fun e w' => e = .returned (.tuple #[.string ⟨(frm s.toList).toArray⟩, .int .i64 0]) ∧ Bel w w' := by
  have hkl := crc_lt s.toList
  have hcr := Lib.hid (crc_any s (by unfold maxLen; omega))
  obtain ⟨k, hk⟩ : ∃ k, crc s.toList = k := ⟨_, rfl⟩
  obtain ⟨A, hA⟩ : ∃ A : ByteArray, ⟨(be4 s.size).toArray⟩ = A := ⟨_, rfl⟩
  obtain ⟨B, hB⟩ : ∃ B : ByteArray, ⟨(be4 (crc s.toList)).toArray⟩ = B := ⟨_, rfl⟩
  have hT := Lib.hid (frm_text s A B hA hB)
  rw [hk] at hcr hkl hB
  have f1 := Lib.hid (wordBytes_any s.size (by omega) A hA)
  have f2 := Lib.hid (wordBytes_any k hkl B hB)
  have hAs : A.size = 4 := by rw [← hA]; rfl
  have hBs : B.size = 4 := by rw [← hB]; rfl
  have c1 : (9223372036854775807 < A.size + B.size) = False := eq_false (by omega)
  have c2 : (9223372036854775807 < A.size + B.size + s.size) = False := eq_false (by omega)
  have z0 : IntKind.u32.wrap (s.size : Int) = (s.size : Int) := by simp [IntKind.wrap, IntKind.signed, IntKind.bits]; omega
  clear hk hA hB hAs hBs hkl
  go_enter Try.func16, Try.ntmps16
  go_wp2_with fail
  refine (f1.out w).mono ?_
  rintro e w1 ⟨rfl, g1⟩
  have G1 := Lib.hid g1
  clear g1
  go_wp2_with fail
  refine (hcr.out w1).mono ?_
  rintro e w2 ⟨rfl, rfl⟩
  go_wp2_with fail
  refine (f2.out w1).mono ?_
  rintro e w3 ⟨rfl, g3⟩
  have G3 := Lib.hid (Bel.trans G1.out g3)
  clear g3
  go_wp2
  go_ret2
  exact ⟨by rw [← hT.out]; rfl, G3.out⟩
theorem seal_long (s : ByteArray) (hs : 262136 < s.size) (hm : s.size ≤ 140737488355328) (w : World) :
    Calls Try.prog 16 #[.string s] w fun e w' => e = .returned (.tuple #[.string ⟨#[]⟩, .int .i64 3]) ∧ w' = w := by
  go_enter Try.func16, Try.ntmps16
  go_wp2
  go_ret2
  exact ⟨rfl, rfl⟩
/-- Four bytes are those of a number if they are the number. -/
theorem be4_is {k : Nat} (hk : k < 4294967296) (a b c d : UInt8) : (be4 k == [a, b, c, d]) = decide (k = val4 a b c d) := by
  by_cases h : k = val4 a b c d
  · rw [decide_eq_true h, beq_iff_eq]
    obtain ⟨e1, e2, e3, e4⟩ := val4_inj ((be4_val k hk).trans h)
    unfold be4
    rw [e1, e2, e3, e4]
  · rw [decide_eq_false h, beq_eq_false_iff_ne]
    intro e
    apply h
    unfold be4 at e
    simp only [List.cons.injEq, and_true] at e
    obtain ⟨e1, e2, e3, e4⟩ := e
    rw [← e1, ← e2, ← e3, ← e4, be4_val k hk]
theorem open_sum_is {s : ByteArray} (h8 : 8 ≤ s.size) {k u : Nat} (hk : k < 4294967296) (hu : val4 s[4] s[4 + 1] s[4 + 2] s[4 + 3] = u) : (be4 k == (s.toList.drop 4).take 4) = decide (k = u) := by
  rw [open_sum h8, be4_is hk]
  subst hu
  rfl
set_option maxHeartbeats 4000000 in
theorem open_any (s : ByteArray) (hs : s.size ≤ 140737488355328) (w : World) :
    Calls Try.prog 18 #[.string s] w fun e w' => e = .returned (.tuple #[.string ⟨(opB s.toList).toArray⟩, .int .i64 (opN s.toList : Int), .int .i64 (opE s.toList)]) ∧ Bel w w' := by
  by_cases h8 : s.size < 8
  · have hz := Lib.hid (op_bad (opn_short (show s.toList.length < 8 by rw [toL_len]; exact h8)))
    go_enter Try.func18, Try.ntmps18
    go_wp2
    go_ret3
    exact ⟨by rw [hz.out.1, hz.out.2.1, hz.out.2.2]; rfl, Bel.refl _⟩
  · have h8' : 8 ≤ s.size := by omega
    clear h8
    obtain ⟨v, hv⟩ : ∃ v, val4 s[0] s[0 + 1] s[0 + 2] s[0 + 3] = v := ⟨_, rfl⟩
    obtain ⟨u, hu⟩ : ∃ u, val4 s[4] s[4 + 1] s[4 + 2] s[4 + 3] = u := ⟨_, rfl⟩
    have HV : Hid (val4 s[0] s[1] s[2] s[3] = v) := Lib.hid hv
    have HU := Lib.hid (fun k hk => open_sum_is (s := s) h8' (k := k) hk hu)
    have W0 := Lib.hid (wordAt_any s 0 v (by omega) hs hv)
    have W4 := Lib.hid (wordAt_any s 4 u (by omega) hs hu)
    have v0 : v < 4294967296 := by
      rw [← hv]
      unfold val4
      have := s[0].toNat_lt; have := s[0 + 1].toNat_lt; have := s[0 + 2].toNat_lt; have := s[0 + 3].toNat_lt
      omega
    clear hv hu
    go_enter Try.func18, Try.ntmps18
    go_wp2_with fail
    refine (W0.out w).mono ?_
    rintro e w1 ⟨rfl, g1⟩
    have G1 := Lib.hid g1
    clear g1 W0
    by_cases hbig : 262136 < v
    · have hz := Lib.hid (op_bad (open_big (h8 := h8') HV.out hbig))
      clear HV HU
      go_wp2
      go_ret3
      exact ⟨by rw [hz.out.1, hz.out.2.1, hz.out.2.2]; rfl, G1.out⟩
    · by_cases hsh : s.size - 8 < v
      · have hz := Lib.hid (op_bad (open_short h8' HV.out (by omega) hsh))
        clear HV HU
        go_wp2
        go_ret3
        exact ⟨by rw [hz.out.1, hz.out.2.1, hz.out.2.2]; rfl, G1.out⟩
      · have hv2 : v + 8 ≤ s.size := by omega
        have sl1 := fun w => cutS s 8 (8 + v) 8 (8 + (v : Int)) rfl (by omega) (by omega) (by omega) w
        rw [show 8 + v - 8 = v by omega] at sl1
        obtain ⟨B, hB⟩ : ∃ B : ByteArray, ⟨((s.toList.drop 8).take v).toArray⟩ = B := ⟨_, rfl⟩
        have hBl : B.toList = (s.toList.drop 8).take v := by rw [← hB, tl']
        have hBs : B.size = v := by rw [← toL_len, hBl, List.length_take, List.length_drop, toL_len]; omega
        rw [hB] at sl1
        have i1 : IntKind.i64.wrap (8 + (v : Int)) = 8 + (v : Int) := by rw [IntKind.wrap_i64]; omega
        have hcr := Lib.hid (crc_any B (by unfold maxLen; omega))
        have hkl := crc_lt B.toList
        obtain ⟨k, hk⟩ : ∃ k, crc B.toList = k := ⟨_, rfl⟩
        rw [hk] at hcr hkl
        have hq := HU.out k hkl
        clear HU hB
        by_cases he : k = u
        · subst he
          rw [decide_eq_true rfl] at hq
          have hz := Lib.hid (op_good (open_same h8' HV.out (by omega) (by omega) (by rw [← hBl, hk]; exact hq)))
          rw [← hBl] at hz
          have HB : Hid ((⟨B.toList.toArray⟩ : ByteArray) = B) := Lib.hid (by rw [toL])
          clear HV hk hBl hq
          go_wp2_with fail
          refine (hcr.out w1).mono ?_
          rintro e w2 ⟨rfl, rfl⟩
          go_wp2_with fail
          refine (W4.out w1).mono ?_
          rintro e w3 ⟨rfl, g3⟩
          have G3 := Lib.hid (Bel.trans G1.out g3)
          clear g3
          go_wp2
          go_ret3
          exact ⟨by rw [hz.out.1, hz.out.2.1, hz.out.2.2, HB.out]; rfl, G3.out⟩
        · rw [decide_eq_false he] at hq
          have hz := Lib.hid (op_bad (open_other h8' HV.out (by omega) (by omega) (by rw [← hBl, hk]; exact hq)))
          have hne : ((k : Int) = (u : Int)) = False := eq_false (by omega)
          clear HV hk hBl hq
          go_wp2_with fail
          refine (hcr.out w1).mono ?_
          rintro e w2 ⟨rfl, rfl⟩
          go_wp2_with fail
          refine (W4.out w1).mono ?_
          rintro e w3 ⟨rfl, g3⟩
          have G3 := Lib.hid (Bel.trans G1.out g3)
          clear g3
          go_wp2
          go_ret3
          exact ⟨by rw [hz.out.1, hz.out.2.1, hz.out.2.2]; rfl, G3.out⟩
end Frm
end Go.Proofs.Ytkecellbbfhpoaa
