/-
  The law IdentCovers.
-/
import Derived.Test.YtgchjfdldbadlaaIdnP
namespace Go.Proofs.Ytgchjfdldbadlaa
open Go.RowKit
namespace Idn

theorem cov_pats {p q : List UInt8} (h : covB p q = true) : patB p = true ∧ patB q = true := by
  unfold covB at h
  rw [Bool.and_eq_true] at h
  refine ⟨h.1, ?_⟩
  have h2 := h.2
  rw [Bool.and_eq_true] at h2
  exact h2.1
set_option maxRecDepth 100000 in
set_option maxHeartbeats 4000000 in
theorem law_covers (p q r s : ByteArray) (hp0 : p.size ≤ 140737488355328) (hq0 : q.size ≤ 140737488355328) (hr0 : r.size ≤ 140737488355328) (w : World) :
    Calls Try.prog 8 #[.string p, .string q, .string r, .string s] w fun e w' => e = .returned (.bool true) ∧ Bel w w' := by
  have hp : p.size ≤ maxLen := by unfold maxLen; omega
  have hq : q.size ≤ maxLen := by unfold maxLen; omega
  have hr : r.size ≤ maxLen := by unfold maxLen; omega
  have PP := Lib.hid (pattern_any p hp)
  have PQ := Lib.hid (pattern_any q hq)
  have Cpp := Lib.hid (covers_any p p hp hp)
  have Cpq := Lib.hid (covers_any p q hp hq)
  have Cqr := Lib.hid (covers_any q r hq hr)
  have Cpr := Lib.hid (covers_any p r hp hr)
  have Mqs := Lib.hid (matches_any q s hq)
  have Mps := Lib.hid (matches_any p s hp)
  have AW := Lib.hid awake_any
  have G := Bel.refl w
  rw [cov_refl] at Cpp
  have tr := fun h1 h2 => cov_trans (p := p.toList) (q := q.toList) (r := r.toList) h1 h2
  have mt := fun h1 h2 => cov_mat (p := p.toList) (q := q.toList) (s := s.toList) h1 h2
  cases hc : covB p.toList q.toList with
  | true =>
    obtain ⟨h1, h2⟩ := cov_pats hc
    rw [h1] at PP Cpp
    rw [h2] at PQ
    rw [hc] at Cpq
    have tr2 := tr hc
    have mt2 := mt hc
    clear tr mt hc h1 h2
    generalize covB q.toList r.toList = d at *
    generalize covB p.toList r.toList = e2 at *
    generalize matB q.toList s.toList = m at *
    generalize matB p.toList s.toList = n at *
    cases d <;> cases m
    all_goals
      first
        | (obtain rfl := tr2 rfl)
        | skip
      first
        | (obtain rfl := mt2 rfl)
        | skip
      clear tr2 mt2
      go_enter Try.func8, Try.ntmps8
      go_wp2_with (first | (go_at_call 14; first | ((with_reducible refine (PP.out _).mono ?_); rintro e w' ⟨rfl, g⟩; replace G := Bel.trans G g; clear g) | ((with_reducible refine (PQ.out _).mono ?_); rintro e w' ⟨rfl, g⟩; replace G := Bel.trans G g; clear g)) | (go_at_call 27; first | ((with_reducible refine (Cpp.out _).mono ?_); rintro e w' ⟨rfl, g⟩; replace G := Bel.trans G g; clear g) | ((with_reducible refine (Cpq.out _).mono ?_); rintro e w' ⟨rfl, g⟩; replace G := Bel.trans G g; clear g) | ((with_reducible refine (Cqr.out _).mono ?_); rintro e w' ⟨rfl, g⟩; replace G := Bel.trans G g; clear g) | ((with_reducible refine (Cpr.out _).mono ?_); rintro e w' ⟨rfl, g⟩; replace G := Bel.trans G g; clear g)) | (go_at_call 25; first | ((with_reducible refine (Mqs.out _).mono ?_); rintro e w' ⟨rfl, g⟩; replace G := Bel.trans G g; clear g) | ((with_reducible refine (Mps.out _).mono ?_); rintro e w' ⟨rfl, g⟩; replace G := Bel.trans G g; clear g)) | (go_at_call 16; first | ((with_reducible refine (AW.out _).mono ?_); rintro e w' ⟨rfl, g⟩; replace G := Bel.trans G g; clear g)))
      go_ret
      exact ⟨rfl, G⟩
  | false =>
    rw [hc] at Cpq
    clear tr mt
    cases hP : patB p.toList with
    | false =>
      rw [hP] at PP Cpp
      clear hP hc
      go_enter Try.func8, Try.ntmps8
      go_wp2_with (first | (go_at_call 14; first | ((with_reducible refine (PP.out _).mono ?_); rintro e w' ⟨rfl, g⟩; replace G := Bel.trans G g; clear g) | ((with_reducible refine (PQ.out _).mono ?_); rintro e w' ⟨rfl, g⟩; replace G := Bel.trans G g; clear g)) | (go_at_call 27; first | ((with_reducible refine (Cpp.out _).mono ?_); rintro e w' ⟨rfl, g⟩; replace G := Bel.trans G g; clear g) | ((with_reducible refine (Cpq.out _).mono ?_); rintro e w' ⟨rfl, g⟩; replace G := Bel.trans G g; clear g)) | (go_at_call 16; first | ((with_reducible refine (AW.out _).mono ?_); rintro e w' ⟨rfl, g⟩; replace G := Bel.trans G g; clear g)))
      go_ret
      exact ⟨rfl, G⟩
    | true =>
      rw [hP] at PP Cpp
      cases hQ : patB q.toList with
      | false =>
        rw [hQ] at PQ
        clear hP hc hQ
        go_enter Try.func8, Try.ntmps8
        go_wp2_with (first | (go_at_call 14; first | ((with_reducible refine (PP.out _).mono ?_); rintro e w' ⟨rfl, g⟩; replace G := Bel.trans G g; clear g) | ((with_reducible refine (PQ.out _).mono ?_); rintro e w' ⟨rfl, g⟩; replace G := Bel.trans G g; clear g)) | (go_at_call 27; first | ((with_reducible refine (Cpp.out _).mono ?_); rintro e w' ⟨rfl, g⟩; replace G := Bel.trans G g; clear g) | ((with_reducible refine (Cpq.out _).mono ?_); rintro e w' ⟨rfl, g⟩; replace G := Bel.trans G g; clear g)) | (go_at_call 16; first | ((with_reducible refine (AW.out _).mono ?_); rintro e w' ⟨rfl, g⟩; replace G := Bel.trans G g; clear g)))
        go_ret
        exact ⟨rfl, G⟩
      | true =>
        rw [hQ] at PQ
        obtain ⟨z1, z2⟩ := pat_size hQ
        obtain ⟨k, hk⟩ : ∃ k, q.size = k + 1 := ⟨q.size - 1, by omega⟩
        have hk1 : k < q.size := by omega
        have hk2 : (q.size : Int) - 1 = (k : Int) := by omega
        have x0 := fun w => idx_str q .i64 ((q.size : Int) - 1) k hk2 hk1 w
        have hb : openB q.toList = (((q[k]'hk1).toNat : Int) == 42) := open_last q k hk
        have m1 := mat_one hQ
        have nc := not_cov hP hQ hc
        clear hk hk2 hP hQ hc
        unfold one two at m1 nc
        cases hO : openB q.toList with
        | false =>
          rw [hO] at hb
          rw [hO, if_neg (by decide), if_neg (by decide)] at m1 nc
          have Mqq := Lib.hid (matches_any q q hq)
          rw [m1.1] at Mqq
          have Mpq := Lib.hid (matches_any p q hp)
          have e1 : matB p.toList q.toList = false := by
            cases h : matB p.toList q.toList with
            | false => rfl
            | true => exact absurd ⟨h, h⟩ nc
          rw [e1] at Mpq
          have hb2 := hb.symm
          clear hb m1 nc e1 hO
          go_enter Try.func8, Try.ntmps8
          go_wp2_with (first | (go_at_call 14; first | ((with_reducible refine (PP.out _).mono ?_); rintro e w' ⟨rfl, g⟩; replace G := Bel.trans G g; clear g) | ((with_reducible refine (PQ.out _).mono ?_); rintro e w' ⟨rfl, g⟩; replace G := Bel.trans G g; clear g)) | (go_at_call 27; first | ((with_reducible refine (Cpp.out _).mono ?_); rintro e w' ⟨rfl, g⟩; replace G := Bel.trans G g; clear g) | ((with_reducible refine (Cpq.out _).mono ?_); rintro e w' ⟨rfl, g⟩; replace G := Bel.trans G g; clear g)) | (go_at_call 25; first | ((with_reducible refine (Mqq.out _).mono ?_); rintro e w' ⟨rfl, g⟩; replace G := Bel.trans G g; clear g) | ((with_reducible refine (Mpq.out _).mono ?_); rintro e w' ⟨rfl, g⟩; replace G := Bel.trans G g; clear g)) | (go_at_call 16; first | ((with_reducible refine (AW.out _).mono ?_); rintro e w' ⟨rfl, g⟩; replace G := Bel.trans G g; clear g)))
          go_ret
          exact ⟨rfl, G⟩
        | true =>
          rw [hO] at hb
          rw [hO, if_pos rfl, if_pos rfl] at m1 nc
          obtain ⟨T, hT⟩ : ∃ T : ByteArray, T.toList = q.toList.dropLast := ⟨⟨q.toList.dropLast.toArray⟩, tl _⟩
          have sl := fun w => cutLastB q T hT z1 w
          have zT : T.size ≤ 64 := by rw [← toL_len, hT, List.length_dropLast, toL_len]; omega
          have hU : (T ++ (⟨#[126]⟩ : ByteArray)).toList = q.toList.dropLast ++ [126] := by
            rw [← hT, toL, toL]
            simp [ByteArray.data_append]
          rw [← hU, ← hT] at m1 nc
          have MqT := Lib.hid (matches_any q T hq)
          have MqU := Lib.hid (matches_any q (T ++ (⟨#[126]⟩ : ByteArray)) hq)
          have MpT := Lib.hid (matches_any p T hp)
          have MpU := Lib.hid (matches_any p (T ++ (⟨#[126]⟩ : ByteArray)) hp)
          rw [m1.1] at MqT
          rw [m1.2] at MqU
          have hb2 := hb.symm
          clear hb m1 hU hO hT
          generalize matB p.toList T.toList = y1 at *
          generalize matB p.toList (T ++ (⟨#[126]⟩ : ByteArray)).toList = y2 at *
          cases y1 <;> cases y2
          all_goals
            first
              | (exfalso; exact nc ⟨rfl, rfl⟩)
              | (clear nc
                 go_enter Try.func8, Try.ntmps8
                 go_wp2_with (first | (go_at_call 14; first | ((with_reducible refine (PP.out _).mono ?_); rintro e w' ⟨rfl, g⟩; replace G := Bel.trans G g; clear g) | ((with_reducible refine (PQ.out _).mono ?_); rintro e w' ⟨rfl, g⟩; replace G := Bel.trans G g; clear g)) | (go_at_call 27; first | ((with_reducible refine (Cpp.out _).mono ?_); rintro e w' ⟨rfl, g⟩; replace G := Bel.trans G g; clear g) | ((with_reducible refine (Cpq.out _).mono ?_); rintro e w' ⟨rfl, g⟩; replace G := Bel.trans G g; clear g)) | (go_at_call 25; first | ((with_reducible refine (MqT.out _).mono ?_); rintro e w' ⟨rfl, g⟩; replace G := Bel.trans G g; clear g) | ((with_reducible refine (MqU.out _).mono ?_); rintro e w' ⟨rfl, g⟩; replace G := Bel.trans G g; clear g) | ((with_reducible refine (MpT.out _).mono ?_); rintro e w' ⟨rfl, g⟩; replace G := Bel.trans G g; clear g) | ((with_reducible refine (MpU.out _).mono ?_); rintro e w' ⟨rfl, g⟩; replace G := Bel.trans G g; clear g)) | (go_at_call 16; first | ((with_reducible refine (AW.out _).mono ?_); rintro e w' ⟨rfl, g⟩; replace G := Bel.trans G g; clear g)))
                 go_ret
                 exact ⟨rfl, G⟩)
end Idn
end Go.Proofs.Ytgchjfdldbadlaa
