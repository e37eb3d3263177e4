/-
  Layer 4: the laws Splits and Seals, out of what the functions of the layer say.
-/
import Derived.Test.YtkecellbbfhpoaaFrmJ
namespace Go.Proofs.Ytkecellbbfhpoaa
open Go.RowKit Go.ChangeShapes Go.WideShapes
namespace Frm
open Hsh

set_option maxHeartbeats 8000000 in
theorem law_splits (hF : Says) (o : Option Addr) (n c : Nat) (xs : List ByteArray) (s : ByteArray) (hn : n ≤ 4611686018427387904) (hx : ∀ x ∈ xs, x.size ≤ 140737488355328) (hs : s.size ≤ 140737488355328) (w : World) (hL : Lad w) (hA : SlArg w o n xs) :
    Calls Try.prog 6 #[.slice o n c, .string s] w fun e w' => e = .returned (.bool true) ∧ Bel w w' := by
  have ht := Lib.hid (total_any o n c xs hn hx w hA)
  have HA := Lib.hid hA
  have HX := Lib.hid hx
  have HL := Lib.hid hL
  have HF := Lib.hid hF
  generalize tot n xs = T at *
  clear hA hx hL hF
  go_enter Try.func6, Try.ntmps6
  go_wp2_with fail
  refine ht.out.mono ?_
  rintro e w1 ⟨rfl, g1⟩
  have G1 := Lib.hid g1
  clear g1 ht
  by_cases hT : 20000 < T
  · go_wp2_with fail
    refine (HF.out.awake w1 (HL.out.on G1.out)).mono ?_
    rintro e w2 ⟨rfl, g2⟩
    have G2 := Bel.trans G1.out g2
    go_wp2_with fail
    go_ret
    exact ⟨rfl, G2⟩
  · by_cases hS : 20000 < s.size
    · go_wp2_with fail
      refine (HF.out.awake w1 (HL.out.on G1.out)).mono ?_
      rintro e w2 ⟨rfl, g2⟩
      have G2 := Bel.trans G1.out g2
      go_wp2_with fail
      go_ret
      exact ⟨rfl, G2⟩
    · have hs3 : s.size ≤ 300000 := by omega
      have hul := split_len s.toList.length s.toList (Nat.le_refl _)
      rw [toL_len] at hul
      obtain ⟨P, hP⟩ : ∃ P : ByteArray, ⟨(joiB (lists xs)).toArray⟩ = P := ⟨_, rfl⟩
      obtain ⟨E, hE⟩ : ∃ E : Int, joiE (lists xs) = E := ⟨_, rfl⟩
      have q1 := Lib.hid (fun W (h : Bel w W) => HF.out.join o n c xs W hn HX.out (HL.out.on h) (HA.out.on h))
      have q2 := Lib.hid (fun W (h : Bel w W) => rjoin_I o n c xs W hn HX.out (HL.out.on h) (HA.out.on h))
      have q3 := Lib.hid (fun W (h : Bel w W) => HF.out.split s W hs3 (HL.out.on h))
      have q4 := Lib.hid (fun W (h : Bel w W) => rsplit_I s W hs3 (HL.out.on h))
      rw [hP, hE] at q1 q2
      clear hP hE
      go_wp2_with fail
      refine (q1.out w1 G1.out).mono ?_
      rintro e w2 ⟨rfl, g2⟩
      have G2 := Lib.hid (Bel.trans G1.out g2)
      clear g2 q1
      go_wp2_with fail
      refine (q2.out w2 G2.out).mono ?_
      rintro e w3 ⟨rfl, g3⟩
      have G3 := Lib.hid (Bel.trans G2.out g3)
      clear g3 q2
      go_wp2_with fail
      refine (q3.out w3 G3.out).mono ?_
      rintro e w4 ⟨⟨o4, k4, c4, D, h4, e4, rfl⟩, g4⟩
      have G4 := Lib.hid (Bel.trans G3.out g4)
      clear g4 q3
      go_wp2_with fail
      refine (q4.out w4 G4.out).mono ?_
      rintro e w5 ⟨⟨o5, k5, c5, D', h5, e5, rfl⟩, g5⟩
      have G5 := Lib.hid (Bel.trans G4.out g5)
      have l4 := sarg_len h4 e4
      have l5 := sarg_len h5 e5
      have H4 := Lib.hid (h4.on g5)
      have H5 := Lib.hid h5
      have hDD : D = D' := lists_inj (e4.trans e5.symm)
      subst hDD
      have hsm := Lib.hid (same_any o4 o5 k4 k5 c4 c5 D D w5 H4.out H5.out (by unfold maxLen; omega) (by unfold maxLen; omega))
      clear g5 q4 h4 h5 e4 e5 l4 l5 H4 H5
      go_wp2_with fail
      refine hsm.out.mono ?_
      rintro e w6 ⟨⟨b, hb, rfl⟩, g6⟩
      obtain rfl : b = true := hb.2 (by trivial)
      have G6 := Lib.hid (Bel.trans G5.out g6)
      clear hb hsm g6
      go_wp2_with fail
      refine (HF.out.awake w6 (HL.out.on G6.out)).mono ?_
      rintro e w7 ⟨rfl, g7⟩
      have G7 := Bel.trans G6.out g7
      go_wp2_with fail
      go_ret
      exact ⟨rfl, G7⟩
/-- A string of zeros. -/
theorem make_zeros (n : Nat) (hn : n ≤ 140737488355328) (W : World) : (Instr.makeSlice 36 (.int .i64 (n : Int)) (.int .i64 (n : Int))).run Try.prog W = .ok (.slice (some ⟨W.heap.size, 0, none⟩) n n) (W.alloc (.cells (madeCells #[.int .u8 0] n) 5)) := by
  obtain ⟨i0, hi, hz0, hz1, hz2⟩ := info_parts info_u8
  have h := run_make (P := Try.prog) (w := W) 36 5 i0 _ Try.underlying36 hi hz0 .i64 .i64 (n : Int) (n : Int) (by omega) (by omega) (by rw [hz2]; omega) (by omega)
  rw [h, hz1]
  simp only [Int.toNat_natCast, Nat.mul_one]
  rfl
theorem conv_zeros (n : Nat) (W : World) : (convert 36 9 (.slice (some ⟨W.heap.size, 0, none⟩) n n)).run Try.prog (W.alloc (.cells (madeCells #[.int .u8 0] n) 5)) = .ok (.string ⟨(List.replicate n (0 : UInt8)).toArray⟩) (W.alloc (.cells (madeCells #[.int .u8 0] n) 5)) := by
  have h := run_convert_bytes_back (P := Try.prog) (W.alloc (.cells (madeCells #[.int .u8 0] n) 5)) 36 9 5 ⟨W.heap.size, 0, none⟩ n (List.replicate n (0 : UInt8)) Try.underlying36 Try.underlying5 Try.underlying9 (fun j hj => by
    have hj' : j < n := by simpa using hj
    rw [Lib.add_plain, World.cell?_alloc_new]
    have e : (madeCells #[Value.int .u8 0] n).toList[j]? = some (.int .u8 0) := by rw [toList_madeCells_one, List.getElem?_replicate, if_pos hj']
    rw [← Array.getElem?_toList, Nat.zero_add, e]
    simp)
  rw [List.length_replicate] at h
  exact h
set_option maxHeartbeats 8000000 in
set_option maxRecDepth 100000 in
theorem law_seals (hF : Says) (b s : ByteArray) (L : Int) (hb : b.size ≤ 140737488355328) (hs : s.size ≤ 140737488355328) (w : World) (hL : Lad w) :
    Calls Try.prog 5 #[.string b, .string s, .int .i64 L] w fun e w' => e = .returned (.bool true) ∧ Bel w w' := by
  have HL := Lib.hid hL
  have HF := Lib.hid hF
  clear hL hF
  by_cases hB : 20000 < b.size
  · go_enter Try.func5, Try.ntmps5
    go_wp2_with fail
    refine (HF.out.awake w HL.out).mono ?_
    rintro e w2 ⟨rfl, g2⟩
    go_wp2_with fail
    go_ret
    exact ⟨rfl, g2⟩
  · by_cases hS : 20000 < s.size
    · go_enter Try.func5, Try.ntmps5
      go_wp2_with fail
      refine (HF.out.awake w HL.out).mono ?_
      rintro e w2 ⟨rfl, g2⟩
      go_wp2_with fail
      go_ret
      exact ⟨rfl, g2⟩
    · obtain ⟨P, hP⟩ : ∃ P : ByteArray, ⟨(seaB b.toList).toArray⟩ = P := ⟨_, rfl⟩
      obtain ⟨E, hE⟩ : ∃ E : Int, seaE b.toList = E := ⟨_, rfl⟩
      obtain ⟨O, hO⟩ : ∃ O : ByteArray, ⟨(opB s.toList).toArray⟩ = O := ⟨_, rfl⟩
      obtain ⟨N, hN⟩ : ∃ N : Nat, opN s.toList = N := ⟨_, rfl⟩
      obtain ⟨U, hU⟩ : ∃ U : Int, opE s.toList = U := ⟨_, rfl⟩
      have q1 := Lib.hid (fun W (h : Bel w W) => HF.out.seals b W hb (HL.out.on h))
      have q2 := Lib.hid (fun W (h : Bel w W) => rseal_I b W hb (HL.out.on h))
      have q3 := Lib.hid (fun W (h : Bel w W) => HF.out.opens s W hs (HL.out.on h))
      have q4 := Lib.hid (fun W (h : Bel w W) => ropen_I s W hs (HL.out.on h))
      rw [hP, hE] at q1 q2
      rw [hO, hN, hU] at q3 q4
      clear hP hE hO hN hU
      go_enter Try.func5, Try.ntmps5
      go_wp2_with fail
      refine (q1.out w (Bel.refl w)).mono ?_
      rintro e w2 ⟨rfl, g2⟩
      have G2 := Lib.hid g2
      clear g2 q1
      go_wp2_with fail
      refine (q2.out w2 G2.out).mono ?_
      rintro e w3 ⟨rfl, g3⟩
      have G3 := Lib.hid (Bel.trans G2.out g3)
      clear g3 q2
      go_wp2_with fail
      refine (q3.out w3 G3.out).mono ?_
      rintro e w4 ⟨rfl, g4⟩
      have G4 := Lib.hid (Bel.trans G3.out g4)
      clear g4 q3
      go_wp2_with fail
      refine (q4.out w4 G4.out).mono ?_
      rintro e w5 ⟨rfl, g5⟩
      have G5 := Lib.hid (Bel.trans G4.out g5)
      clear g5 q4 G2 G3 G4
      by_cases h1 : L < 262135
      · go_wp2_with fail
        refine (HF.out.awake w5 (HL.out.on G5.out)).mono ?_
        rintro e w6 ⟨rfl, g6⟩
        have G6 := Bel.trans G5.out g6
        go_wp2_with fail
        go_ret
        exact ⟨rfl, G6⟩
      · by_cases h2 : 262144 < L
        · go_wp2_with fail
          refine (HF.out.awake w5 (HL.out.on G5.out)).mono ?_
          rintro e w6 ⟨rfl, g6⟩
          have G6 := Bel.trans G5.out g6
          go_wp2_with fail
          go_ret
          exact ⟨rfl, G6⟩
        · obtain ⟨l, rfl⟩ : ∃ l : Nat, L = (l : Int) := ⟨L.toNat, by omega⟩
          have mk := make_zeros l (by omega) w5
          have cv := conv_zeros l w5
          obtain ⟨X, hX⟩ : ∃ X : ByteArray, ⟨(List.replicate l (0 : UInt8)).toArray⟩ = X := ⟨_, rfl⟩
          have hXl : X.toList.length = l := by rw [← hX, tl', List.length_replicate]
          have hXs : X.size = l := by rw [← toL_len, hXl]
          rw [hX] at cv
          have G6 : Hid (Bel w (w5.alloc (.cells (madeCells #[.int .u8 0] l) 5))) := Lib.hid (G5.out.alloc _)
          have q5 := Lib.hid (HF.out.seals X _ (by omega) (HL.out.on G6.out))
          clear hX
          by_cases h3 : l ≤ 262136
          · have z := sea_ok (l := X.toList) (by omega)
            rw [z.2] at q5
            generalize (⟨(seaB X.toList).toArray⟩ : ByteArray) = V at q5
            clear z hXl hXs
            go_wp2_with fail
            refine q5.out.mono ?_
            rintro e w7 ⟨rfl, g7⟩
            have G7 := Lib.hid (Bel.trans G6.out g7)
            clear mk cv q5 g7
            go_wp2_with fail
            refine (HF.out.awake w7 (HL.out.on G7.out)).mono ?_
            rintro e w8 ⟨rfl, g8⟩
            have G8 := Bel.trans G7.out g8
            go_wp2_with fail
            go_ret
            exact ⟨rfl, G8⟩
          · have hd : ((l : Int) ≤ 262136) = False := eq_false (by omega)
            have z := sea_no (l := X.toList) (by omega)
            rw [z.1, z.2] at q5
            clear z hXl hXs
            go_wp2_with fail
            refine q5.out.mono ?_
            rintro e w7 ⟨rfl, g7⟩
            have G7 := Lib.hid (Bel.trans G6.out g7)
            clear mk cv q5 g7
            go_wp2_with fail
            refine (HF.out.awake w7 (HL.out.on G7.out)).mono ?_
            rintro e w8 ⟨rfl, g8⟩
            have G8 := Bel.trans G7.out g8
            go_wp2_with fail
            go_ret
            exact ⟨rfl, G8⟩
end Frm
end Go.Proofs.Ytkecellbbfhpoaa
