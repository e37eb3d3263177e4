/-
  The walks of awake and of the laws on hexadecimal forms and on buckets, out of what the called functions say.
-/
import Derived.Test.YtkdahjaflgebiaaDoorHshG
namespace Go.Proofs.YtkdahjaflgebiaaDoor
open Go.RowKit
namespace Hsh

theorem tup2 {a b : Value} {x y : Value} (h1 : a = x) (h2 : b = y) : Ending.returned (.tuple #[a, b]) = .returned (.tuple #[x, y]) := by rw [h1, h2]
theorem fnv0 : fnv [] = 14695981039346656037 := rfl
theorem fnva : fnv [97] = 12638187200555641996 := by decide +kernel
theorem crc9 : crc [49, 50, 51, 52, 53, 54, 55, 56, 57] = 3421780262 := by decide +kernel
theorem hex255 : hexL 255 = [48, 48, 48, 48, 48, 48, 48, 48, 48, 48, 48, 48, 48, 48, 102, 102] := by decide +kernel
theorem unh255 : unh [48, 48, 48, 48, 48, 48, 48, 48, 48, 48, 48, 48, 48, 48, 102, 102] = some 255 := by decide +kernel
theorem awake_core
    (hU : Hid (Tells 18 #[.string ⟨#[48, 48, 48, 48, 48, 48, 48, 48, 48, 48, 48, 48, 48, 48, 102, 102]⟩] (.returned (.tuple #[.int .u64 255, .int .i64 0]))))
    (hB : Hid (Tells 20 #[.string ⟨#[120]⟩, .int .i64 1] (.returned (.tuple #[.int .i64 0, .int .i64 0]))))
    (h0 : Hid (Tells 11 #[.string ⟨#[]⟩] (.returned (.int .u64 14695981039346656037)))) (h1 : Hid (Tells 11 #[.string ⟨#[97]⟩] (.returned (.int .u64 12638187200555641996))))
    (hC : Hid (Tells 13 #[.string ⟨#[49, 50, 51, 52, 53, 54, 55, 56, 57]⟩] (.returned (.int .u32 3421780262))))
    (hH : Hid (Tells 17 #[.int .u64 255] (.returned (.string ⟨#[48, 48, 48, 48, 48, 48, 48, 48, 48, 48, 48, 48, 48, 48, 102, 102]⟩)))) (w : World) (hL : Lad w) :
    Calls Tryd.prog 10 #[] w fun e w' => e = .returned (.bool true) ∧ Bel w w' := by
  go_enter Tryd.func10, Tryd.ntmps10
  go_wp2_with fail
  refine (hU.out _ hL).mono ?_
  rintro e w1 ⟨rfl, g1⟩
  have L1 := hL.on g1
  go_wp2_with fail
  refine (hB.out _ L1).mono ?_
  rintro e w2 ⟨rfl, g2⟩
  have L2 := L1.on g2
  go_wp2_with fail
  refine (h0.out _ L2).mono ?_
  rintro e w3 ⟨rfl, g3⟩
  have L3 := L2.on g3
  go_wp2_with fail
  refine (h1.out _ L3).mono ?_
  rintro e w4 ⟨rfl, g4⟩
  have L4 := L3.on g4
  go_wp2_with fail
  refine (hC.out _ L4).mono ?_
  rintro e w5 ⟨rfl, g5⟩
  have L5 := L4.on g5
  go_wp2_with fail
  refine (hH.out _ L5).mono ?_
  rintro e w6 ⟨rfl, g6⟩
  have L6 := L5.on g6
  go_wp2_with fail
  go_ret
  exact ⟨rfl, Bel.trans g1 (Bel.trans g2 (Bel.trans g3 (Bel.trans g4 (Bel.trans g5 g6))))⟩

/-- What the functions of the layer say: the forms that awake and the laws ask for. -/
def HexI : Prop := ∀ n : Nat, n < 18446744073709551616 → Tells 17 #[.int .u64 (n : Int)] (.returned (.string ⟨(hexL n).toArray⟩))
def UnhI (f : Nat) : Prop := ∀ s : ByteArray, s.size ≤ 140737488355328 → Tells f #[.string s] (.returned (.tuple #[.int .u64 (unhV s.toList : Int), .int .i64 (unhE s.toList)]))
def SumI (f : Nat) : Prop := ∀ s : ByteArray, s.size ≤ 140737488355328 → Tells f #[.string s] (.returned (.int .u64 (fnv s.toList : Int)))
def CrcI (f : Nat) : Prop := ∀ s : ByteArray, s.size ≤ 140737488355328 → Tells f #[.string s] (.returned (.int .u32 (crc s.toList : Int)))
def BucI (f : Nat) : Prop := ∀ (s : ByteArray) (n : Int), s.size ≤ 140737488355328 → (-9223372036854775808 ≤ n ∧ n ≤ 9223372036854775807) → Tells f #[.string s, .int .i64 n] (.returned (.tuple #[.int .i64 (bkV s.toList n), .int .i64 (bkE n)]))
theorem bk1 (l : List UInt8) : bkV l 1 = 0 := by
  unfold bkV
  rw [if_pos ⟨by omega, by omega⟩, Int.emod_one]
theorem awake_any (hH : HexI) (hU : UnhI 18) (hS : SumI 11) (hC : CrcI 13) (hB : BucI 20) (w : World) (hL : Lad w) :
    Calls Tryd.prog 10 #[] w fun e w' => e = .returned (.bool true) ∧ Bel w w' := by
  refine awake_core (Lib.hid ?_) (Lib.hid ?_) (Lib.hid ?_) (Lib.hid ?_) (Lib.hid ?_) (Lib.hid ?_) w hL
  · have h := hU ⟨#[48, 48, 48, 48, 48, 48, 48, 48, 48, 48, 48, 48, 48, 48, 102, 102]⟩ (by decide)
    rw [tl [48, 48, 48, 48, 48, 48, 48, 48, 48, 48, 48, 48, 48, 48, 102, 102]] at h
    unfold unhV unhE at h
    rw [unh255] at h
    exact h
  · have h := hB ⟨#[120]⟩ 1 (by decide) (by omega)
    rw [bk1] at h
    exact h
  · have h := hS ⟨#[]⟩ (by decide)
    rw [tl [], fnv0] at h
    exact h
  · have h := hS ⟨#[97]⟩ (by decide)
    rw [tl [97], fnva] at h
    exact h
  · have h := hC ⟨#[49, 50, 51, 52, 53, 54, 55, 56, 57]⟩ (by decide)
    rw [tl [49, 50, 51, 52, 53, 54, 55, 56, 57], crc9] at h
    exact h
  · have h := hH 255 (by omega)
    rw [hex255] at h
    exact h
set_option maxHeartbeats 1000000 in
theorem hexes_core (n u : Nat) (s x : ByteArray) (E : Int) (h16 : x.size = 16)
    (h1 : Hid (Tells 17 #[.int .u64 (n : Int)] (.returned (.string x)))) (h2 : Hid (Tells 18 #[.string x] (.returned (.tuple #[.int .u64 (n : Int), .int .i64 0]))))
    (h3 : Hid (Tells 18 #[.string s] (.returned (.tuple #[.int .u64 (u : Int), .int .i64 E])))) (h4 : Hid (Tells 19 #[.string s] (.returned (.tuple #[.int .u64 (u : Int), .int .i64 E]))))
    (h5 : Hid (E = 0 → Tells 17 #[.int .u64 (u : Int)] (.returned (.string s)))) (hA : Hid (Tells 10 #[] (.returned (.bool true)))) (w : World) (hL : Lad w) :
    Calls Tryd.prog 4 #[.int .u64 (n : Int), .string s] w fun e w' => e = .returned (.bool true) ∧ Bel w w' := by
  go_enter Tryd.func4, Tryd.ntmps4
  go_wp2_with fail
  refine (h1.out _ hL).mono ?_
  rintro e w1 ⟨rfl, g1⟩
  have L1 := hL.on g1
  go_wp2_with fail
  refine (h2.out _ L1).mono ?_
  rintro e w2 ⟨rfl, g2⟩
  have L2 := L1.on g2
  go_wp2_with fail
  refine (h3.out _ L2).mono ?_
  rintro e w3 ⟨rfl, g3⟩
  have L3 := L2.on g3
  go_wp2_with fail
  refine (h4.out _ L3).mono ?_
  rintro e w4 ⟨rfl, g4⟩
  have L4 := L3.on g4
  have G := Bel.trans g1 (Bel.trans g2 (Bel.trans g3 g4))
  clear g1 g2 g3 g4
  have c0 : ((x.size : Int) == 16) = true := by simp; omega
  by_cases he : E = 0
  · have h6 := Lib.hid (h5.out he)
    subst he
    go_wp2_with fail
    refine (h6.out _ L4).mono ?_
    rintro e w5 ⟨rfl, g5⟩
    have L5 := L4.on g5
    go_wp2_with fail
    refine (hA.out _ L5).mono ?_
    rintro e w6 ⟨rfl, g6⟩
    have L6 := L5.on g6
    go_wp2_with fail
    go_ret
    exact ⟨rfl, Bel.trans G (Bel.trans g5 g6)⟩
  · have c1 : (E != 0) = true := by simpa using he
    go_wp2_with fail
    refine (hA.out _ L4).mono ?_
    rintro e w6 ⟨rfl, g6⟩
    have L6 := L4.on g6
    go_wp2_with fail
    go_ret
    exact ⟨rfl, Bel.trans G g6⟩
theorem law_hexes (n : Nat) (s : ByteArray) (hn : n < 18446744073709551616) (hs : s.size ≤ 140737488355328) (hH : HexI) (hU : UnhI 18) (hS : SumI 11) (hC : CrcI 13) (hB : BucI 20) (w : World) (hL : Lad w) :
    Calls Tryd.prog 4 #[.int .u64 (n : Int), .string s] w fun e w' => e = .returned (.bool true) ∧ Bel w w' := by
  have hx : (⟨(hexL n).toArray⟩ : ByteArray).size = 16 := by
    show (hexL n).toArray.size = 16
    simp [hexL, hexF_len]
  refine hexes_core n (unhV s.toList) s ⟨(hexL n).toArray⟩ (unhE s.toList) hx (Lib.hid (hH n hn)) (Lib.hid ?_) (Lib.hid (hU s hs)) (Lib.hid (Tells.of_eq' (runhex_any s))) (Lib.hid ?_) (Lib.hid fun W h => awake_any hH hU hS hC hB W h) w hL
  · have h := hU ⟨(hexL n).toArray⟩ (by rw [hx]; decide)
    rw [tl] at h
    unfold unhV unhE at h
    rw [unh_hex hn] at h
    exact h
  · intro he
    unfold unhE at he
    unfold unhV
    cases h : unh s.toList with
    | none => rw [h] at he; simp at he
    | some k =>
      obtain ⟨e1, e2⟩ := hex_unh h
      have hh := hH k e2
      rw [e1] at hh
      have : (⟨s.toList.toArray⟩ : ByteArray) = s := by rw [toL]
      rw [this] at hh
      exact hh
theorem buckets_core (s : ByteArray) (n V E : Int) (hs : s.size ≤ 140737488355328) (h1 : Hid (Tells 20 #[.string s, .int .i64 n] (.returned (.tuple #[.int .i64 V, .int .i64 E])))) (h2 : Hid (Tells 21 #[.string s, .int .i64 n] (.returned (.tuple #[.int .i64 V, .int .i64 E]))))
    (hA : Hid (Tells 10 #[] (.returned (.bool true)))) (w : World) (hL : Lad w) :
    Calls Tryd.prog 5 #[.string s, .int .i64 n] w fun e w' => e = .returned (.bool true) ∧ Bel w w' := by
  by_cases h : s.size ≤ 4000
  · go_enter Tryd.func5, Tryd.ntmps5
    go_wp2_with fail
    refine (h1.out _ hL).mono ?_
    rintro e w1 ⟨rfl, g1⟩
    have L1 := hL.on g1
    go_wp2_with fail
    refine (h2.out _ L1).mono ?_
    rintro e w2 ⟨rfl, g2⟩
    have L2 := L1.on g2
    go_wp2_with fail
    refine (hA.out _ L2).mono ?_
    rintro e w3 ⟨rfl, g3⟩
    have L3 := L2.on g3
    go_wp2_with fail
    go_ret
    exact ⟨rfl, Bel.trans g1 (Bel.trans g2 g3)⟩
  · have h' : 4000 < s.size := by omega
    clear h
    go_enter Tryd.func5, Tryd.ntmps5
    go_wp2_with fail
    refine (hA.out _ hL).mono ?_
    rintro e w3 ⟨rfl, g3⟩
    have L3 := hL.on g3
    go_wp2_with fail
    go_ret
    exact ⟨rfl, g3⟩
theorem law_buckets (s : ByteArray) (n : Int) (hs : s.size ≤ 140737488355328) (hf : -9223372036854775808 ≤ n ∧ n ≤ 9223372036854775807) (hH : HexI) (hU : UnhI 18) (hS : SumI 11) (hC : CrcI 13) (hB : BucI 20) (w : World) (hL : Lad w) :
    Calls Tryd.prog 5 #[.string s, .int .i64 n] w fun e w' => e = .returned (.bool true) ∧ Bel w w' :=
  buckets_core s n _ _ hs (Lib.hid (hB s n hs hf)) (Lib.hid (Tells.of_eq (rbucket_any s n hf (Lib.hid (rsum_any s (maxLen_lt hs)))))) (Lib.hid fun W h => awake_any hH hU hS hC hB W h) w hL
theorem hexI : HexI := hex_any
theorem unhI : UnhI 18 := unhex_any
theorem sumI : SumI 11 := fun s hs => Tells.of_eq (sum_any s (maxLen_lt hs))
theorem crcI : CrcI 13 := fun s hs => Tells.of_eq (crc_any s (maxLen_lt hs))
theorem bucI : BucI 20 := fun s n hs hf => Tells.of_eq (bucket_any s n hf (Lib.hid (sum_any s (maxLen_lt hs))))
theorem awakeT : Tells 10 #[] (.returned (.bool true)) := fun W h => awake_any hexI unhI sumI crcI bucI W h
/-- The laws on hexadecimal forms and on buckets. -/
theorem hexes (n : Nat) (s : ByteArray) (hn : n < 18446744073709551616) (hs : s.size ≤ 140737488355328) (w : World) (hL : Lad w) :
    Calls Tryd.prog 4 #[.int .u64 (n : Int), .string s] w fun e w' => e = .returned (.bool true) ∧ Bel w w' := law_hexes n s hn hs hexI unhI sumI crcI bucI w hL
theorem buckets (s : ByteArray) (n : Int) (hs : s.size ≤ 140737488355328) (hf : -9223372036854775808 ≤ n ∧ n ≤ 9223372036854775807) (w : World) (hL : Lad w) :
    Calls Tryd.prog 5 #[.string s, .int .i64 n] w fun e w' => e = .returned (.bool true) ∧ Bel w w' := law_buckets s n hs hf hexI unhI sumI crcI bucI w hL
theorem hexes_at (a : Int) (s : ByteArray) (ha : ∃ n : Nat, a = (n : Int) ∧ n < 18446744073709551616) (hs : s.size ≤ 140737488355328) (w : World) (hL : Lad w) :
    Calls Tryd.prog 4 #[.int .u64 a, .string s] w fun e w' => e = .returned (.bool true) ∧ Bel w w' := by
  obtain ⟨n, rfl, hn⟩ := ha
  exact hexes n s hn hs w hL
end Hsh
end Go.Proofs.YtkdahjaflgebiaaDoor
