/-
  The laws HashSums and HashChains.
-/
import Derived.Test.YtkdahjaflgebiaaDoorHshS
import Derived.Test.YtkdahjaflgebiaaDoorHshD
namespace Go.Proofs.YtkdahjaflgebiaaDoor
open Go.RowKit
namespace Hsh

theorem sums_core (s : ByteArray) (o : Option Addr) (n c : Nat) (b : Bool) (v x ch : Nat) (hz : s.size ≤ 140737488355328) (w : World) (hL : Lad w)
    (hb : Hid (Calls Tryd.prog 9 #[.slice o n c, .int .i64 20] w fun e w' => e = .returned (.bool b) ∧ w' = w))
    (h1 : Hid (∀ W : World, Calls Tryd.prog 11 #[.string s] W fun e w' => e = .returned (.int .u64 (v : Int)) ∧ W = w')) (h2 : Hid (∀ W : World, Calls Tryd.prog 12 #[.string s] W fun e w' => e = .returned (.int .u64 (v : Int)) ∧ W = w'))
    (h3 : Hid (∀ W : World, Calls Tryd.prog 13 #[.string s] W fun e w' => e = .returned (.int .u32 (x : Int)) ∧ W = w')) (h4 : Hid (∀ W : World, Calls Tryd.prog 14 #[.string s] W fun e w' => e = .returned (.int .u32 (x : Int)) ∧ W = w'))
    (h5 : Hid (b = true → Calls Tryd.prog 15 #[.slice o n c] w fun e w' => e = .returned (.int .u64 (ch : Int)) ∧ Bel w w')) (h6 : Hid (b = true → ∀ W, Bel w W → Calls Tryd.prog 16 #[.slice o n c] W fun e w' => e = .returned (.int .u64 (ch : Int)) ∧ Bel W w')) :
    Calls Tryd.prog 3 #[.string s, .slice o n c] w fun e w' => e = .returned (.bool true) ∧ Bel w w' := by
  have hA := Lib.hid awakeT
  by_cases hs : s.size ≤ 4000
  · cases b
    · go_enter Tryd.func3, Tryd.ntmps3
      go_wp2_with fail
      refine hb.out.mono ?_
      rintro e w1 ⟨rfl, rfl⟩
      go_wp2_with fail
      refine (hA.out _ hL).mono ?_
      rintro e w2 ⟨rfl, g2⟩
      go_wp2_with fail
      go_ret
      exact ⟨rfl, g2⟩
    · have H5 := Lib.hid (h5.out rfl)
      have H6 := Lib.hid (h6.out rfl)
      clear h5 h6
      go_enter Tryd.func3, Tryd.ntmps3
      go_wp2_with fail
      refine hb.out.mono ?_
      rintro e w1 ⟨rfl, rfl⟩
      go_wp2_with fail
      refine (h1.out _).mono ?_
      rintro e w2 ⟨rfl, rfl⟩
      go_wp2_with fail
      refine (h2.out _).mono ?_
      rintro e w2 ⟨rfl, rfl⟩
      go_wp2_with fail
      refine (h3.out _).mono ?_
      rintro e w2 ⟨rfl, rfl⟩
      go_wp2_with fail
      refine (h4.out _).mono ?_
      rintro e w2 ⟨rfl, rfl⟩
      go_wp2_with fail
      refine H5.out.mono ?_
      rintro e w2 ⟨rfl, g2⟩
      go_wp2_with fail
      refine (H6.out _ g2).mono ?_
      rintro e w3 ⟨rfl, g3⟩
      have G := Bel.trans g2 g3
      go_wp2_with fail
      refine (hA.out _ (hL.on G)).mono ?_
      rintro e w4 ⟨rfl, g4⟩
      go_wp2_with fail
      go_ret
      exact ⟨rfl, Bel.trans G g4⟩
  · have hs' : 4000 < s.size := by omega
    clear hs hb
    go_enter Tryd.func3, Tryd.ntmps3
    go_wp2_with fail
    refine (hA.out _ hL).mono ?_
    rintro e w2 ⟨rfl, g2⟩
    go_wp2_with fail
    go_ret
    exact ⟨rfl, g2⟩
theorem law_sums (s : ByteArray) (o : Option Addr) (n c : Nat) (xs : List ByteArray) (hz : s.size ≤ 140737488355328) (hn : n ≤ 4611686018427387904) (w : World) (hL : Lad w) (hA : SlArg w o n xs) (hx : ∀ x ∈ xs, x.size ≤ maxLen) :
    Calls Tryd.prog 3 #[.string s, .slice o n c] w fun e w' => e = .returned (.bool true) ∧ Bel w w' :=
  sums_core s o n c (shortB xs 20) (fnv s.toList) (crc s.toList) (fnv (ctext xs)) hz w hL (Lib.hid (short_any o n c 20 xs hn (by omega) hx w hA))
    (Lib.hid (sum_any s (maxLen_lt hz))) (Lib.hid (rsum_any s (maxLen_lt hz))) (Lib.hid (crc_any s (maxLen_lt hz))) (Lib.hid (rcrc_any s (maxLen_lt hz)))
    (Lib.hid fun _ => chain_any o n c xs hn hx w hL hA)
    (Lib.hid fun h W g => rchain_any o n c xs (by have := (shortB_true h).1; have := hA.1; omega) (fun x hm => by have := (shortB_true h).2 x hm; omega) W (hL.on g) (hA.on g))
/-- A literal of one or two strings. -/
theorem lit2 (w : World) (a b : ByteArray) (t : TypeId) : SlArg (w.alloc (.cells #[.string a, .string b] t)) (some ⟨w.heap.size, 0, none⟩) 2 [a, b] := ⟨rfl, fun i h => ⟨_, rfl, by
  rw [Lib.add_plain, Nat.zero_add, World.cell?_alloc_new]
  rcases i with _ | _ | i
  · rfl
  · rfl
  · exact absurd h (by simp)⟩⟩
theorem lit1 (w : World) (a : ByteArray) (t : TypeId) : SlArg (w.alloc (.cells #[.string a] t)) (some ⟨w.heap.size, 0, none⟩) 1 [a] := ⟨rfl, fun i h => ⟨_, rfl, by
  rw [Lib.add_plain, Nat.zero_add, World.cell?_alloc_new]
  rcases i with _ | i
  · rfl
  · exact absurd h (by simp)⟩⟩
theorem Lad.alloc {w : World} (h : Lad w) (o : Obj) : Lad (w.alloc o) := h.on ((Bel.refl w).alloc o)
theorem bel_after {w w' : World} {o : Obj} (h : Bel (w.alloc o) w') : Bel w w' := Bel.trans ((Bel.refl w).alloc o) h
theorem all2 {P : ByteArray → Prop} {a b : ByteArray} (ha : P a) (hb : P b) : ∀ x ∈ [a, b], P x := fun x hx => by
  simp at hx
  rcases hx with rfl | rfl
  · exact ha
  · exact hb
theorem all1 {P : ByteArray → Prop} {a : ByteArray} (ha : P a) : ∀ x ∈ [a], P x := fun x hx => by
  simp at hx
  exact hx ▸ ha
theorem le400 {x : ByteArray} (h : x.size ≤ 400) : x.size ≤ maxLen := by unfold maxLen; omega
theorem chain2 (a b : ByteArray) (ha : a.size ≤ 400) (hb : b.size ≤ 400) (t : TypeId) (W : World) (hL : Lad W) :
    Calls Tryd.prog 15 #[.slice (some ⟨W.heap.size, 0, none⟩) 2 2] (W.alloc (.cells #[.string a, .string b] t)) fun e w' => e = .returned (.int .u64 (fnv (ctext [a, b]) : Int)) ∧ Bel W w' :=
  (chain_any _ 2 2 [a, b] (by omega) (all2 (le400 ha) (le400 hb)) _ (Lad.alloc hL _) (lit2 W a b t)).mono fun _ _ ⟨he, g⟩ => ⟨he, bel_after g⟩
theorem chain1 (a : ByteArray) (ha : a.size ≤ 400) (t : TypeId) (W : World) (hL : Lad W) :
    Calls Tryd.prog 15 #[.slice (some ⟨W.heap.size, 0, none⟩) 1 1] (W.alloc (.cells #[.string a] t)) fun e w' => e = .returned (.int .u64 (fnv (ctext [a]) : Int)) ∧ Bel W w' :=
  (chain_any _ 1 1 [a] (by omega) (all1 (le400 ha)) _ (Lad.alloc hL _) (lit1 W a t)).mono fun _ _ ⟨he, g⟩ => ⟨he, bel_after g⟩
theorem text2 (a b : ByteArray) (ha : a.size ≤ 400) (hb : b.size ≤ 400) (t : TypeId) (W : World) (hL : Lad W) :
    Calls Tryd.prog 27 #[.slice (some ⟨W.heap.size, 0, none⟩) 2 2] (W.alloc (.cells #[.string a, .string b] t)) fun e w' => (∃ S : ByteArray, fnv S.toList = fnv (ctext [a, b]) ∧ S.size ≤ 29540 ∧ e = .returned (.string S)) ∧ Bel W w' :=
  (text_any _ 2 2 [a, b] (by omega) (all2 ha hb) _ (Lad.alloc hL _) (lit2 W a b t)).mono fun _ _ ⟨⟨S, h1, h2, he⟩, g⟩ => ⟨⟨S, by rw [toL, h1], h2, he⟩, bel_after g⟩
theorem text1 (a : ByteArray) (ha : a.size ≤ 400) (t : TypeId) (W : World) (hL : Lad W) :
    Calls Tryd.prog 27 #[.slice (some ⟨W.heap.size, 0, none⟩) 1 1] (W.alloc (.cells #[.string a] t)) fun e w' => (∃ S : ByteArray, fnv S.toList = fnv (ctext [a]) ∧ S.size ≤ 29540 ∧ e = .returned (.string S)) ∧ Bel W w' :=
  (text_any _ 1 1 [a] (by omega) (all1 ha) _ (Lad.alloc hL _) (lit1 W a t)).mono fun _ _ ⟨⟨S, h1, h2, he⟩, g⟩ => ⟨⟨S, by rw [toL, h1], h2, he⟩, bel_after g⟩
theorem sum_tells (S : ByteArray) (v : Nat) (h : fnv S.toList = v) (hs : S.size ≤ 29540) : Hid (∀ W : World, Calls Tryd.prog 11 #[.string S] W fun e w' => e = .returned (.int .u64 (v : Int)) ∧ W = w') :=
  Lib.hid (h ▸ sum_any S (by unfold maxLen; omega))
set_option maxHeartbeats 2000000 in
set_option maxRecDepth 100000 in
theorem chains_core (a b : ByteArray) (ha : a.size ≤ 200) (hb : b.size ≤ 200) (w : World) (hL : Lad w) :
    Calls Tryd.prog 8 #[.string a, .string b] w fun e w' => e = .returned (.bool true) ∧ Bel w w' := by
  have hA := Lib.hid awakeT
  have hlt : (9223372036854775807 < a.size + b.size) = False := eq_false (by omega)
  have hc2 := Lib.hid (chain2 a b (by omega) (by omega))
  have ht2 := Lib.hid (text2 a b (by omega) (by omega))
  have hab : (a ++ b).size ≤ 400 := by rw [ByteArray.size_append]; omega
  have hc1 := Lib.hid (chain1 (a ++ b) hab)
  have ht1 := Lib.hid (text1 (a ++ b) hab)
  have hc0 := Lib.hid (chain_any none 0 0 [] (by omega) (fun x h => by cases h))
  obtain ⟨v2, e2⟩ : ∃ v, fnv (ctext [a, b]) = v := ⟨_, rfl⟩
  obtain ⟨v1, e1⟩ : ∃ v, fnv (ctext [a ++ b]) = v := ⟨_, rfl⟩
  rw [e2] at hc2 ht2
  rw [e1] at hc1 ht1
  have h0 := sum_tells ⟨#[]⟩ (fnv (ctext [])) (by rw [tl []]; rfl) (by decide)
  obtain ⟨v0, e0⟩ : ∃ v, fnv (ctext []) = v := ⟨_, rfl⟩
  rw [e0] at hc0 h0
  clear e0 e1 e2 hab
  go_enter Tryd.func8, Tryd.ntmps8
  go_wp2_with fail
  refine (hc2.out _ _ hL).mono ?_
  rintro e w1 ⟨rfl, g1⟩
  have L1 := hL.on g1
  go_wp2_with fail
  refine (ht2.out _ _ L1).mono ?_
  rintro e w2 ⟨⟨S, s1, s2, rfl⟩, g2⟩
  have L2 := L1.on g2
  have G2 := Bel.trans g1 g2
  have hS := sum_tells S v2 s1 s2
  clear s1 s2 g1 g2 L1 hc2 ht2
  go_wp2_with fail
  refine (hS.out _).mono ?_
  rintro e w3 ⟨rfl, rfl⟩
  go_wp2_with fail
  refine (hc1.out _ _ L2).mono ?_
  rintro e w3 ⟨rfl, g3⟩
  have L3 := L2.on g3
  have G3 := Bel.trans G2 g3
  clear L2 G2 g3 hc1 hS
  go_wp2_with fail
  refine (ht1.out _ _ L3).mono ?_
  rintro e w4 ⟨⟨S', s1, s2, rfl⟩, g4⟩
  have L4 := L3.on g4
  have G4 := Bel.trans G3 g4
  have hS := sum_tells S' v1 s1 s2
  clear s1 s2 G3 g4 L3 ht1
  go_wp2_with fail
  refine (hS.out _).mono ?_
  rintro e w5 ⟨rfl, rfl⟩
  go_wp2_with fail
  refine (hc0.out _ L4 (SlArg.nil _)).mono ?_
  rintro e w5 ⟨rfl, g5⟩
  have L5 := L4.on g5
  have G5 := Bel.trans G4 g5
  go_wp2_with fail
  refine (h0.out _).mono ?_
  rintro e w6 ⟨rfl, rfl⟩
  go_wp2_with fail
  refine (hA.out _ L5).mono ?_
  rintro e w6 ⟨rfl, g6⟩
  go_wp2_with fail
  go_ret
  exact ⟨rfl, Bel.trans G5 g6⟩
theorem law_chains (a b : ByteArray) (w : World) (ha : a.size ≤ 140737488355328) (hb : b.size ≤ 140737488355328) (hL : Lad w) :
    Calls Tryd.prog 8 #[.string a, .string b] w fun e w' => e = .returned (.bool true) ∧ Bel w w' := by
  have hA := Lib.hid awakeT
  by_cases h1 : a.size ≤ 200
  · by_cases h2 : b.size ≤ 200
    · exact chains_core a b h1 h2 w hL
    · have h2' : 200 < b.size := by omega
      clear h2
      go_enter Tryd.func8, Tryd.ntmps8
      go_wp2_with fail
      refine (hA.out _ hL).mono ?_
      rintro e w2 ⟨rfl, g2⟩
      go_wp2_with fail
      go_ret
      exact ⟨rfl, g2⟩
  · have h1' : 200 < a.size := by omega
    clear h1
    go_enter Tryd.func8, Tryd.ntmps8
    go_wp2_with fail
    refine (hA.out _ hL).mono ?_
    rintro e w2 ⟨rfl, g2⟩
    go_wp2_with fail
    go_ret
    exact ⟨rfl, g2⟩
end Hsh
end Go.Proofs.YtkdahjaflgebiaaDoor
