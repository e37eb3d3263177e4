/-
  Layer 8, texts merged: SuK, SuL, SuN, SuO, SuP, SuR, SuS, SuT. For every argument within the bounds that each theorem names.
-/
import Derived.Test.YtcapkeaedpabjaaGreatDoorWL4
import Derived.WalkSmall
import Derived.Test.YtcapkeaedpabjaaGreatDoorWK3
import Derived.Test.YtcapkeaedpabjaaGreatDoorShelf
import Derived.Sort.OwnSortedInts
import Derived.Test.YtcapkeaedpabjaaGreatDoorWK2

/-
 Layer 9: the law's equal; its example.
-/
namespace Go.Proofs.YtcapkeaedpabjaaGreatDoor
open Go.RowKit Go.ChangeShapes Go.WideShapes Go.Maps
namespace Syn
set_option maxRecDepth 100000 in
set_option maxHeartbeats 4000000 in
theorem equal9_any (o1 o2 : Option Addr) (n m c1 c2 : Nat) (l1 l2 : List Int) (hn : n ≤ 4611686018427387904) (hm : m ≤ 4611686018427387904) (w : World) (hA : RArg w o1 n l1) (hB : RArg w o2 m l2) :
  Calls Tryz.prog 24 #[.slice o1 n c1, .slice o2 m c2] w fun e w' => e = .returned (.bool (decide (l1 = l2))) ∧ Bel w w' := by
 have k1 := hA.1
 have k2 := hB.1
 by_cases h0 : n = m
 ·subst h0
  by_cases hz : n = 0
  ·subst hz
   have e1 : l1 = [] := List.eq_nil_of_length_eq_zero k1
   have e2 : l2 = [] := List.eq_nil_of_length_eq_zero k2
   subst e1 e2
   clear hA hB
   go_enter Tryz.func24, Tryz.ntmps24
   go_wp2_with fail
   go_loopw [13] (fun iv wr => iv = .int .i64 0 ∧ wr = w) (fun _ _ => 0)
   case atStart => exact ⟨rfl, rfl⟩
   case round =>
    obtain ⟨rfl, rfl⟩ := hrel
    go_wp2
    go_ret
    exact ⟨rfl, Bel.refl _⟩
  ·obtain ⟨b, off, rfl, hc⟩ := hA.2 (by omega)
   obtain ⟨b2, off2, rfl, hc2⟩ := hB.2 (by omega)
   obtain ⟨X, hX⟩ : ∃ X, decide (l1 = l2) = X := ⟨_, rfl⟩
   have HX := Lib.hid hX
   rw [hX]
   have K1 := Lib.hid k1
   have K2 := Lib.hid k2
   have HC := Lib.hid hc
   have HC2 := Lib.hid hc2
   have hn0 : (0 : Int) < (n : Int) := by omega
   clear hA hB hc hc2 k1 k2 hX
   go_enter Tryz.func24, Tryz.ntmps24
   go_wp2_with fail
   go_loopw [13] (fun iv wr => ∃ k : Nat, iv = .int .i64 (k : Int) ∧ k ≤ n ∧ Hid (decide (l1.drop k = l2.drop k) = X) ∧ Hid (Bel w wr)) (fun iv _ => n - (intOf iv).toNat)
   case atStart => exact ⟨0, rfl, Nat.zero_le _, HX, Lib.hid (Bel.refl _)⟩
   case round =>
    obtain ⟨k, rfl, hk, HM, HB⟩ := hrel
    rename World => wr
    rcases Nat.lt_or_ge k n with hkn | hkn
    ·have q1 : k < l1.length := by rw [K1.out]; exact hkn
     have q2 : k < l2.length := by rw [K2.out]; exact hkn
     have c0 := HB.out.cell' (HC.out k q1)
     have c02 := HB.out.cell' (HC2.out k q2)
     have hM := HM.out
     rw [drop_eq_at q1 q2] at hM
     generalize l1[k] = u at *
     generalize l2[k] = v at *
     by_cases huv : u = v
     ·subst huv
      have hM2 : Hid (decide (l1.drop (k + 1) = l2.drop (k + 1)) = X) := Lib.hid (by rw [← hM]; simp)
      clear hM HM
      go_wp2_with fail
      go_quiet (fail)
      go_wp2_with fail
      go_round
      case rel => exact ⟨k + 1, by go_num, by omega, hM2, Lib.hid (Bel.drewN HB.out _)⟩
      case measure => simp [intOf]; omega
     ·have hz2 : Hid (X = false) := Lib.hid (by rw [← hM]; simp [huv])
      have buv : (u == v) = false := by simpa using huv
      clear hM HM
      go_wp2_with fail
      go_quiet (fail)
      go_wp2_with fail
      go_ret
      exact ⟨by rw [hz2.out]; rfl, Bel.drewN HB.out _⟩
    ·have hz2 : Hid (X = true) := Lib.hid (by
      have := HM.out
      rw [List.drop_eq_nil_of_le (by rw [K1.out]; exact hkn), List.drop_eq_nil_of_le (by rw [K2.out]; exact hkn)] at this
      rw [← this]
      rfl)
     obtain rfl : k = n := by omega
     go_wp2_with fail
     go_ret
     exact ⟨by rw [hz2.out]; rfl, HB.out⟩
 ·have hne : decide (l1 = l2) = false := by
   rw [decide_eq_false_iff_not]
   intro e
   rw [e] at k1
   omega
  rw [hne]
  have h0' : ¬ (n : Int) = (m : Int) := by omega
  clear hA hB
  go_enter Tryz.func24, Tryz.ntmps24
  go_wp2_with fail
  go_ret
  exact ⟨rfl, Bel.refl _⟩

/-- The nodes of the example, the third with a name of one's choice. -/
def exL (t : Txt) : List Nd := [⟨5, [101], 0, [], []⟩, ⟨13, [120], 0, [], [0]⟩, ⟨5, t, 0, [], []⟩, ⟨17, [], 0, [], [2]⟩, ⟨19, [], 0, [], [1, 3]⟩]
def exF : List Fw := [⟨[109, 97, 105, 110], [[101]], 4⟩]
def exC (a b c : Nat) (t : Txt) : List Value := [.int .i64 5, .string ⟨([101] : Txt).toArray⟩, .int .i64 0, .slice none 0 0, .slice none 0 0, .int .i64 13, .string ⟨([120] : Txt).toArray⟩, .int .i64 0, .slice none 0 0, .slice (some ⟨a, 0, none⟩) 1 1, .int .i64 5, .string ⟨t.toArray⟩, .int .i64 0, .slice none 0 0, .slice none 0 0, .int .i64 17, .string ⟨([] : Txt).toArray⟩, .int .i64 0, .slice none 0 0, .slice (some ⟨b, 0, none⟩) 1 1, .int .i64 19, .string ⟨([] : Txt).toArray⟩, .int .i64 0, .slice none 0 0, .slice (some ⟨c, 0, none⟩) 2 2]
def exD (p : Nat) : List Value := [.string ⟨([109, 97, 105, 110] : Txt).toArray⟩, .slice (some ⟨p, 0, none⟩) 1 1, .int .i64 4]
/-- The example in memory. -/
structure ExAt (w : World) (nb fb a b c p : Nat) (t : Txt) : Prop where
 row : ∀ j u, (exC a b c t)[j]? = some u → w.cell? ⟨nb, j, none⟩ = some u
 fr : ∀ j u, (exD p)[j]? = some u → w.cell? ⟨fb, j, none⟩ = some u
 ka : w.cell? ⟨a, 0, none⟩ = some (.int .i64 0)
 kb : w.cell? ⟨b, 0, none⟩ = some (.int .i64 2)
 kc0 : w.cell? ⟨c, 0, none⟩ = some (.int .i64 1)
 kc1 : w.cell? ⟨c, 1, none⟩ = some (.int .i64 3)
 pp : w.cell? ⟨p, 0, none⟩ = some (.string ⟨([101] : Txt).toArray⟩)
theorem zs1 {w : World} {a : Nat} {z : Int} (h : w.cell? ⟨a, 0, none⟩ = some (.int .i64 z)) : ZArg w (some ⟨a, 0, none⟩) 1 [z] :=
 ⟨rfl, fun i hi => ⟨⟨a, 0, none⟩, rfl, by match i, hi with | 0, _ => exact h⟩⟩
theorem zs2 {w : World} {a : Nat} {y z : Int} (h : w.cell? ⟨a, 0, none⟩ = some (.int .i64 y)) (h2 : w.cell? ⟨a, 1, none⟩ = some (.int .i64 z)) : ZArg w (some ⟨a, 0, none⟩) 2 [y, z] :=
 ⟨rfl, fun i hi => ⟨⟨a, 0, none⟩, rfl, by match i, hi with | 0, _ => exact h | 1, _ => exact h2⟩⟩
theorem ExAt.nodes {w : World} {nb fb a b c p : Nat} {t : Txt} (h : ExAt w nb fb a b c p t) : NArg w (some ⟨nb, 0, none⟩) 5 (exL t) := by
 refine ⟨rfl, fun _ => ⟨nb, 0, rfl, fun i hi => ?_⟩⟩
 match i, hi with
 | 0, _ => exact ⟨⟨5, [101], 0, none, 0, 0, none, 0, 0⟩, ⟨rfl, rfl, rfl, KArg.nil _ _, ZArg.nil _ _, Nat.le_refl _, Nat.le_refl _⟩, fun j u hj => by
   match j, hj with
   | 0, hj => exact h.row (0) u hj
   | 1, hj => exact h.row (1) u hj
   | 2, hj => exact h.row (2) u hj
   | 3, hj => exact h.row (3) u hj
   | 4, hj => exact h.row (4) u hj
   | j + 5, hj => cases hj⟩
 | 1, _ => exact ⟨⟨13, [120], 0, none, 0, 0, some ⟨a, 0, none⟩, 1, 1⟩, ⟨rfl, rfl, rfl, KArg.nil _ _, zs1 h.ka, Nat.le_refl _, Nat.le_refl _⟩, fun j u hj => by
   match j, hj with
   | 0, hj => exact h.row (5) u hj
   | 1, hj => exact h.row (6) u hj
   | 2, hj => exact h.row (7) u hj
   | 3, hj => exact h.row (8) u hj
   | 4, hj => exact h.row (9) u hj
   | j + 5, hj => cases hj⟩
 | 2, _ => exact ⟨⟨5, t, 0, none, 0, 0, none, 0, 0⟩, ⟨rfl, rfl, rfl, KArg.nil _ _, ZArg.nil _ _, Nat.le_refl _, Nat.le_refl _⟩, fun j u hj => by
   match j, hj with
   | 0, hj => exact h.row (10) u hj
   | 1, hj => exact h.row (11) u hj
   | 2, hj => exact h.row (12) u hj
   | 3, hj => exact h.row (13) u hj
   | 4, hj => exact h.row (14) u hj
   | j + 5, hj => cases hj⟩
 | 3, _ => exact ⟨⟨17, [], 0, none, 0, 0, some ⟨b, 0, none⟩, 1, 1⟩, ⟨rfl, rfl, rfl, KArg.nil _ _, zs1 h.kb, Nat.le_refl _, Nat.le_refl _⟩, fun j u hj => by
   match j, hj with
   | 0, hj => exact h.row (15) u hj
   | 1, hj => exact h.row (16) u hj
   | 2, hj => exact h.row (17) u hj
   | 3, hj => exact h.row (18) u hj
   | 4, hj => exact h.row (19) u hj
   | j + 5, hj => cases hj⟩
 | 4, _ => exact ⟨⟨19, [], 0, none, 0, 0, some ⟨c, 0, none⟩, 2, 2⟩, ⟨rfl, rfl, rfl, KArg.nil _ _, zs2 h.kc0 h.kc1, Nat.le_refl _, Nat.le_refl _⟩, fun j u hj => by
   match j, hj with
   | 0, hj => exact h.row (20) u hj
   | 1, hj => exact h.row (21) u hj
   | 2, hj => exact h.row (22) u hj
   | 3, hj => exact h.row (23) u hj
   | 4, hj => exact h.row (24) u hj
   | j + 5, hj => cases hj⟩
theorem ExAt.funcs {w : World} {nb fb a b c p : Nat} {t : Txt} (h : ExAt w nb fb a b c p t) : FArg w (some ⟨fb, 0, none⟩) 1 exF := by
 refine ⟨rfl, fun _ => ⟨fb, 0, rfl, fun i hi => ?_⟩⟩
 match i, hi with
 | 0, _ => exact ⟨⟨[109, 97, 105, 110], some ⟨p, 0, none⟩, 1, 1, 4⟩, ⟨rfl, rfl, ⟨rfl, fun i hi => ⟨⟨p, 0, none⟩, rfl, by match i, hi with | 0, _ => exact h.pp⟩⟩, Nat.le_refl _, fun _ a e => by cases e; exact ⟨_, _, rfl⟩⟩, fun j u hj => by
   match j, hj with
   | 0, hj => exact h.fr 0 u hj
   | 1, hj => exact h.fr 1 u hj
   | 2, hj => exact h.fr 2 u hj
   | j + 3, hj => cases hj⟩
theorem ExAt.on {w w' : World} {nb fb a b c p : Nat} {t : Txt} (h : ExAt w nb fb a b c p t) (g : Bel w w') : ExAt w' nb fb a b c p t :=
 ⟨fun j u e => g.cell' (h.row j u e), fun j u e => g.cell' (h.fr j u e), g.cell' h.ka, g.cell' h.kb, g.cell' h.kc0, g.cell' h.kc1, g.cell' h.pp⟩
theorem ex_fit (t : Txt) (ht : t.length ≤ 1000) : Fit9 5 1 (exL t) exF := by
 refine ⟨by omega, by omega, fun x hx => ?_, fun x hx => ?_, fun f hf => ?_⟩
 ·simp only [exL, List.mem_cons, List.not_mem_nil, or_false] at hx
  rcases hx with rfl | rfl | rfl | rfl | rfl <;> simp
 ·simp only [exL, List.mem_cons, List.not_mem_nil, or_false] at hx
  rcases hx with rfl | rfl | rfl | rfl | rfl <;> simp <;> omega
 ·simp only [exF, List.mem_cons, List.not_mem_nil, or_false] at hf
  subst hf
  simp
theorem ex_good : resG (exL [120]) exF = ⟨[0, 1, 1, -1, -1], [2], 0, 0⟩ := by kernel_rfl
theorem ex_bad : (resG (exL [121]) exF).pos = 2 ∧ (resG (exL [121]) exF).er = 4 := ⟨by kernel_rfl, by kernel_rfl⟩
set_option maxRecDepth 100000 in
set_option maxHeartbeats 4000000 in
theorem example_any (w : World) :
  Calls Tryz.prog 49 #[] w fun e w' => ∃ nb fb a b c p, e = .returned (.agg #[.slice (some ⟨nb, 0, none⟩) 5 5, .slice (some ⟨fb, 0, none⟩) 1 1]) ∧ ExAt w' nb fb a b c p [120] ∧ Bel w w' ∧ w.heap.size ≤ nb ∧ w'.frozen? ⟨nb, 11, none⟩ = false ∧ (nb ≠ fb ∧ nb ≠ a ∧ nb ≠ b ∧ nb ≠ c ∧ nb ≠ p) := by
 go_enter Tryz.func49, Tryz.ntmps49
 go_wp2_with fail
 obtain ⟨W0, h0⟩ : ∃ W, w.alloc (.cells #[.slice (some ⟨w.heap.size + 1 + 1 + 1 + 1, 0, none⟩) 5 5, .slice (some ⟨w.heap.size + 1 + 1 + 1 + 1 + 1 + 1, 0, none⟩) 1 1] 25) = W := ⟨_, rfl⟩
 have z0 : W0.heap.size = w.heap.size + 1 := by rw [← h0, alloc_szs]
 have b0 : Bel w W0 := by rw [← h0]; exact Bel.alloc (Bel.refl _) _
 have c0 : ∀ j u, [.slice (some ⟨w.heap.size + 1 + 1 + 1 + 1, 0, none⟩) 5 5, .slice (some ⟨w.heap.size + 1 + 1 + 1 + 1 + 1 + 1, 0, none⟩) 1 1][j]? = some u → W0.cell? ⟨w.heap.size, j, none⟩ = some u := fun j u e => by
  have := World.news_of_block (cs := #[.slice (some ⟨w.heap.size + 1 + 1 + 1 + 1, 0, none⟩) 5 5, .slice (some ⟨w.heap.size + 1 + 1 + 1 + 1 + 1 + 1, 0, none⟩) 1 1]) (t := 25) (fr := (0, 0)) (heap_new w _) j u e
  rw [h0] at this
  have ea : (⟨w.heap.size, 0, none⟩ : Addr).add j = ⟨w.heap.size, j, none⟩ := by unfold Addr.add; split <;> simp_all
  rw [ea] at this
  exact this
 obtain ⟨W1, h1⟩ : ∃ W, W0.alloc (.cells #[.int .i64 0] 3) = W := ⟨_, rfl⟩
 have z1 : W1.heap.size = w.heap.size + 1 + 1 := by rw [← h1, alloc_szs, z0]
 have b1 : Bel W0 W1 := by rw [← h1]; exact Bel.alloc (Bel.refl _) _
 have c1 : ∀ j u, [.int .i64 0][j]? = some u → W1.cell? ⟨w.heap.size + 1, j, none⟩ = some u := fun j u e => by
  have := World.news_of_block (cs := #[.int .i64 0]) (t := 3) (fr := (0, 0)) (heap_new W0 _) j u e
  rw [h1, z0] at this
  have ea : (⟨w.heap.size + 1, 0, none⟩ : Addr).add j = ⟨w.heap.size + 1, j, none⟩ := by unfold Addr.add; split <;> simp_all
  rw [ea] at this
  exact this
 obtain ⟨W2, h2⟩ : ∃ W, W1.alloc (.cells #[.int .i64 2] 3) = W := ⟨_, rfl⟩
 have z2 : W2.heap.size = w.heap.size + 1 + 1 + 1 := by rw [← h2, alloc_szs, z1]
 have b2 : Bel W1 W2 := by rw [← h2]; exact Bel.alloc (Bel.refl _) _
 have c2 : ∀ j u, [.int .i64 2][j]? = some u → W2.cell? ⟨w.heap.size + 1 + 1, j, none⟩ = some u := fun j u e => by
  have := World.news_of_block (cs := #[.int .i64 2]) (t := 3) (fr := (0, 0)) (heap_new W1 _) j u e
  rw [h2, z1] at this
  have ea : (⟨w.heap.size + 1 + 1, 0, none⟩ : Addr).add j = ⟨w.heap.size + 1 + 1, j, none⟩ := by unfold Addr.add; split <;> simp_all
  rw [ea] at this
  exact this
 obtain ⟨W3, h3⟩ : ∃ W, W2.alloc (.cells #[.int .i64 1, .int .i64 3] 3) = W := ⟨_, rfl⟩
 have z3 : W3.heap.size = w.heap.size + 1 + 1 + 1 + 1 := by rw [← h3, alloc_szs, z2]
 have b3 : Bel W2 W3 := by rw [← h3]; exact Bel.alloc (Bel.refl _) _
 have c3 : ∀ j u, [.int .i64 1, .int .i64 3][j]? = some u → W3.cell? ⟨w.heap.size + 1 + 1 + 1, j, none⟩ = some u := fun j u e => by
  have := World.news_of_block (cs := #[.int .i64 1, .int .i64 3]) (t := 3) (fr := (0, 0)) (heap_new W2 _) j u e
  rw [h3, z2] at this
  have ea : (⟨w.heap.size + 1 + 1 + 1, 0, none⟩ : Addr).add j = ⟨w.heap.size + 1 + 1 + 1, j, none⟩ := by unfold Addr.add; split <;> simp_all
  rw [ea] at this
  exact this
 obtain ⟨W4, h4⟩ : ∃ W, W3.alloc (.cells #[.int .i64 5, .string ⟨([101] : Txt).toArray⟩, .int .i64 0, .slice none 0 0, .slice none 0 0, .int .i64 13, .string ⟨([120] : Txt).toArray⟩, .int .i64 0, .slice none 0 0, .slice (some ⟨w.heap.size + 1, 0, none⟩) 1 1, .int .i64 5, .string ⟨([120] : Txt).toArray⟩, .int .i64 0, .slice none 0 0, .slice none 0 0, .int .i64 17, .string ⟨([] : Txt).toArray⟩, .int .i64 0, .slice none 0 0, .slice (some ⟨w.heap.size + 1 + 1, 0, none⟩) 1 1, .int .i64 19, .string ⟨([] : Txt).toArray⟩, .int .i64 0, .slice none 0 0, .slice (some ⟨w.heap.size + 1 + 1 + 1, 0, none⟩) 2 2] 65) = W := ⟨_, rfl⟩
 have z4 : W4.heap.size = w.heap.size + 1 + 1 + 1 + 1 + 1 := by rw [← h4, alloc_szs, z3]
 have b4 : Bel W3 W4 := by rw [← h4]; exact Bel.alloc (Bel.refl _) _
 have c4 : ∀ j u, [.int .i64 5, .string ⟨([101] : Txt).toArray⟩, .int .i64 0, .slice none 0 0, .slice none 0 0, .int .i64 13, .string ⟨([120] : Txt).toArray⟩, .int .i64 0, .slice none 0 0, .slice (some ⟨w.heap.size + 1, 0, none⟩) 1 1, .int .i64 5, .string ⟨([120] : Txt).toArray⟩, .int .i64 0, .slice none 0 0, .slice none 0 0, .int .i64 17, .string ⟨([] : Txt).toArray⟩, .int .i64 0, .slice none 0 0, .slice (some ⟨w.heap.size + 1 + 1, 0, none⟩) 1 1, .int .i64 19, .string ⟨([] : Txt).toArray⟩, .int .i64 0, .slice none 0 0, .slice (some ⟨w.heap.size + 1 + 1 + 1, 0, none⟩) 2 2][j]? = some u → W4.cell? ⟨w.heap.size + 1 + 1 + 1 + 1, j, none⟩ = some u := fun j u e => by
  have := World.news_of_block (cs := #[.int .i64 5, .string ⟨([101] : Txt).toArray⟩, .int .i64 0, .slice none 0 0, .slice none 0 0, .int .i64 13, .string ⟨([120] : Txt).toArray⟩, .int .i64 0, .slice none 0 0, .slice (some ⟨w.heap.size + 1, 0, none⟩) 1 1, .int .i64 5, .string ⟨([120] : Txt).toArray⟩, .int .i64 0, .slice none 0 0, .slice none 0 0, .int .i64 17, .string ⟨([] : Txt).toArray⟩, .int .i64 0, .slice none 0 0, .slice (some ⟨w.heap.size + 1 + 1, 0, none⟩) 1 1, .int .i64 19, .string ⟨([] : Txt).toArray⟩, .int .i64 0, .slice none 0 0, .slice (some ⟨w.heap.size + 1 + 1 + 1, 0, none⟩) 2 2]) (t := 65) (fr := (0, 0)) (heap_new W3 _) j u e
  rw [h4, z3] at this
  have ea : (⟨w.heap.size + 1 + 1 + 1 + 1, 0, none⟩ : Addr).add j = ⟨w.heap.size + 1 + 1 + 1 + 1, j, none⟩ := by unfold Addr.add; split <;> simp_all
  rw [ea] at this
  exact this
 have f4 : W4.frozen? ⟨w.heap.size + 1 + 1 + 1 + 1, 11, none⟩ = false := by
  rw [← h4, ← z3]
  exact World.frozen?_alloc_new ..
 obtain ⟨W5, h5⟩ : ∃ W, W4.alloc (.cells #[.string ⟨([101] : Txt).toArray⟩] 9) = W := ⟨_, rfl⟩
 have z5 : W5.heap.size = w.heap.size + 1 + 1 + 1 + 1 + 1 + 1 := by rw [← h5, alloc_szs, z4]
 have b5 : Bel W4 W5 := by rw [← h5]; exact Bel.alloc (Bel.refl _) _
 have c5 : ∀ j u, [.string ⟨([101] : Txt).toArray⟩][j]? = some u → W5.cell? ⟨w.heap.size + 1 + 1 + 1 + 1 + 1, j, none⟩ = some u := fun j u e => by
  have := World.news_of_block (cs := #[.string ⟨([101] : Txt).toArray⟩]) (t := 9) (fr := (0, 0)) (heap_new W4 _) j u e
  rw [h5, z4] at this
  have ea : (⟨w.heap.size + 1 + 1 + 1 + 1 + 1, 0, none⟩ : Addr).add j = ⟨w.heap.size + 1 + 1 + 1 + 1 + 1, j, none⟩ := by unfold Addr.add; split <;> simp_all
  rw [ea] at this
  exact this
 obtain ⟨W6, h6⟩ : ∃ W, W5.alloc (.cells #[.string ⟨([109, 97, 105, 110] : Txt).toArray⟩, .slice (some ⟨w.heap.size + 1 + 1 + 1 + 1 + 1, 0, none⟩) 1 1, .int .i64 4] 61) = W := ⟨_, rfl⟩
 have z6 : W6.heap.size = w.heap.size + 1 + 1 + 1 + 1 + 1 + 1 + 1 := by rw [← h6, alloc_szs, z5]
 have b6 : Bel W5 W6 := by rw [← h6]; exact Bel.alloc (Bel.refl _) _
 have c6 : ∀ j u, [.string ⟨([109, 97, 105, 110] : Txt).toArray⟩, .slice (some ⟨w.heap.size + 1 + 1 + 1 + 1 + 1, 0, none⟩) 1 1, .int .i64 4][j]? = some u → W6.cell? ⟨w.heap.size + 1 + 1 + 1 + 1 + 1 + 1, j, none⟩ = some u := fun j u e => by
  have := World.news_of_block (cs := #[.string ⟨([109, 97, 105, 110] : Txt).toArray⟩, .slice (some ⟨w.heap.size + 1 + 1 + 1 + 1 + 1, 0, none⟩) 1 1, .int .i64 4]) (t := 61) (fr := (0, 0)) (heap_new W5 _) j u e
  rw [h6, z5] at this
  have ea : (⟨w.heap.size + 1 + 1 + 1 + 1 + 1 + 1, 0, none⟩ : Addr).add j = ⟨w.heap.size + 1 + 1 + 1 + 1 + 1 + 1, j, none⟩ := by unfold Addr.add; split <;> simp_all
  rw [ea] at this
  exact this
 have k6 : Bel W6 W6 := Bel.refl _
 have k5 : Bel W5 W6 := Bel.trans b6 k6
 have k4 : Bel W4 W6 := Bel.trans b5 k5
 have k3 : Bel W3 W6 := Bel.trans b4 k4
 have k2 : Bel W2 W6 := Bel.trans b3 k3
 have k1 : Bel W1 W6 := Bel.trans b2 k2
 have k0 : Bel W0 W6 := Bel.trans b1 k1
 rw [h0, h1, h2, h3, h4, h5, h6]
 have q0 := k0.cell' (c0 0 _ rfl)
 have q1 := k0.cell' (c0 1 _ rfl)
 refine bodyPost_ret (v := .agg #[.slice (some ⟨w.heap.size + 1 + 1 + 1 + 1, 0, none⟩) 5 5, .slice (some ⟨w.heap.size + 1 + 1 + 1 + 1 + 1 + 1, 0, none⟩) 1 1]) (by simp [results, Tryz.results49, go_sem, q0, q1]) rfl ?_
 refine ⟨_, _, _, _, _, _, rfl, ⟨fun j u e => k4.cell' (c4 j u e), fun j u e => k6.cell' (c6 j u e), k1.cell' (c1 0 _ rfl), k2.cell' (c2 0 _ rfl), k3.cell' (c3 0 _ rfl), k3.cell' (c3 1 _ rfl), k5.cell' (c5 0 _ rfl)⟩, Bel.trans b0 k0, by omega, (mod_froz (Mod.of_bel (F := fun _ => False) k4) (c4 11 _ rfl) (fun h => h)).trans f4, by omega, by omega, by omega, by omega, by omega⟩
end Syn
end Go.Proofs.YtcapkeaedpabjaaGreatDoor

/-
 Layer 9: the law's examples; the law Names.
-/
namespace Go.Proofs.YtcapkeaedpabjaaGreatDoor
open Go.RowKit Go.ChangeShapes Go.WideShapes Go.Maps
namespace Syn
theorem exC_set (a b c : Nat) (t : Txt) : exC a b c t = (exC a b c [120]).set 11 (.string ⟨t.toArray⟩) := rfl
theorem ExAt.set {w : World} {nb fb a b c p : Nat} (h : ExAt w nb fb a b c p [120]) (hne : nb ≠ fb ∧ nb ≠ a ∧ nb ≠ b ∧ nb ≠ c ∧ nb ≠ p) (t : Txt) : ExAt (w.setCell ⟨nb, 11, none⟩ (.string ⟨t.toArray⟩)) nb fb a b c p t := by
 obtain ⟨h1, h2, h3, h4, h5⟩ := hne
 have g : Mod (fun i => i = nb) w (w.setCell ⟨nb, 11, none⟩ (.string ⟨t.toArray⟩)) := (Mod.refl (fun i => i = nb) w).setCell (p := ⟨nb, 11, none⟩) (Or.inl rfl) _
 refine ⟨fun j u e => ?_, fun j u e => g.cell (h.fr j u e) (fun k => h1 k.symm), g.cell h.ka (fun k => h2 k.symm), g.cell h.kb (fun k => h3 k.symm), g.cell h.kc0 (fun k => h4 k.symm), g.cell h.kc1 (fun k => h4 k.symm), g.cell h.pp (fun k => h5 k.symm)⟩
 by_cases hj : j = 11
 ·subst hj
  have e2 : u = .string ⟨t.toArray⟩ := (Option.some.inj (show some (Value.string ⟨t.toArray⟩) = some u from e)).symm
  subst e2
  exact World.cell?_setCell_same _ _ _ (h.row 11 _ rfl)
 ·rw [exC_set, List.getElem?_set_ne (fun k => hj k.symm)] at e
  exact (World.cell?_setCell_other _ _ _ _ (by intro k; simp only [Addr.mk.injEq] at k; omega)).trans (h.row j u e)
theorem five_new (W : World) : RArg (W.alloc (.cells #[.int .i64 0, .int .i64 1, .int .i64 1, .int .i64 (-1), .int .i64 (-1)] 3)) (some ⟨W.heap.size, 0, none⟩) 5 [0, 1, 1, -1, -1] :=
 ⟨rfl, fun _ => ⟨W.heap.size, 0, rfl, fun i hi => by
  match i, hi with
  | 0, _ => exact World.cell?_alloc_new ..
  | 1, _ => exact World.cell?_alloc_new ..
  | 2, _ => exact World.cell?_alloc_new ..
  | 3, _ => exact World.cell?_alloc_new ..
  | 4, _ => exact World.cell?_alloc_new ..⟩⟩
set_option maxRecDepth 100000 in
set_option maxHeartbeats 8000000 in
theorem awake9_any (w : World) (hm : Lex.ML w) :
  Calls Tryz.prog 17 #[] w fun e w' => e = .returned (.bool true) ∧ Bel w w' := by
 have HM := Lib.hid hm
 have HE := Lib.hid (fun W => example_any W)
 have HC := Lib.hid (fun (t : Txt) (ht : t.length ≤ 1000) (W : World) (g : Bel w W) (nb fb a b c p : Nat) (h : ExAt W nb fb a b c p t) => scheck_any (some ⟨nb, 0, none⟩) (some ⟨fb, 0, none⟩) 5 5 1 1 (exL t) exF (ex_fit t ht) W (hm.on g) h.nodes h.funcs)
 have HS := Lib.hid (fun (W : World) (g : Bel w W) (nb fb a b c p : Nat) (h : ExAt W nb fb a b c p [120]) => slots_any (some ⟨nb, 0, none⟩) (some ⟨fb, 0, none⟩) 5 5 1 1 (exL [120]) exF (ex_fit _ (by decide)) W (hm.on g) h.nodes h.funcs)
 have HL := Lib.hid (fun (W : World) (g : Bel w W) (nb fb a b c p : Nat) (h : ExAt W nb fb a b c p [120]) => locals_any (some ⟨nb, 0, none⟩) (some ⟨fb, 0, none⟩) 5 5 1 1 (exL [120]) exF (ex_fit _ (by decide)) 0 W (hm.on g) h.nodes h.funcs)
 have HB := Lib.hid (fun W => blt_any [112, 117, 116] W)
 have hb : okN (bltI [112, 117, 116]) = .tuple #[.int .i64 3, .bool true] := by kernel_rfl
 have hl : locE (resG (exL [120]) exF) 1 0 = (2, 0) := by rw [ex_good]; decide
 rw [hb] at HB
 rw [ex_good] at HS
 rw [hl] at HL
 clear hm hb hl
 go_enter Tryz.func17, Tryz.ntmps17
 go_wp2_with fail
 refine (HE.out _).mono ?_
 rintro e w1 ⟨nb, fb, a, b, c, p, rfl, hX, g, -⟩
 have G1 := Lib.hid g
 have X1 := Lib.hid hX
 clear g hX
 go_wp2_with fail
 have hc := HC.out [120] (by decide) w1 G1.out nb fb a b c p X1.out
 rw [ex_good] at hc
 refine hc.mono ?_
 clear hc
 rintro e w2 ⟨rfl, g⟩
 have G2 := Lib.hid (Bel.trans G1.out g)
 clear g
 go_wp2_with fail
 refine (HE.out _).mono ?_
 rintro e w3 ⟨nb, fb, a, b, c, p, rfl, hX, g, -⟩
 have G3 := Lib.hid (Bel.trans G2.out g)
 have X3 := Lib.hid hX
 clear g hX
 go_wp2_with fail
 refine (HS.out w3 G3.out nb fb a b c p X3.out).mono ?_
 rintro e w4 ⟨sa, sm, scp, rfl, hsl, g⟩
 have G4 := Lib.hid (Bel.trans G3.out g)
 have S4 := Lib.hid hsl
 obtain rfl : 5 = sm := hsl.1
 clear g hsl
 go_wp2_with fail
 refine (HE.out _).mono ?_
 rintro e w5 ⟨nb, fb, a, b, c, p, rfl, hX, g, -⟩
 have G5 := Lib.hid (Bel.trans G4.out g)
 have S5 := Lib.hid (S4.out.on g)
 have X5 := Lib.hid hX
 clear g hX
 go_wp2_with fail
 refine (HL.out w5 G5.out nb fb a b c p X5.out).mono ?_
 rintro e w6 ⟨rfl, g⟩
 have G6 := Lib.hid (Bel.trans G5.out g)
 have S6 := Lib.hid (S5.out.on g)
 clear g
 go_wp2_with fail
 refine (HB.out w6).mono ?_
 rintro e w7 ⟨rfl, rfl⟩
 go_wp2_with fail
 refine (HE.out _).mono ?_
 rintro e w8 ⟨nb, fb, a, b, c, p, rfl, hX, g, hnb, hfz, hne⟩
 obtain ⟨V, hV⟩ : ∃ V, w8.alloc (.cells #[.slice (some ⟨nb, 0, none⟩) 5 5, .slice (some ⟨fb, 0, none⟩) 1 1] 25) = V := ⟨_, rfl⟩
 have B8 : Bel w8 V := by rw [← hV]; exact Bel.alloc (Bel.refl _) _
 obtain ⟨n0, n1⟩ := two_new w8 (.slice (some ⟨nb, 0, none⟩) 5 5) (.slice (some ⟨fb, 0, none⟩) 1 1) 25
 rw [hV] at n0 n1
 have XV := hX.on B8
 have e11 : V.cell? ⟨nb, 11, none⟩ = some (.string ⟨([120] : Txt).toArray⟩) := XV.row 11 _ rfl
 have f11 : V.frozen? ⟨nb, 11, none⟩ = false := (mod_froz (Mod.of_bel (F := fun _ => False) B8) (hX.row 11 _ rfl) (fun h => h)).trans hfz
 have hn8 : nb ≠ w8.heap.size := fun h => by
  have := World.block_lt_of_cell? w8 _ (hX.row 11 _ rfl)
  simp only at this
  omega
 have M9 : Bel w7 (V.setCell ⟨nb, 11, none⟩ (.string ⟨([121] : Txt).toArray⟩)) := Mod.bel_of (Bel.trans g B8) ((Mod.refl (fun i => i = nb) V).setCell (p := ⟨nb, 11, none⟩) (Or.inl rfl) _) (fun i h => by omega)
 have X9 := Lib.hid (XV.set hne [121])
 have G9 := Lib.hid (Bel.trans G6.out M9)
 have S9 := Lib.hid (S6.out.on M9)
 have m0 : (V.setCell ⟨nb, 11, none⟩ (.string ⟨#[121]⟩)).cell? ⟨w8.heap.size, 0, none⟩ = some (.slice (some ⟨nb, 0, none⟩) 5 5) := (World.cell?_setCell_other _ _ _ _ (by simp)).trans n0
 have m1 : (V.setCell ⟨nb, 11, none⟩ (.string ⟨#[121]⟩)).cell? ⟨w8.heap.size, 1, none⟩ = some (.slice (some ⟨fb, 0, none⟩) 1 1) := (World.cell?_setCell_other _ _ _ _ (by simp)).trans n1
 obtain ⟨U, hU⟩ : ∃ U, V.setCell ⟨nb, 11, none⟩ (.string ⟨#[121]⟩) = U := ⟨_, rfl⟩
 have hU2 : V.setCell ⟨nb, 11, none⟩ (.string ⟨([121] : Txt).toArray⟩) = U := hU
 rw [hU2] at X9 G9 S9
 rw [← hV] at m0 m1 e11 f11 n0 n1 hU
 have HU := Lib.hid hU
 clear hX g hnb hfz hne B8 XV M9 hV hn8 hU hU2
 have hc := HC.out [121] (by decide) U G9.out nb fb a b c p X9.out
 rw [ex_bad.1, ex_bad.2] at hc
 have HC2 := Lib.hid hc
 have HQ := Lib.hid (fun (W : World) (h : RArg W sa 5 [0, 1, 1, -1, -1]) => equal9_any sa (some ⟨W.heap.size, 0, none⟩) 5 5 scp 5 [0, 1, 1, -1, -1] [0, 1, 1, -1, -1] (by omega) (by omega) (W.alloc (.cells #[.int .i64 0, .int .i64 1, .int .i64 1, .int .i64 (-1), .int .i64 (-1)] 3)) (h.on (Bel.alloc (Bel.refl _) _)) (five_new W))
 have hd5 : decide (([0, 1, 1, -1, -1] : List Int) = [0, 1, 1, -1, -1]) = true := by decide
 rw [hd5] at HQ
 clear hc hd5
 go_wp2_with fail
 rw [HU.out]
 refine HC2.out.mono ?_
 rintro e w10 ⟨rfl, g⟩
 have G10 := Lib.hid (Bel.trans G9.out g)
 have S10 := Lib.hid (S9.out.on g)
 clear g n0 n1 m0 m1 e11 f11
 go_wp2_with fail
 refine (HQ.out w10 S10.out).mono ?_
 rintro e w11 ⟨rfl, g⟩
 have G11 := Lib.hid (Bel.trans (Bel.alloc G10.out _) g)
 clear g
 go_wp2_with fail
 go_ret
 exact ⟨rfl, G11.out⟩
end Syn
end Go.Proofs.YtcapkeaedpabjaaGreatDoor

/-
 Layer 9: the law's small and right.
-/
namespace Go.Proofs.YtcapkeaedpabjaaGreatDoor
open Go.RowKit Go.ChangeShapes Go.WideShapes Go.Maps
namespace Syn
structure SmallP (L : List Nd) (F : List Fw) : Prop where
 hn : L.length ≤ 200
 hk : F.length ≤ 20
 nd : ∀ x ∈ L, x.kids.length ≤ 100 ∧ x.keys.length ≤ 100
 fn : ∀ f ∈ F, f.params.length ≤ 20
/-- What small says. -/
def SmPost (w : World) (L : List Nd) (F : List Fw) (e : Ending) (w' : World) : Prop := ∃ b, e = .returned (.bool b) ∧ (b = true → SmallP L F) ∧ Bel w w'
set_option maxRecDepth 100000 in
set_option maxHeartbeats 8000000 in
theorem small_any (no fo : Option Addr) (n nc k fc : Nat) (L : List Nd) (F : List Fw) (hn : n ≤ 4611686018427387904) (hk : k ≤ 4611686018427387904) (w : World) (hA : NArg w no n L) (hF : FArg w fo k F) (hwf : WfN L) (hwF : ∀ x ∈ F, x.params.length ≤ 4611686018427387904) :
  Calls Tryz.prog 16 #[.agg #[.slice no n nc, .slice fo k fc]] w (SmPost w L F) := by
 obtain ⟨V, hV⟩ : ∃ V, w.alloc (.cells #[.slice no n nc, .slice fo k fc] 25) = V := ⟨_, rfl⟩
 have BV : Bel w V := by rw [← hV]; exact Bel.alloc (Bel.refl w) _
 obtain ⟨v0, v1⟩ : V.cell? ⟨w.heap.size, 0, none⟩ = some (.slice no n nc) ∧ V.cell? ⟨w.heap.size, 1, none⟩ = some (.slice fo k fc) := by
  rw [← hV]
  exact ⟨World.cell?_alloc_new .., World.cell?_alloc_new ..⟩
 have HBV := Lib.hid BV
 have HA := Lib.hid (hA.on BV)
 have HF := Lib.hid (hF.on BV)
 have HLn := Lib.hid hA.1
 have HFk := Lib.hid hF.1
 have HV := Lib.hid hV
 have Hwf := Lib.hid hwf
 have HwF := Lib.hid hwF
 by_cases c1 : n ≤ 200
 rotate_left
 ·have c1' : (n : Int) > 200 := by omega
  go_enter Tryz.func16, Tryz.ntmps16
  go_wp2_with fail
  go_ret
  exact ⟨false, rfl, (fun h => by cases h), HBV.out⟩
 have c1' : ¬ (n : Int) > 200 := by omega
 by_cases c2 : k ≤ 20
 rotate_left
 ·have c2' : (k : Int) > 20 := by omega
  go_enter Tryz.func16, Tryz.ntmps16
  go_wp2_with fail
  go_ret
  exact ⟨false, rfl, (fun h => by cases h), HBV.out⟩
 have c2' : ¬ (k : Int) > 20 := by omega
 have HV0 := Lib.hid v0
 have HV1 := Lib.hid v1
 clear hA hF hwf hwF BV hV v0 v1
 go_enter Tryz.func16, Tryz.ntmps16
 go_wp2_with fail
 go_loopw [18] (fun iv wr => ∃ j : Nat, iv = .int .i64 (j : Int) ∧ j ≤ n ∧ wr = V ∧ Hid (∀ i (h : i < L.length), i < j → L[i].kids.length ≤ 100 ∧ L[i].keys.length ≤ 100)) (fun iv _ => n - (intOf iv).toNat)
 case atStart => exact ⟨0, rfl, Nat.zero_le _, HV.out, Lib.hid (fun i h h0 => absurd h0 (Nat.not_lt_zero i))⟩
 case round =>
  obtain ⟨j, rfl, hj, hw, HI⟩ := hrel
  obtain rfl := hw.symm
  have v0 := HV0.out
  have v1 := HV1.out
  rcases Nat.lt_or_ge j n with hjn | hjn
  ·have hjl : j < L.length := by rw [HLn.out]; exact hjn
   obtain ⟨b, off, rfl, hcs⟩ := HA.out.2 (by omega)
   obtain ⟨v, hv, hcc⟩ := hcs j hjl
   obtain ⟨hw1, hw2, hw3⟩ := Hwf.out L[j] (List.getElem_mem hjl)
   have e1 : L[j].kids.length = v.jn := hv.kids.1
   have e2 : L[j].keys.length = v.kn := by have := hv.keys.1; rw [List.length_map] at this; exact this
   obtain ⟨vk, vs, vi, ko, kn, kc, jo, jn, jc⟩ := v
   dsimp only at e1 e2
   have c3 : V.cell? ⟨b, off + j * 5 + 3, none⟩ = some (.slice ko kn kc) := by simpa using hcc 3 _ rfl
   have c4 : V.cell? ⟨b, off + j * 5 + 4, none⟩ = some (.slice jo jn jc) := by simpa using hcc 4 _ rfl
   have hjn' : (j : Int) < (n : Int) := by omega
   have hj0 : (0 : Int) ≤ (j : Int) := by omega
   by_cases d1 : jn ≤ 100
   ·by_cases d2 : kn ≤ 100
    ·have d1' : ¬ (jn : Int) > 100 := by omega
     have d2' : ¬ (kn : Int) > 100 := by omega
     have HI2 := Lib.hid (show ∀ i (h : i < L.length), i < j + 1 → L[i].kids.length ≤ 100 ∧ L[i].keys.length ≤ 100 from fun i h h0 => by
      rcases Nat.lt_or_ge i j with q | q
      ·exact HI.out i h q
      ·obtain rfl : i = j := by omega
       exact ⟨by omega, by omega⟩)
     clear hcs hcc hv e1 e2 hw1 hw2 hw3
     go_wp2_with fail
     go_round
     case rel => exact ⟨j + 1, by go_num, by omega, by first | rfl | trivial, HI2⟩
     case measure => first | (simp [intOf]; done) | (simp [intOf]; omega)
    ·have d1' : ¬ (jn : Int) > 100 := by omega
     have d2' : (kn : Int) > 100 := by omega
     clear hcs hcc hv e1 e2 hw1 hw2 hw3
     go_wp2_with fail
     go_ret
     exact ⟨false, rfl, (fun h => by cases h), HBV.out⟩
   ·have d1' : (jn : Int) > 100 := by omega
    clear hcs hcc hv e1 e2 hw1 hw2 hw3
    go_wp2_with fail
    go_ret
    exact ⟨false, rfl, (fun h => by cases h), HBV.out⟩
  ·obtain rfl : j = n := by omega
   have HL := Lib.hid (show ∀ x ∈ L, x.kids.length ≤ 100 ∧ x.keys.length ≤ 100 from fun x hx => by
    obtain ⟨i, h, rfl⟩ := List.mem_iff_getElem.1 hx
    exact HI.out i h (by rw [← HLn.out]; exact h))
   go_wp2_with fail
   go_loopw [43] (fun iv wr => ∃ q : Nat, iv = .int .i64 (q : Int) ∧ q ≤ k ∧ wr = V ∧ Hid (∀ i (h : i < F.length), i < q → F[i].params.length ≤ 20)) (fun iv _ => k - (intOf iv).toNat)
   case atStart => exact ⟨0, rfl, Nat.zero_le _, rfl, Lib.hid (fun i h h0 => absurd h0 (Nat.not_lt_zero i))⟩
   case round =>
    obtain ⟨q, rfl, hq, hw, HJ⟩ := hrel
    obtain rfl := hw.symm
    rcases Nat.lt_or_ge q k with hqk | hqk
    ·have hql : q < F.length := by rw [HFk.out]; exact hqk
     obtain ⟨b, off, rfl, hcs⟩ := HF.out.2 (by omega)
     obtain ⟨⟨vs, po, pk, pc, vj⟩, hv, hcc⟩ := hcs q hql
     have e1 : F[q].params.length = pk := by have := hv.ps.1; rw [List.length_map] at this; exact this
     have hw1 := HwF.out F[q] (List.getElem_mem hql)
     have c1 : V.cell? ⟨b, off + q * 3 + 1, none⟩ = some (.slice po pk pc) := by simpa using hcc 1 _ rfl
     have hqk' : (q : Int) < (k : Int) := by omega
     have hq0 : (0 : Int) ≤ (q : Int) := by omega
     by_cases d1 : pk ≤ 20
     ·have d1' : ¬ (pk : Int) > 20 := by omega
      have HJ2 := Lib.hid (show ∀ i (h : i < F.length), i < q + 1 → F[i].params.length ≤ 20 from fun i h h0 => by
       rcases Nat.lt_or_ge i q with r | r
       ·exact HJ.out i h r
       ·obtain rfl : i = q := by omega
        omega)
      clear hcs hcc hv e1 hw1
      go_wp2_with fail
      go_round
      case rel => exact ⟨q + 1, by go_num, by omega, by first | rfl | trivial, HJ2⟩
      case measure => first | (simp [intOf]; done) | (simp [intOf]; omega)
     ·have d1' : (pk : Int) > 20 := by omega
      clear hcs hcc hv e1 hw1
      go_wp2_with fail
      go_ret
      exact ⟨false, rfl, (fun h => by cases h), HBV.out⟩
    ·obtain rfl : q = k := by omega
     go_wp2_with fail
     go_ret
     exact ⟨true, rfl, fun _ => ⟨by rw [HLn.out]; exact c1, by rw [HFk.out]; exact c2, HL.out, fun f hf => by
      obtain ⟨i, h, rfl⟩ := List.mem_iff_getElem.1 hf
      exact HJ.out i h (by rw [← HFk.out]; exact h)⟩, HBV.out⟩
end Syn
end Go.Proofs.YtcapkeaedpabjaaGreatDoor

/-
 Layer 9: the law's right, where a slot is right.
-/
namespace Go.Proofs.YtcapkeaedpabjaaGreatDoor
open Go.RowKit Go.ChangeShapes Go.WideShapes Go.Maps
set_option linter.unusedVariables false
namespace Syn
end Syn
end Go.Proofs.YtcapkeaedpabjaaGreatDoor

/-
 Layer 9: where an error stands; right at a place that is right; Valid.
-/
namespace Go.Proofs.YtcapkeaedpabjaaGreatDoor
open Go.RowKit Go.ChangeShapes Go.WideShapes Go.Maps
namespace Syn
def lw (low : Nat) (F : List Fw) : Nat → Nat
 | 0 => low
 | p + 1 => match F[p]? with | some x => x.body.toNat + 1 | none => 0
theorem lw_zero (F : List Fw) (q : Nat) : lw 0 F q = lowOf F q := by cases q <;> rfl
end Syn
end Go.Proofs.YtcapkeaedpabjaaGreatDoor

/-
 Layer 9: the functions that a function calls.
-/
namespace Go.Proofs.YtcapkeaedpabjaaGreatDoor
open Go.RowKit Go.ChangeShapes Go.WideShapes Go.Sort
namespace Syn
theorem lw_le {n : Nat} : ∀ (F : List Fw) (low : Nat), Asc n low F → ∀ (q : Nat) (f : Fw), F[q]? = some f → (lw low F q : Int) ≤ f.body
 | [], _, _, q, f, h => by simp at h
 | g :: F, low, hA, q, f, h => by
  obtain ⟨a1, a2, a3⟩ := hA
  cases q with
  | zero =>
   simp only [List.getElem?_cons_zero, Option.some.injEq] at h
   subst h
   exact a1
  | succ q =>
   rw [List.getElem?_cons_succ] at h
   have := lw_le F _ a3 q f h
   have e : lw low (g :: F) (q + 1) = lw (g.body.toNat + 1) F q := by
    cases q with
    | zero => rfl
    | succ q => rfl
   rw [e]
   exact this
/-- The functions that these nodes call, in their order. -/
def calN (F : List Fw) : List Nd → List Int
 | [] => []
 | x :: r => if x.k = 11 ∧ 0 ≤ findI F x.s then findI F x.s :: calN F r else calN F r
def csI (zs : List Int) : List Int := Lib.compact (zs.mergeSort fun x y => decide (x ≤ y))
def callsL (L : List Nd) (F : List Fw) (q : Nat) : List Int := match F[q]? with
 | some f => csI (calN F ((L.drop (lowOf F q)).take (f.body.toNat + 1 - lowOf F q)))
 | none => []
theorem compactI_inv (zs : List Int) (hs : zs.Pairwise (fun x y => x ≤ y)) : ∀ m, m ≤ zs.length → (Lib.compactUpTo zs.toArray m).Pairwise (· < ·) ∧ ∀ x, x ∈ Lib.compactUpTo zs.toArray m ↔ x ∈ zs.take m
 | 0, _ => by simp [Lib.compactUpTo]
 | m + 1, h => by
  obtain ⟨h1, h2⟩ := compactI_inv zs hs m (by omega)
  rw [Lib.compactUpTo_succ]
  have hm : m < zs.length := by omega
  have e : zs.toArray[m]! = zs[m] := by simp [hm]
  have hle : ∀ x ∈ zs.take m, x ≤ zs[m] := fun x hx => by
   obtain ⟨j, hj, rfl⟩ := List.getElem_of_mem hx
   rw [List.getElem_take]
   rw [List.length_take] at hj
   exact List.pairwise_iff_getElem.1 hs j m (by omega) hm (by omega)
  cases hk : Lib.keeps zs.toArray m with
  | true =>
   rw [if_pos rfl, e]
   constructor
   ·refine List.pairwise_append.2 ⟨h1, List.pairwise_singleton .., fun a ha b hb => ?_⟩
    rw [List.mem_singleton] at hb
    subst hb
    have ha' := (h2 a).1 ha
    have hl := hle a ha'
    rcases Int.lt_or_eq_of_le hl with q | he
    ·exact q
    exfalso
    simp only [Lib.keeps, decide_eq_true_eq, e] at hk
    obtain ⟨j, hj, rfl⟩ := List.getElem_of_mem ha'
    rw [List.length_take] at hj
    rw [List.getElem_take] at he
    rcases hk with hk | hk
    ·omega
    ·have e2 : zs.toArray[m - 1]! = zs[m - 1] := by simp [show m - 1 < zs.length by omega]
     rw [e2] at hk
     have hmid : zs[j] ≤ zs[m - 1] := by
      rcases Nat.lt_or_ge j (m - 1) with g | g
      ·exact List.pairwise_iff_getElem.1 hs j (m - 1) (by omega) (by omega) g
      ·obtain rfl : j = m - 1 := by omega
       exact Int.le_refl _
     have hup := List.pairwise_iff_getElem.1 hs (m - 1) m (by omega) hm (by omega)
     omega
   ·intro x
    rw [List.mem_append, h2, List.take_succ_eq_append_getElem hm, List.mem_append]
  | false =>
   rw [if_neg (by decide), List.append_nil]
   refine ⟨h1, fun x => ?_⟩
   rw [h2, List.take_succ_eq_append_getElem hm, List.mem_append, List.mem_singleton]
   constructor
   ·exact Or.inl
   ·rintro (g | rfl)
    ·exact g
    ·simp only [Lib.keeps, decide_eq_false_iff_not, not_or, Decidable.not_not, e] at hk
     have e2 : zs.toArray[m - 1]! = zs[m - 1] := by simp [show m - 1 < zs.length by omega]
     rw [hk.2, e2]
     exact List.mem_take_iff_getElem.2 ⟨m - 1, by omega, rfl⟩
theorem sortI_pw (zs : List Int) : (zs.mergeSort fun x y => decide (x ≤ y)).Pairwise (fun x y => x ≤ y) := by
 have := List.pairwise_mergeSort (le := fun (x y : Int) => decide (x ≤ y)) (fun a b c h1 h2 => by
  simp only [decide_eq_true_eq] at *
  exact Int.le_trans h1 h2) (fun a b => by
  simp only [Bool.or_eq_true, decide_eq_true_eq]
  exact Int.le_total a b) zs
 exact this.imp fun h => of_decide_eq_true h
theorem csI_is (zs : List Int) : (csI zs).Pairwise (· < ·) ∧ ∀ x, x ∈ csI zs ↔ x ∈ zs := by
 obtain ⟨h1, h2⟩ := compactI_inv _ (sortI_pw zs) _ (Nat.le_refl _)
 refine ⟨h1, fun x => ?_⟩
 have := h2 x
 rw [List.take_length] at this
 exact this.trans List.mem_mergeSort
/-- What callsOf says. -/
def CsPost (w : World) (l : List Int) (e : Ending) (w' : World) : Prop := ∃ (a : Option Addr) (m c : Nat), e = .returned (.slice a m c) ∧ RArg w' a m l ∧ Bel w w' ∧ (0 < m → ∀ b off sp, a = some ⟨b, off, sp⟩ → w.heap.size ≤ b)
theorem left_int {w w1 : World} {g cap n nn q : Nat} {os : Array Obj} {zs : List Int} (hown : w1.ownsRow w.heap.size 3 1 (.slice (some ⟨g, 0, none⟩) n cap) n (zs.map (Value.int .i64))) (hbel : Below w.heap.size w w1) (hbg : w.heap.size ≤ g) (hlen : zs.length = n) :
  CsPost w (csI zs) (.returned (.slice (some ⟨g, 0, none⟩) (Lib.compact (zs.mergeSort fun x y => decide (x ≤ y))).length cap))
   (putRow (Value.int .i64) (Sort.ahead (grow (putRow (Value.int .i64) (Sort.ahead w1 nn) g 0 (zs.mergeSort fun x y => decide (x ≤ y)).toArray) os) q) g 0 (Lib.compact (zs.mergeSort fun x y => decide (x ≤ y)) ++ List.replicate (n - (Lib.compact (zs.mergeSort fun x y => decide (x ≤ y))).length) 0).toArray) := by
 have hl2 : (zs.mergeSort fun x y => decide (x ≤ y)).length = zs.length := List.length_mergeSort zs
 have hle : (Lib.compact (zs.mergeSort fun x y => decide (x ≤ y))).length ≤ (zs.mergeSort fun x y => decide (x ≤ y)).length := by
  unfold Lib.compact Lib.compactUpTo
  rw [List.length_map]
  have := List.length_filter_le (Lib.keeps (zs.mergeSort fun x y => decide (x ≤ y)).toArray) (List.range (zs.mergeSort fun x y => decide (x ≤ y)).length)
  rw [List.length_range] at this
  exact this
 subst hlen
 rcases hown.2 with ⟨h0, _⟩ | ⟨g', cap', cur, hv, hbase, hb, h1, h2, h3, h4⟩
 ·cases h0
 cases hv
 have hs := ownsRow_sortedI (n := nn) (os := os) (ts := zs.mergeSort fun x y => decide (x ≤ y)) hl2 hbase hb h1 h2 h3
 have hc := Lib.ownsRow_putRow (q := q) (k := (Lib.compact (zs.mergeSort fun x y => decide (x ≤ y))).length) (ys := Lib.compact (zs.mergeSort fun x y => decide (x ≤ y)) ++ List.replicate (zs.length - (Lib.compact (zs.mergeSort fun x y => decide (x ≤ y))).length) 0) hs (by simp; omega) (by omega)
 rw [List.take_left] at hc
 exact ⟨_, _, _, rfl, (own_zarg hc).rarg, Lib.below_putRow (hbel.grown (grownBy_sortedI _) hbel.size (fun j hj => by cases hj; exact hbase)) hbg, fun _ b off sp e => by cases e; exact hbg⟩
end Syn
end Go.Proofs.YtcapkeaedpabjaaGreatDoor

/-
 Layer 9: the functions that a function calls: callsOf, Calls.
-/
namespace Go.Proofs.YtcapkeaedpabjaaGreatDoor
open Go.RowKit Go.ChangeShapes Go.WideShapes Go.Sort
namespace Syn
theorem calN_yes {F : List Fw} {x : Nd} {r : List Nd} (h : x.k = 11 ∧ 0 ≤ findI F x.s) : calN F (x :: r) = findI F x.s :: calN F r := by rw [calN, if_pos h]
theorem calN_no {F : List Fw} {x : Nd} {r : List Nd} (h : ¬ (x.k = 11 ∧ 0 ≤ findI F x.s)) : calN F (x :: r) = calN F r := by rw [calN, if_neg h]
theorem csI_nil : csI [] = [] := List.eq_nil_iff_forall_not_mem.2 fun x h => by
 have := ((csI_is []).2 x).1 h
 cases this
theorem rarg_nil' (o : Option Addr) (w : World) : RArg w o 0 [] := ⟨rfl, fun h => absurd h (Nat.lt_irrefl 0)⟩
set_option maxRecDepth 100000 in
set_option maxHeartbeats 8000000 in
theorem callsOf_any (no fo : Option Addr) (n nc k fc : Nat) (L : List Nd) (F : List Fw) (q : Nat) (hn : n ≤ 50000) (hnc : n ≤ nc) (hk : k ≤ 1000) (hq : q < k) (hasc : Asc n 0 F) (w : World) (hA : NArg w no n L) (hF : FArg w fo k F) :
  Calls Tryz.prog 61 #[.agg #[.slice no n nc, .slice fo k fc], .int .i64 (q : Int)] w (CsPost w (callsL L F q)) := by
 have hLn := hA.1
 have hFk := hF.1
 have hql : q < F.length := by omega
 obtain ⟨f, hfe⟩ : ∃ f, F[q]? = some f := ⟨_, List.getElem?_eq_getElem hql⟩
 have hfq : F[q] = f := by have := hfe; rw [List.getElem?_eq_getElem hql] at this; exact Option.some.inj this
 have hbd := lowOf_ok hasc q hql
 rw [hfq] at hbd
 obtain ⟨z, hzb⟩ : ∃ z : Nat, f.body = (z : Int) := ⟨f.body.toNat, by omega⟩
 have hlow := lw_le F 0 hasc q f hfe
 rw [lw_zero, hzb] at hlow
 obtain ⟨low, hlo⟩ : ∃ low, lowOf F q = low := ⟨_, rfl⟩
 obtain ⟨N0, hN0⟩ : ∃ N0, (L.drop low).take (z + 1 - low) = N0 := ⟨_, rfl⟩
 have hcl : callsL L F q = csI (calN F N0) := by
  unfold callsL
  rw [hfe]
  simp only
  rw [hlo, hzb, Int.toNat_natCast, hN0]
 rw [hcl]
 obtain ⟨X, hX⟩ : ∃ X, calN F N0 = X := ⟨_, rfl⟩
 have HX := Lib.hid (show [] ++ calN F (N0.drop 0) = X from hX)
 rw [hX]
 clear hX
 rw [hlo] at hlow
 have hzn : z < n := by have := hbd.2; rw [hzb] at this; omega
 obtain ⟨cnt, hcnt⟩ : ∃ cnt, z + 1 - low = cnt := ⟨_, rfl⟩
 have HN := Lib.hid (show ∀ j, j < cnt → ∃ h : low + j < L.length, N0.drop j = L[low + j] :: N0.drop (j + 1) from fun j h => ⟨by omega, by
  rw [← hN0, List.drop_take, List.drop_drop, List.drop_eq_getElem_cons (by omega), show z + 1 - low - j = (z - low - j) + 1 by omega, List.take_succ_cons, List.drop_take, List.drop_drop, show low + (j + 1) = low + j + 1 by omega, show z + 1 - low - (j + 1) = z - low - j by omega]⟩)
 have HNe := Lib.hid (show N0.drop cnt = [] by rw [← hN0, ← hcnt, List.drop_take]; simp)
 obtain ⟨nb, nf, rfl, hcs⟩ := hA.2 (by omega)
 obtain ⟨b, off, rfl, hcf⟩ := hF.2 (by omega)
 obtain ⟨⟨fs, po, pk, pc, fj⟩, hfv, hfc⟩ := hcf q hql
 rw [hfq] at hfv
 obtain ⟨V, hV⟩ : ∃ V, w.alloc (.cells #[.slice (some ⟨nb, nf, none⟩) n nc, .slice (some ⟨b, off, none⟩) k fc] 25) = V := ⟨_, rfl⟩
 have BV : Bel w V := by rw [← hV]; exact Bel.alloc (Bel.refl _) _
 obtain ⟨v0, v1⟩ : V.cell? ⟨w.heap.size, 0, none⟩ = some (.slice (some ⟨nb, nf, none⟩) n nc) ∧ V.cell? ⟨w.heap.size, 1, none⟩ = some (.slice (some ⟨b, off, none⟩) k fc) := by
  rw [← hV]
  exact ⟨World.cell?_alloc_new .., World.cell?_alloc_new ..⟩
 have v2 : V.cell? ⟨b, off + q * 3 + 2, none⟩ = some (.int .i64 (z : Int)) := BV.cell' (by have := hfc 2 _ rfl; rw [hfv.j, hzb] at this; simpa using this)
 obtain ⟨d, hd⟩ : ∃ d, nc - low = d := ⟨_, rfl⟩
 obtain ⟨zz, hzz⟩ : ∃ zz, z + 1 = zz := ⟨_, rfl⟩
 have hw1 : IntKind.i64.wrap ((z : Int) + 1) = (zz : Int) := by rw [IntKind.wrap_i64]; omega
 have hw2 : (zz : Int) ≤ (nc : Int) := by omega
 have hw3 : low ≤ zz := by omega
 have hw4 : zz - low = cnt := by omega
 have hw5 : ¬ nc = low := by omega
 obtain ⟨C, hC⟩ : ∃ C : World → Prop, C = fun W => W.cell? ⟨w.heap.size, 0, none⟩ = some (.slice (some ⟨nb, nf, none⟩) n nc) ∧ W.cell? ⟨w.heap.size, 1, none⟩ = some (.slice (some ⟨b, off, none⟩) k fc) ∧ W.cell? ⟨b, off + q * 3 + 2, none⟩ = some (.int .i64 (z : Int)) ∧ Bel V W := ⟨_, rfl⟩
 have cV : C V.drew := by rw [hC]; exact ⟨v0, v1, v2, Below.drew (Bel.refl _)⟩
 have cO : ∀ W, C W → W.cell? ⟨w.heap.size, 0, none⟩ = some (.slice (some ⟨nb, nf, none⟩) n nc) ∧ W.cell? ⟨w.heap.size, 1, none⟩ = some (.slice (some ⟨b, off, none⟩) k fc) ∧ W.cell? ⟨b, off + q * 3 + 2, none⟩ = some (.int .i64 (z : Int)) ∧ Bel V W := fun W h => by rw [hC] at h; exact h
 have cK : ∀ W W', C W → Bel W W' → C W' := fun W W' h g => by
  rw [hC] at h ⊢
  exact ⟨g.cell' h.1, g.cell' h.2.1, g.cell' h.2.2.1, Bel.trans h.2.2.2 g⟩
 have H1 := Lib.hid (fun W (h : C W) => (firstNode_any (some ⟨nb, nf, none⟩) (some ⟨b, off, none⟩) n nc k fc F (by omega) (by omega) (fun q h => by have := lowOf_ok hasc q h; exact ⟨by omega, this.2⟩) q hq W ((hF.on BV).on (cO W h).2.2.2)).mono fun e w' r => show _ ∧ C w' from ⟨r.1, cK W w' h r.2⟩)
 rw [hlo] at H1
 have HC0 := Lib.hid (fun W h => (cO W h).1)
 have HC1 := Lib.hid (fun W h => (cO W h).2.1)
 have HC2 := Lib.hid (fun W h => (cO W h).2.2.1)
 have HC3 := Lib.hid (fun W h => (cO W h).2.2.2)
 have HcV := Lib.hid cV
 have HV := Lib.hid hV
 have HBV := Lib.hid BV
 have Hv0 := Lib.hid v0
 have Hv1 := Lib.hid v1
 have HA := Lib.hid hcs
 have HFi := Lib.hid (fun W (g : Bel V W) (s : Txt) => find_any (some ⟨nb, nf, none⟩) (some ⟨b, off, none⟩) n nc k fc F s (by omega) W ((hF.on BV).on g))
 have hq1 : (q : Int) < (k : Int) := by omega
 have hq0 : (0 : Int) ≤ (q : Int) := by omega
 have Hcz := Lib.hid (show cnt ≤ 50000 by omega)
 clear hC cV cO cK hA hF hcf hfc hfv hcs hN0 hcl hbd hzb hlow hfe hfq BV hV v0 v1 v2 hlo
 go_enter Tryz.func61, Tryz.ntmps61
 go_wp2_with fail
 rw [HV.out]
 refine region_held (C := C) (by kernel_rfl) (by kernel_rfl) HcV.out ?_
 repeat (refine wpQuiet_step (fun K hK => ?_); go_simp; first | (refine hK _ ?_; clear hK K) | (apply Exists.intro; refine ⟨fun V hV => ?_, hK _ ?_⟩; (· (first | with_reducible rfl | with_reducible exact H1.out V hV | (have z0 := HC0.out V hV; have z1 := HC1.out V hV; have z2 := HC2.out V hV; go_simp; first | with_reducible rfl | with_reducible exact ⟨rfl, rfl⟩))); clear hK K))
 refine wpQuiet_nil ?_
 intro w9 hw9
 have B9 := Lib.hid (HC3.out w9 hw9)
 clear hw9 hw1 hw2 hw3 hw4 hw5 hd
 go_wp2_with fail
 have hR0 := Lib.hid (Rwb.nil (fun _ => False) V.heap.size w9)
 go_loopw [5, 23] (fun av iv wr => ∃ (j m c : Nat) (a : Option Addr) (acc : List Int), av = .slice a m c ∧ iv = .int .i64 (j : Int) ∧ j ≤ cnt ∧ m ≤ j ∧ Hid (Rwb (fun _ => False) V.heap.size wr a m c acc none 0 0 []) ∧ Hid (Bel V wr) ∧ Hid (acc ++ calN F (N0.drop j) = X)) (fun _ iv _ => cnt - (intOf iv).toNat)
 case atStart => exact ⟨0, 0, 0, none, [], rfl, rfl, Nat.zero_le _, Nat.zero_le _, hR0, B9, HX⟩
 case round =>
  obtain ⟨j, m, c, a, acc, rfl, rfl, hj, hmj, HR, HB, HM⟩ := hrel
  rename World => wr
  have v0 := HB.out.cell' Hv0.out
  have v1 := HB.out.cell' Hv1.out
  rcases Nat.lt_or_ge j cnt with hjc | hjc
  ·obtain ⟨hjL, hN⟩ := HN.out j hjc
   obtain ⟨v, hv, hcc⟩ := HA.out (low + j) hjL
   have hM := HM.out
   rw [hN] at hM
   obtain ⟨x, hx⟩ : ∃ x, L[low + j] = x := ⟨_, rfl⟩
   rw [hx] at hv hM
   have hvk := hv.k
   have hvs := hv.s
   obtain ⟨vk, vs, vi, ko, kn, kc, jo, jn, jc⟩ := v
   dsimp only at hvk hvs
   subst hvk hvs
   have ea : nf + (low + j) * 5 = nf + low * 5 + j * 5 := by omega
   rw [ea] at hcc
   have BW := Bel.trans HBV.out HB.out
   have c0 : wr.cell? ⟨nb, nf + low * 5 + j * 5, none⟩ = some (.int .i64 x.k) := BW.cell' (by simpa using hcc 0 _ rfl)
   have c1 : wr.cell? ⟨nb, nf + low * 5 + j * 5 + 1, none⟩ = some (.string ⟨x.s.toArray⟩) := BW.cell' (by simpa using hcc 1 _ rfl)
   have c2 : wr.cell? ⟨nb, nf + low * 5 + j * 5 + 2, none⟩ = some (.int .i64 vi) := BW.cell' (by simpa using hcc 2 _ rfl)
   have c3 : wr.cell? ⟨nb, nf + low * 5 + j * 5 + 3, none⟩ = some (.slice ko kn kc) := BW.cell' (by simpa using hcc 3 _ rfl)
   have c4 : wr.cell? ⟨nb, nf + low * 5 + j * 5 + 4, none⟩ = some (.slice jo jn jc) := BW.cell' (by simpa using hcc 4 _ rfl)
   have hj1 : (j : Int) < (cnt : Int) := by omega
   have hj0 : (0 : Int) ≤ (j : Int) := by omega
   have HBl := Lib.hid (show Bel wr (wr.alloc (.cells #[.int .i64 x.k, .string ⟨x.s.toArray⟩, .int .i64 vi, .slice ko kn kc, .slice jo jn jc] 65)) from Bel.alloc (Bel.refl _) _)
   have p0 := HBl.out.cell' v0
   have p1 := HBl.out.cell' v1
   have HFx := Lib.hid (HFi.out (wr.alloc (.cells #[.int .i64 x.k, .string ⟨x.s.toArray⟩, .int .i64 vi, .slice ko kn kc, .slice jo jn jc] 65)) (Bel.trans HB.out HBl.out) x.s)
   have hX2 : fixI (fun g => decide (g.name = x.s)) 0 F = findI F x.s := rfl
   rw [hX2] at HFx
   clear hN hv hcc hx ea BW hX2
   by_cases h11 : x.k = 11
   rotate_left
   ·have HM2 := Lib.hid (show acc ++ calN F (N0.drop (j + 1)) = X by rw [← hM, calN_no (fun h => h11 h.1)])
    have b11 : (x.k == 11) = false := by simpa using h11
    have d11 : (x.k != 11) = true := by simpa using h11
    have HR2 := Lib.hid (HR.out.on HBl.out)
    have HB2 := Lib.hid (Bel.trans HB.out HBl.out)
    clear hM h11
    go_wp2_with fail
    go_round
    case rel => exact ⟨j + 1, m, c, a, acc, rfl, by go_num, by omega, by omega, HR2, HB2, HM2⟩
    case measure => first | (simp [intOf]; done) | (simp [intOf]; omega)
   ·by_cases hge : 0 ≤ findI F x.s
    rotate_left
    ·have HM2 := Lib.hid (show acc ++ calN F (N0.drop (j + 1)) = X by rw [← hM, calN_no (fun h => hge h.2)])
     rw [h11] at c0 HBl p0 p1 HFx
     generalize findI F x.s = r at *
     clear hM
     go_wp2_with fail
     refine HFx.out.mono ?_
     rintro e w2 ⟨rfl, g⟩
     have HR2 := Lib.hid ((HR.out.on HBl.out).on g)
     have HB2 := Lib.hid (Bel.trans (Bel.trans HB.out HBl.out) g)
     clear g
     go_wp2_with fail
     go_round
     case rel => exact ⟨j + 1, m, c, a, acc, rfl, by go_num, by omega, by omega, HR2, HB2, HM2⟩
     case measure => first | (simp [intOf]; done) | (simp [intOf]; omega)
    ·have HM2 := Lib.hid (show (acc ++ [findI F x.s]) ++ calN F (N0.drop (j + 1)) = X by rw [← hM, calN_yes ⟨h11, hge⟩, List.append_assoc]; rfl)
     rw [h11] at c0 HBl p0 p1 HFx
     generalize findI F x.s = r at *
     clear hM
     go_wp2_with fail
     refine HFx.out.mono ?_
     rintro e w2 ⟨rfl, g⟩
     have HR2 := Lib.hid (((HR.out.on HBl.out).on g).on (Bel.alloc (Bel.refl w2) (.cells #[.int .i64 r] 3)))
     have HB2 := Lib.hid (Bel.alloc (Bel.trans (Bel.trans HB.out HBl.out) g) (.cells #[.int .i64 r] 3))
     have hbs := HB2.out.size
     have Hnw : Hid (∀ j u, [Value.int .i64 r][j]? = some u → (w2.alloc (.cells #[.int .i64 r] 3)).cell? ((⟨w2.heap.size, 0, none⟩ : Addr).add j) = some u) := Lib.hid (World.news_of_block (cs := #[.int .i64 r]) (t := 3) (fr := (0, 0)) (heap_new w2 _))
     have hi1 : m + 1 ≤ 1099511627776 := by have := Hcz.out; omega
     clear g
     go_wp2_with (at_builtin; refine list_app1 _ _ rfl rfl rfl rfl HR2.out hbs (fun _ _ h => h) Hnw.out hi1 ?_; intro o9 c9 w9 k9 g9; refine Hid.out ?_)
     refine Lib.hid ?_
     have G9 := Lib.hid (Mod.bel_of HB2.out g9.out (fun i h => h.1))
     clear g9
     go_wp2
     go_round
     case rel => exact ⟨j + 1, m + 1, c9, o9, acc ++ [r], rfl, by go_num, by omega, by omega, k9, G9, HM2⟩
     case measure => first | (simp [intOf]; done) | (simp [intOf]; omega)
  ·obtain rfl : j = cnt := by omega
   have hXa : acc = X := by
    have := HM.out
    rw [HNe.out, calN, List.append_nil] at this
    exact this
   subst hXa
   have hlen : acc.length = m := HR.out.nums.1
   have hown : wr.ownsRow V.heap.size 3 1 (.slice a m c) m (acc.map (Value.int .i64)) := HR.out.1
   by_cases h0 : m = 0
   ·subst h0
    obtain rfl : acc = [] := List.eq_nil_of_length_eq_zero hlen
    have H2 := Lib.hid (Tryz.slices_Sort_int_none a c wr)
    have H3 := Lib.hid (Tryz.slices_Compact_int_empty a c wr)
    clear hown hlen
    go_wp2_with fail
    refine H2.out.mono ?_
    rintro e w2 ⟨rfl, rfl⟩
    go_wp2_with fail
    refine H3.out.mono ?_
    rintro e w3 ⟨rfl, rfl⟩
    go_wp2_with fail
    go_ret
    exact ⟨a, 0, c, rfl, by rw [csI_nil]; exact rarg_nil' a w3, Bel.trans HBV.out HB.out, fun h => absurd h (Nat.lt_irrefl 0)⟩
   ·have hnn : Value.slice a m c ≠ .slice none 0 0 := fun h => by
     injection h with _ h2 _
     exact h0 h2
    obtain ⟨g, cap, he, hbg, hgl, hncap, hcm, hlen2, hH⟩ := Lib.holds_of_ownsRow hown hnn
    cases he
    have hsort := Tryz.slices_Sort_int g 0 c acc wr hH hgl (by have := Hcz.out; omega)
    rw [hlen] at hsort
    have HX2 := Lib.hid (And.intro hown (And.intro HB.out (And.intro hbg (And.intro hgl (And.intro hncap (And.intro hcm (And.intro hlen hH)))))))
    clear hown hH hnn hlen hncap hcm hgl hbg hlen2
    go_wp2_with fail
    refine hsort.mono ?_
    rintro e w2 ⟨rfl, nn, os, rfl⟩
    have hl2 : (acc.mergeSort fun x y => decide (x ≤ y)).length = m := by rw [List.length_mergeSort]; exact HX2.out.2.2.2.2.2.2.1
    have hH2 : Holds (Value.int .i64) (grow (putRow (Value.int .i64) (Sort.ahead wr nn) g 0 (acc.mergeSort fun x y => decide (x ≤ y)).toArray) os) g 0 (acc.mergeSort fun x y => decide (x ≤ y)).toArray :=
     holds_grow (Value.int .i64) _ os g 0 _ (by simpa [putRow, mapBlock, Sort.ahead] using HX2.out.2.2.2.1) (holds_putRow (Value.int .i64) _ g 0 _ _ (holds_ahead (Value.int .i64) wr nn g 0 _ HX2.out.2.2.2.2.2.2.2) (by simp))
    have hcomp := Tryz.slices_Compact_int g 0 c (acc.mergeSort fun x y => decide (x ≤ y)) _ hH2 (by have := Hcz.out; omega) (by have := HX2.out.2.2.2.2.1; omega)
    rw [hl2] at hcomp
    have HL := Lib.hid (fun q => left_int (w := V) (nn := nn) (q := q) (os := os) HX2.out.1 HX2.out.2.1 HX2.out.2.2.1 HX2.out.2.2.2.2.2.2.1)
    clear hH2 hsort hl2
    generalize hM9 : (Lib.compact (acc.mergeSort fun x y => decide (x ≤ y))).length = M at *
    clear hM9
    go_wp2_with fail
    refine hcomp.mono ?_
    rintro e w3 ⟨rfl, q, rfl⟩
    go_wp2_with fail
    go_ret
    obtain ⟨ra, rm, rc, e1, e2, e3, e4⟩ := HL.out q
    exact ⟨ra, rm, rc, e1, e2, Bel.trans HBV.out e3, fun h b o s e => Nat.le_trans HBV.out.size (e4 h b o s e)⟩
end Syn
end Go.Proofs.YtcapkeaedpabjaaGreatDoor

/-
 Layer 9: Calls.
-/
namespace Go.Proofs.YtcapkeaedpabjaaGreatDoor
open Go.RowKit Go.ChangeShapes Go.WideShapes Go.Sort
namespace Syn
/-- What Calls answers. -/
def callsE (R : Rs) (L : List Nd) (F : List Fw) (k : Nat) (f : Int) : List Int := if R.er ≠ 0 then [] else if 0 ≤ f ∧ f < (k : Int) then callsL L F f.toNat else []
theorem res_chk {L : List Nd} {F : List Fw} (h : (resG L F).er = 0) : chkE L F = 0 := (res_ok h).2.2.2.1
set_option maxRecDepth 100000 in
set_option maxHeartbeats 4000000 in
theorem calls_any (no fo : Option Addr) (n nc k fc : Nat) (L : List Nd) (F : List Fw) (hf : Fit9 n k L F) (hnc : n ≤ nc) (f : Int) (w : World) (hm : Lex.ML w) (hA : NArg w no n L) (hF : FArg w fo k F) :
  Calls Tryz.prog 28 #[.agg #[.slice no n nc, .slice fo k fc], .int .i64 f] w (CsPost w (callsE (resG L F) L F k f)) := by
 obtain ⟨V, hV⟩ : ∃ V, w.alloc (.cells #[.slice no n nc, .slice fo k fc] 25) = V := ⟨_, rfl⟩
 have BV : Bel w V := by rw [← hV]; exact Bel.alloc (Bel.refl _) _
 obtain ⟨v0, v1⟩ : V.cell? ⟨w.heap.size, 0, none⟩ = some (.slice no n nc) ∧ V.cell? ⟨w.heap.size, 1, none⟩ = some (.slice fo k fc) := by
  rw [← hV]
  exact ⟨World.cell?_alloc_new .., World.cell?_alloc_new ..⟩
 have HBV := Lib.hid BV
 have HVe := Lib.hid hV
 have HC := Lib.hid (scheck_any no fo n nc k fc L F hf V (hm.on BV) (hA.on BV) (hF.on BV))
 have HH := Lib.hid (fun W => hasFunction_any no fo n nc k fc f W)
 have hasc : (resG L F).er = 0 → Asc n 0 F := fun h => by rw [← hA.1]; exact asc_chk (res_chk h)
 have HO := Lib.hid (fun (h : (resG L F).er = 0) (q : Nat) (hq : q < k) W (g : Bel V W) => callsOf_any no fo n nc k fc L F q hf.hn hnc hf.hk hq (hasc h) W ((hA.on BV).on g) ((hF.on BV).on g))
 unfold callsE
 generalize resG L F = X at *
 obtain ⟨Xs, Xl, Xp, er⟩ := X
 dsimp only at HC HO ⊢
 clear hf hm hA hF BV hV hasc
 by_cases he : er = 0
 rotate_left
 ·rw [if_pos he]
  have h1 : (er == 0) = false := by simpa using he
  have h2 : (er != 0) = true := by simpa using he
  clear he
  go_enter Tryz.func28, Tryz.ntmps28
  go_wp2_with fail
  rw [HVe.out]
  refine HC.out.mono ?_
  rintro e w2 ⟨rfl, g⟩
  have G := Lib.hid g
  clear g v0 v1
  go_wp2_with fail
  go_ret
  exact ⟨none, 0, 0, rfl, rarg_nil' _ _, Bel.trans HBV.out G.out, fun h => absurd h (Nat.lt_irrefl 0)⟩
 ·rw [if_neg (by simpa using he)]
  have HO2 := Lib.hid (HO.out he)
  subst he
  by_cases h0 : 0 ≤ f ∧ f < (k : Int)
  rotate_left
  ·rw [if_neg h0]
   rw [decide_eq_false h0] at HH
   go_enter Tryz.func28, Tryz.ntmps28
   go_wp2_with fail
   rw [HVe.out]
   refine HC.out.mono ?_
   rintro e w2 ⟨rfl, g⟩
   have G := Lib.hid g
   have x0 := g.cell' v0
   have x1 := g.cell' v1
   clear g v0 v1
   go_wp2_with fail
   refine (HH.out _).mono ?_
   rintro e w3 ⟨rfl, g⟩
   have G3 := Lib.hid (Bel.trans G.out g)
   clear g
   go_wp2_with fail
   go_ret
   exact ⟨none, 0, 0, rfl, rarg_nil' _ _, Bel.trans HBV.out G3.out, fun h => absurd h (Nat.lt_irrefl 0)⟩
  ·rw [if_pos h0]
   rw [decide_eq_true h0] at HH
   obtain ⟨q, rfl⟩ : ∃ q : Nat, f = (q : Int) := ⟨f.toNat, by omega⟩
   have HO3 := Lib.hid (HO2.out q (by omega))
   rw [Int.toNat_natCast]
   go_enter Tryz.func28, Tryz.ntmps28
   go_wp2_with fail
   rw [HVe.out]
   refine HC.out.mono ?_
   rintro e w2 ⟨rfl, g⟩
   have G := Lib.hid g
   have x0 := g.cell' v0
   have x1 := g.cell' v1
   clear g v0 v1
   go_wp2_with fail
   refine (HH.out _).mono ?_
   rintro e w3 ⟨rfl, g⟩
   have G3 := Lib.hid (Bel.trans G.out g)
   have y0 := g.cell' x0
   have y1 := g.cell' x1
   clear g x0 x1
   go_wp2_with fail
   refine (HO3.out w3 G3.out).mono ?_
   rintro e w4 ⟨ra, rm, rc, rfl, e2, e3, e4⟩
   go_wp2_with fail
   go_ret
   exact ⟨ra, rm, rc, rfl, e2, Bel.trans HBV.out (Bel.trans G3.out e3), fun h b o s e => Nat.le_trans HBV.out.size (Nat.le_trans G3.out.size (e4 h b o s e))⟩
end Syn
end Go.Proofs.YtcapkeaedpabjaaGreatDoor
