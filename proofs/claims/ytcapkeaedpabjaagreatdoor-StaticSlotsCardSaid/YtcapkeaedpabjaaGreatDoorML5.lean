/-
  Layer 8, texts merged: SuK, SuL, SuN, SuO, SuP, SuR, SuS, SuT, SuU, SuV, SuW. For every argument within the bounds that each theorem names.
-/
import Derived.Test.YtcapkeaedpabjaaGreatDoorML4
import Derived.WalkSmall
import Derived.Test.YtcapkeaedpabjaaGreatDoorMK3
import Derived.Test.YtcapkeaedpabjaaGreatDoorShelf
import Derived.Sort.OwnSortedInts
import Derived.Test.YtcapkeaedpabjaaGreatDoorMK2

/-
 Layer 9: the law's equal; its example.
-/
namespace Go.Proofs.YtcapkeaedpabjaaGreatDoor
open Go.RowKit Go.ChangeShapes Go.WideShapes Go.Maps
namespace Syn
set_option maxRecDepth 100000 in
set_option maxHeartbeats 4000000 in
theorem equal9_any (o1 o2 : Option Addr) (n m c1 c2 : Nat) (l1 l2 : List Int) (hn : n ≤ 4611686018427387904) (hm : m ≤ 4611686018427387904) (w : World) (hA : RArg w o1 n l1) (hB : RArg w o2 m l2) :
  Calls Tryz.prog 24 #[.slice o1 n c1, .slice o2 m c2] w fun e w' => e = .returned (.bool (decide (l1 = l2))) ∧ Bel w w' := by
 have k1 := hA.1
 have k2 := hB.1
 by_cases h0 : n = m
 ·subst h0
  by_cases hz : n = 0
  ·subst hz
   have e1 : l1 = [] := List.eq_nil_of_length_eq_zero k1
   have e2 : l2 = [] := List.eq_nil_of_length_eq_zero k2
   subst e1 e2
   clear hA hB
   go_enter Tryz.func24, Tryz.ntmps24
   go_wp2_with fail
   go_loopw [13] (fun iv wr => iv = .int .i64 0 ∧ wr = w) (fun _ _ => 0)
   case atStart => exact ⟨rfl, rfl⟩
   case round =>
    obtain ⟨rfl, rfl⟩ := hrel
    go_wp2
    go_ret
    exact ⟨rfl, Bel.refl _⟩
  ·obtain ⟨b, off, rfl, hc⟩ := hA.2 (by omega)
   obtain ⟨b2, off2, rfl, hc2⟩ := hB.2 (by omega)
   obtain ⟨X, hX⟩ : ∃ X, decide (l1 = l2) = X := ⟨_, rfl⟩
   have HX := Lib.hid hX
   rw [hX]
   have K1 := Lib.hid k1
   have K2 := Lib.hid k2
   have HC := Lib.hid hc
   have HC2 := Lib.hid hc2
   have hn0 : (0 : Int) < (n : Int) := by omega
   clear hA hB hc hc2 k1 k2 hX
   go_enter Tryz.func24, Tryz.ntmps24
   go_wp2_with fail
   go_loopw [13] (fun iv wr => ∃ k : Nat, iv = .int .i64 (k : Int) ∧ k ≤ n ∧ Hid (decide (l1.drop k = l2.drop k) = X) ∧ Hid (Bel w wr)) (fun iv _ => n - (intOf iv).toNat)
   case atStart => exact ⟨0, rfl, Nat.zero_le _, HX, Lib.hid (Bel.refl _)⟩
   case round =>
    obtain ⟨k, rfl, hk, HM, HB⟩ := hrel
    rename World => wr
    rcases Nat.lt_or_ge k n with hkn | hkn
    ·have q1 : k < l1.length := by rw [K1.out]; exact hkn
     have q2 : k < l2.length := by rw [K2.out]; exact hkn
     have c0 := HB.out.cell' (HC.out k q1)
     have c02 := HB.out.cell' (HC2.out k q2)
     have hM := HM.out
     rw [drop_eq_at q1 q2] at hM
     generalize l1[k] = u at *
     generalize l2[k] = v at *
     by_cases huv : u = v
     ·subst huv
      have hM2 : Hid (decide (l1.drop (k + 1) = l2.drop (k + 1)) = X) := Lib.hid (by rw [← hM]; simp)
      clear hM HM
      go_wp2_with fail
      go_quiet (fail)
      go_wp2_with fail
      go_round
      case rel => exact ⟨k + 1, by go_num, by omega, hM2, Lib.hid (Bel.drewN HB.out _)⟩
      case measure => simp [intOf]; omega
     ·have hz2 : Hid (X = false) := Lib.hid (by rw [← hM]; simp [huv])
      have buv : (u == v) = false := by simpa using huv
      clear hM HM
      go_wp2_with fail
      go_quiet (fail)
      go_wp2_with fail
      go_ret
      exact ⟨by rw [hz2.out]; rfl, Bel.drewN HB.out _⟩
    ·have hz2 : Hid (X = true) := Lib.hid (by
      have := HM.out
      rw [List.drop_eq_nil_of_le (by rw [K1.out]; exact hkn), List.drop_eq_nil_of_le (by rw [K2.out]; exact hkn)] at this
      rw [← this]
      rfl)
     obtain rfl : k = n := by omega
     go_wp2_with fail
     go_ret
     exact ⟨by rw [hz2.out]; rfl, HB.out⟩
 ·have hne : decide (l1 = l2) = false := by
   rw [decide_eq_false_iff_not]
   intro e
   rw [e] at k1
   omega
  rw [hne]
  have h0' : ¬ (n : Int) = (m : Int) := by omega
  clear hA hB
  go_enter Tryz.func24, Tryz.ntmps24
  go_wp2_with fail
  go_ret
  exact ⟨rfl, Bel.refl _⟩

/-- The nodes of the example, the third with a name of one's choice. -/
def exL (t : Txt) : List Nd := [⟨5, [101], 0, [], []⟩, ⟨13, [120], 0, [], [0]⟩, ⟨5, t, 0, [], []⟩, ⟨17, [], 0, [], [2]⟩, ⟨19, [], 0, [], [1, 3]⟩]
def exF : List Fw := [⟨[109, 97, 105, 110], [[101]], 4⟩]
def exC (a b c : Nat) (t : Txt) : List Value := [.int .i64 5, .string ⟨([101] : Txt).toArray⟩, .int .i64 0, .slice none 0 0, .slice none 0 0, .int .i64 13, .string ⟨([120] : Txt).toArray⟩, .int .i64 0, .slice none 0 0, .slice (some ⟨a, 0, none⟩) 1 1, .int .i64 5, .string ⟨t.toArray⟩, .int .i64 0, .slice none 0 0, .slice none 0 0, .int .i64 17, .string ⟨([] : Txt).toArray⟩, .int .i64 0, .slice none 0 0, .slice (some ⟨b, 0, none⟩) 1 1, .int .i64 19, .string ⟨([] : Txt).toArray⟩, .int .i64 0, .slice none 0 0, .slice (some ⟨c, 0, none⟩) 2 2]
def exD (p : Nat) : List Value := [.string ⟨([109, 97, 105, 110] : Txt).toArray⟩, .slice (some ⟨p, 0, none⟩) 1 1, .int .i64 4]
/-- The example in memory. -/
structure ExAt (w : World) (nb fb a b c p : Nat) (t : Txt) : Prop where
 row : ∀ j u, (exC a b c t)[j]? = some u → w.cell? ⟨nb, j, none⟩ = some u
 fr : ∀ j u, (exD p)[j]? = some u → w.cell? ⟨fb, j, none⟩ = some u
 ka : w.cell? ⟨a, 0, none⟩ = some (.int .i64 0)
 kb : w.cell? ⟨b, 0, none⟩ = some (.int .i64 2)
 kc0 : w.cell? ⟨c, 0, none⟩ = some (.int .i64 1)
 kc1 : w.cell? ⟨c, 1, none⟩ = some (.int .i64 3)
 pp : w.cell? ⟨p, 0, none⟩ = some (.string ⟨([101] : Txt).toArray⟩)
theorem zs1 {w : World} {a : Nat} {z : Int} (h : w.cell? ⟨a, 0, none⟩ = some (.int .i64 z)) : ZArg w (some ⟨a, 0, none⟩) 1 [z] :=
 ⟨rfl, fun i hi => ⟨⟨a, 0, none⟩, rfl, by match i, hi with | 0, _ => exact h⟩⟩
theorem zs2 {w : World} {a : Nat} {y z : Int} (h : w.cell? ⟨a, 0, none⟩ = some (.int .i64 y)) (h2 : w.cell? ⟨a, 1, none⟩ = some (.int .i64 z)) : ZArg w (some ⟨a, 0, none⟩) 2 [y, z] :=
 ⟨rfl, fun i hi => ⟨⟨a, 0, none⟩, rfl, by match i, hi with | 0, _ => exact h | 1, _ => exact h2⟩⟩
theorem ExAt.nodes {w : World} {nb fb a b c p : Nat} {t : Txt} (h : ExAt w nb fb a b c p t) : NArg w (some ⟨nb, 0, none⟩) 5 (exL t) := by
 refine ⟨rfl, fun _ => ⟨nb, 0, rfl, fun i hi => ?_⟩⟩
 match i, hi with
 | 0, _ => exact ⟨⟨5, [101], 0, none, 0, 0, none, 0, 0⟩, ⟨rfl, rfl, rfl, KArg.nil _ _, ZArg.nil _ _, Nat.le_refl _, Nat.le_refl _⟩, fun j u hj => by
   match j, hj with
   | 0, hj => exact h.row (0) u hj
   | 1, hj => exact h.row (1) u hj
   | 2, hj => exact h.row (2) u hj
   | 3, hj => exact h.row (3) u hj
   | 4, hj => exact h.row (4) u hj
   | j + 5, hj => cases hj⟩
 | 1, _ => exact ⟨⟨13, [120], 0, none, 0, 0, some ⟨a, 0, none⟩, 1, 1⟩, ⟨rfl, rfl, rfl, KArg.nil _ _, zs1 h.ka, Nat.le_refl _, Nat.le_refl _⟩, fun j u hj => by
   match j, hj with
   | 0, hj => exact h.row (5) u hj
   | 1, hj => exact h.row (6) u hj
   | 2, hj => exact h.row (7) u hj
   | 3, hj => exact h.row (8) u hj
   | 4, hj => exact h.row (9) u hj
   | j + 5, hj => cases hj⟩
 | 2, _ => exact ⟨⟨5, t, 0, none, 0, 0, none, 0, 0⟩, ⟨rfl, rfl, rfl, KArg.nil _ _, ZArg.nil _ _, Nat.le_refl _, Nat.le_refl _⟩, fun j u hj => by
   match j, hj with
   | 0, hj => exact h.row (10) u hj
   | 1, hj => exact h.row (11) u hj
   | 2, hj => exact h.row (12) u hj
   | 3, hj => exact h.row (13) u hj
   | 4, hj => exact h.row (14) u hj
   | j + 5, hj => cases hj⟩
 | 3, _ => exact ⟨⟨17, [], 0, none, 0, 0, some ⟨b, 0, none⟩, 1, 1⟩, ⟨rfl, rfl, rfl, KArg.nil _ _, zs1 h.kb, Nat.le_refl _, Nat.le_refl _⟩, fun j u hj => by
   match j, hj with
   | 0, hj => exact h.row (15) u hj
   | 1, hj => exact h.row (16) u hj
   | 2, hj => exact h.row (17) u hj
   | 3, hj => exact h.row (18) u hj
   | 4, hj => exact h.row (19) u hj
   | j + 5, hj => cases hj⟩
 | 4, _ => exact ⟨⟨19, [], 0, none, 0, 0, some ⟨c, 0, none⟩, 2, 2⟩, ⟨rfl, rfl, rfl, KArg.nil _ _, zs2 h.kc0 h.kc1, Nat.le_refl _, Nat.le_refl _⟩, fun j u hj => by
   match j, hj with
   | 0, hj => exact h.row (20) u hj
   | 1, hj => exact h.row (21) u hj
   | 2, hj => exact h.row (22) u hj
   | 3, hj => exact h.row (23) u hj
   | 4, hj => exact h.row (24) u hj
   | j + 5, hj => cases hj⟩
theorem ExAt.funcs {w : World} {nb fb a b c p : Nat} {t : Txt} (h : ExAt w nb fb a b c p t) : FArg w (some ⟨fb, 0, none⟩) 1 exF := by
 refine ⟨rfl, fun _ => ⟨fb, 0, rfl, fun i hi => ?_⟩⟩
 match i, hi with
 | 0, _ => exact ⟨⟨[109, 97, 105, 110], some ⟨p, 0, none⟩, 1, 1, 4⟩, ⟨rfl, rfl, ⟨rfl, fun i hi => ⟨⟨p, 0, none⟩, rfl, by match i, hi with | 0, _ => exact h.pp⟩⟩, Nat.le_refl _, fun _ a e => by cases e; exact ⟨_, _, rfl⟩⟩, fun j u hj => by
   match j, hj with
   | 0, hj => exact h.fr 0 u hj
   | 1, hj => exact h.fr 1 u hj
   | 2, hj => exact h.fr 2 u hj
   | j + 3, hj => cases hj⟩
theorem ExAt.on {w w' : World} {nb fb a b c p : Nat} {t : Txt} (h : ExAt w nb fb a b c p t) (g : Bel w w') : ExAt w' nb fb a b c p t :=
 ⟨fun j u e => g.cell' (h.row j u e), fun j u e => g.cell' (h.fr j u e), g.cell' h.ka, g.cell' h.kb, g.cell' h.kc0, g.cell' h.kc1, g.cell' h.pp⟩
theorem ex_fit (t : Txt) (ht : t.length ≤ 1000) : Fit9 5 1 (exL t) exF := by
 refine ⟨by omega, by omega, fun x hx => ?_, fun x hx => ?_, fun f hf => ?_⟩
 ·simp only [exL, List.mem_cons, List.not_mem_nil, or_false] at hx
  rcases hx with rfl | rfl | rfl | rfl | rfl <;> simp
 ·simp only [exL, List.mem_cons, List.not_mem_nil, or_false] at hx
  rcases hx with rfl | rfl | rfl | rfl | rfl <;> simp <;> omega
 ·simp only [exF, List.mem_cons, List.not_mem_nil, or_false] at hf
  subst hf
  simp
theorem ex_good : resG (exL [120]) exF = ⟨[0, 1, 1, -1, -1], [2], 0, 0⟩ := by kernel_rfl
theorem ex_bad : (resG (exL [121]) exF).pos = 2 ∧ (resG (exL [121]) exF).er = 4 := ⟨by kernel_rfl, by kernel_rfl⟩
set_option maxRecDepth 100000 in
set_option maxHeartbeats 4000000 in
theorem example_any (w : World) :
  Calls Tryz.prog 49 #[] w fun e w' => ∃ nb fb a b c p, e = .returned (.agg #[.slice (some ⟨nb, 0, none⟩) 5 5, .slice (some ⟨fb, 0, none⟩) 1 1]) ∧ ExAt w' nb fb a b c p [120] ∧ Bel w w' ∧ w.heap.size ≤ nb ∧ w'.frozen? ⟨nb, 11, none⟩ = false ∧ (nb ≠ fb ∧ nb ≠ a ∧ nb ≠ b ∧ nb ≠ c ∧ nb ≠ p) := by
 go_enter Tryz.func49, Tryz.ntmps49
 go_wp2_with fail
 obtain ⟨W0, h0⟩ : ∃ W, w.alloc (.cells #[.slice (some ⟨w.heap.size + 1 + 1 + 1 + 1, 0, none⟩) 5 5, .slice (some ⟨w.heap.size + 1 + 1 + 1 + 1 + 1 + 1, 0, none⟩) 1 1] 25) = W := ⟨_, rfl⟩
 have z0 : W0.heap.size = w.heap.size + 1 := by rw [← h0, alloc_szs]
 have b0 : Bel w W0 := by rw [← h0]; exact Bel.alloc (Bel.refl _) _
 have c0 : ∀ j u, [.slice (some ⟨w.heap.size + 1 + 1 + 1 + 1, 0, none⟩) 5 5, .slice (some ⟨w.heap.size + 1 + 1 + 1 + 1 + 1 + 1, 0, none⟩) 1 1][j]? = some u → W0.cell? ⟨w.heap.size, j, none⟩ = some u := fun j u e => by
  have := World.news_of_block (cs := #[.slice (some ⟨w.heap.size + 1 + 1 + 1 + 1, 0, none⟩) 5 5, .slice (some ⟨w.heap.size + 1 + 1 + 1 + 1 + 1 + 1, 0, none⟩) 1 1]) (t := 25) (fr := (0, 0)) (heap_new w _) j u e
  rw [h0] at this
  have ea : (⟨w.heap.size, 0, none⟩ : Addr).add j = ⟨w.heap.size, j, none⟩ := by unfold Addr.add; split <;> simp_all
  rw [ea] at this
  exact this
 obtain ⟨W1, h1⟩ : ∃ W, W0.alloc (.cells #[.int .i64 0] 3) = W := ⟨_, rfl⟩
 have z1 : W1.heap.size = w.heap.size + 1 + 1 := by rw [← h1, alloc_szs, z0]
 have b1 : Bel W0 W1 := by rw [← h1]; exact Bel.alloc (Bel.refl _) _
 have c1 : ∀ j u, [.int .i64 0][j]? = some u → W1.cell? ⟨w.heap.size + 1, j, none⟩ = some u := fun j u e => by
  have := World.news_of_block (cs := #[.int .i64 0]) (t := 3) (fr := (0, 0)) (heap_new W0 _) j u e
  rw [h1, z0] at this
  have ea : (⟨w.heap.size + 1, 0, none⟩ : Addr).add j = ⟨w.heap.size + 1, j, none⟩ := by unfold Addr.add; split <;> simp_all
  rw [ea] at this
  exact this
 obtain ⟨W2, h2⟩ : ∃ W, W1.alloc (.cells #[.int .i64 2] 3) = W := ⟨_, rfl⟩
 have z2 : W2.heap.size = w.heap.size + 1 + 1 + 1 := by rw [← h2, alloc_szs, z1]
 have b2 : Bel W1 W2 := by rw [← h2]; exact Bel.alloc (Bel.refl _) _
 have c2 : ∀ j u, [.int .i64 2][j]? = some u → W2.cell? ⟨w.heap.size + 1 + 1, j, none⟩ = some u := fun j u e => by
  have := World.news_of_block (cs := #[.int .i64 2]) (t := 3) (fr := (0, 0)) (heap_new W1 _) j u e
  rw [h2, z1] at this
  have ea : (⟨w.heap.size + 1 + 1, 0, none⟩ : Addr).add j = ⟨w.heap.size + 1 + 1, j, none⟩ := by unfold Addr.add; split <;> simp_all
  rw [ea] at this
  exact this
 obtain ⟨W3, h3⟩ : ∃ W, W2.alloc (.cells #[.int .i64 1, .int .i64 3] 3) = W := ⟨_, rfl⟩
 have z3 : W3.heap.size = w.heap.size + 1 + 1 + 1 + 1 := by rw [← h3, alloc_szs, z2]
 have b3 : Bel W2 W3 := by rw [← h3]; exact Bel.alloc (Bel.refl _) _
 have c3 : ∀ j u, [.int .i64 1, .int .i64 3][j]? = some u → W3.cell? ⟨w.heap.size + 1 + 1 + 1, j, none⟩ = some u := fun j u e => by
  have := World.news_of_block (cs := #[.int .i64 1, .int .i64 3]) (t := 3) (fr := (0, 0)) (heap_new W2 _) j u e
  rw [h3, z2] at this
  have ea : (⟨w.heap.size + 1 + 1 + 1, 0, none⟩ : Addr).add j = ⟨w.heap.size + 1 + 1 + 1, j, none⟩ := by unfold Addr.add; split <;> simp_all
  rw [ea] at this
  exact this
 obtain ⟨W4, h4⟩ : ∃ W, W3.alloc (.cells #[.int .i64 5, .string ⟨([101] : Txt).toArray⟩, .int .i64 0, .slice none 0 0, .slice none 0 0, .int .i64 13, .string ⟨([120] : Txt).toArray⟩, .int .i64 0, .slice none 0 0, .slice (some ⟨w.heap.size + 1, 0, none⟩) 1 1, .int .i64 5, .string ⟨([120] : Txt).toArray⟩, .int .i64 0, .slice none 0 0, .slice none 0 0, .int .i64 17, .string ⟨([] : Txt).toArray⟩, .int .i64 0, .slice none 0 0, .slice (some ⟨w.heap.size + 1 + 1, 0, none⟩) 1 1, .int .i64 19, .string ⟨([] : Txt).toArray⟩, .int .i64 0, .slice none 0 0, .slice (some ⟨w.heap.size + 1 + 1 + 1, 0, none⟩) 2 2] 65) = W := ⟨_, rfl⟩
 have z4 : W4.heap.size = w.heap.size + 1 + 1 + 1 + 1 + 1 := by rw [← h4, alloc_szs, z3]
 have b4 : Bel W3 W4 := by rw [← h4]; exact Bel.alloc (Bel.refl _) _
 have c4 : ∀ j u, [.int .i64 5, .string ⟨([101] : Txt).toArray⟩, .int .i64 0, .slice none 0 0, .slice none 0 0, .int .i64 13, .string ⟨([120] : Txt).toArray⟩, .int .i64 0, .slice none 0 0, .slice (some ⟨w.heap.size + 1, 0, none⟩) 1 1, .int .i64 5, .string ⟨([120] : Txt).toArray⟩, .int .i64 0, .slice none 0 0, .slice none 0 0, .int .i64 17, .string ⟨([] : Txt).toArray⟩, .int .i64 0, .slice none 0 0, .slice (some ⟨w.heap.size + 1 + 1, 0, none⟩) 1 1, .int .i64 19, .string ⟨([] : Txt).toArray⟩, .int .i64 0, .slice none 0 0, .slice (some ⟨w.heap.size + 1 + 1 + 1, 0, none⟩) 2 2][j]? = some u → W4.cell? ⟨w.heap.size + 1 + 1 + 1 + 1, j, none⟩ = some u := fun j u e => by
  have := World.news_of_block (cs := #[.int .i64 5, .string ⟨([101] : Txt).toArray⟩, .int .i64 0, .slice none 0 0, .slice none 0 0, .int .i64 13, .string ⟨([120] : Txt).toArray⟩, .int .i64 0, .slice none 0 0, .slice (some ⟨w.heap.size + 1, 0, none⟩) 1 1, .int .i64 5, .string ⟨([120] : Txt).toArray⟩, .int .i64 0, .slice none 0 0, .slice none 0 0, .int .i64 17, .string ⟨([] : Txt).toArray⟩, .int .i64 0, .slice none 0 0, .slice (some ⟨w.heap.size + 1 + 1, 0, none⟩) 1 1, .int .i64 19, .string ⟨([] : Txt).toArray⟩, .int .i64 0, .slice none 0 0, .slice (some ⟨w.heap.size + 1 + 1 + 1, 0, none⟩) 2 2]) (t := 65) (fr := (0, 0)) (heap_new W3 _) j u e
  rw [h4, z3] at this
  have ea : (⟨w.heap.size + 1 + 1 + 1 + 1, 0, none⟩ : Addr).add j = ⟨w.heap.size + 1 + 1 + 1 + 1, j, none⟩ := by unfold Addr.add; split <;> simp_all
  rw [ea] at this
  exact this
 have f4 : W4.frozen? ⟨w.heap.size + 1 + 1 + 1 + 1, 11, none⟩ = false := by
  rw [← h4, ← z3]
  exact World.frozen?_alloc_new ..
 obtain ⟨W5, h5⟩ : ∃ W, W4.alloc (.cells #[.string ⟨([101] : Txt).toArray⟩] 9) = W := ⟨_, rfl⟩
 have z5 : W5.heap.size = w.heap.size + 1 + 1 + 1 + 1 + 1 + 1 := by rw [← h5, alloc_szs, z4]
 have b5 : Bel W4 W5 := by rw [← h5]; exact Bel.alloc (Bel.refl _) _
 have c5 : ∀ j u, [.string ⟨([101] : Txt).toArray⟩][j]? = some u → W5.cell? ⟨w.heap.size + 1 + 1 + 1 + 1 + 1, j, none⟩ = some u := fun j u e => by
  have := World.news_of_block (cs := #[.string ⟨([101] : Txt).toArray⟩]) (t := 9) (fr := (0, 0)) (heap_new W4 _) j u e
  rw [h5, z4] at this
  have ea : (⟨w.heap.size + 1 + 1 + 1 + 1 + 1, 0, none⟩ : Addr).add j = ⟨w.heap.size + 1 + 1 + 1 + 1 + 1, j, none⟩ := by unfold Addr.add; split <;> simp_all
  rw [ea] at this
  exact this
 obtain ⟨W6, h6⟩ : ∃ W, W5.alloc (.cells #[.string ⟨([109, 97, 105, 110] : Txt).toArray⟩, .slice (some ⟨w.heap.size + 1 + 1 + 1 + 1 + 1, 0, none⟩) 1 1, .int .i64 4] 61) = W := ⟨_, rfl⟩
 have z6 : W6.heap.size = w.heap.size + 1 + 1 + 1 + 1 + 1 + 1 + 1 := by rw [← h6, alloc_szs, z5]
 have b6 : Bel W5 W6 := by rw [← h6]; exact Bel.alloc (Bel.refl _) _
 have c6 : ∀ j u, [.string ⟨([109, 97, 105, 110] : Txt).toArray⟩, .slice (some ⟨w.heap.size + 1 + 1 + 1 + 1 + 1, 0, none⟩) 1 1, .int .i64 4][j]? = some u → W6.cell? ⟨w.heap.size + 1 + 1 + 1 + 1 + 1 + 1, j, none⟩ = some u := fun j u e => by
  have := World.news_of_block (cs := #[.string ⟨([109, 97, 105, 110] : Txt).toArray⟩, .slice (some ⟨w.heap.size + 1 + 1 + 1 + 1 + 1, 0, none⟩) 1 1, .int .i64 4]) (t := 61) (fr := (0, 0)) (heap_new W5 _) j u e
  rw [h6, z5] at this
  have ea : (⟨w.heap.size + 1 + 1 + 1 + 1 + 1 + 1, 0, none⟩ : Addr).add j = ⟨w.heap.size + 1 + 1 + 1 + 1 + 1 + 1, j, none⟩ := by unfold Addr.add; split <;> simp_all
  rw [ea] at this
  exact this
 have k6 : Bel W6 W6 := Bel.refl _
 have k5 : Bel W5 W6 := Bel.trans b6 k6
 have k4 : Bel W4 W6 := Bel.trans b5 k5
 have k3 : Bel W3 W6 := Bel.trans b4 k4
 have k2 : Bel W2 W6 := Bel.trans b3 k3
 have k1 : Bel W1 W6 := Bel.trans b2 k2
 have k0 : Bel W0 W6 := Bel.trans b1 k1
 rw [h0, h1, h2, h3, h4, h5, h6]
 have q0 := k0.cell' (c0 0 _ rfl)
 have q1 := k0.cell' (c0 1 _ rfl)
 refine bodyPost_ret (v := .agg #[.slice (some ⟨w.heap.size + 1 + 1 + 1 + 1, 0, none⟩) 5 5, .slice (some ⟨w.heap.size + 1 + 1 + 1 + 1 + 1 + 1, 0, none⟩) 1 1]) (by simp [results, Tryz.results49, go_sem, q0, q1]) rfl ?_
 refine ⟨_, _, _, _, _, _, rfl, ⟨fun j u e => k4.cell' (c4 j u e), fun j u e => k6.cell' (c6 j u e), k1.cell' (c1 0 _ rfl), k2.cell' (c2 0 _ rfl), k3.cell' (c3 0 _ rfl), k3.cell' (c3 1 _ rfl), k5.cell' (c5 0 _ rfl)⟩, Bel.trans b0 k0, by omega, (mod_froz (Mod.of_bel (F := fun _ => False) k4) (c4 11 _ rfl) (fun h => h)).trans f4, by omega, by omega, by omega, by omega, by omega⟩
end Syn
end Go.Proofs.YtcapkeaedpabjaaGreatDoor

/-
 Layer 9: the law's examples; the law Names.
-/
namespace Go.Proofs.YtcapkeaedpabjaaGreatDoor
open Go.RowKit Go.ChangeShapes Go.WideShapes Go.Maps
namespace Syn
theorem exC_set (a b c : Nat) (t : Txt) : exC a b c t = (exC a b c [120]).set 11 (.string ⟨t.toArray⟩) := rfl
theorem ExAt.set {w : World} {nb fb a b c p : Nat} (h : ExAt w nb fb a b c p [120]) (hne : nb ≠ fb ∧ nb ≠ a ∧ nb ≠ b ∧ nb ≠ c ∧ nb ≠ p) (t : Txt) : ExAt (w.setCell ⟨nb, 11, none⟩ (.string ⟨t.toArray⟩)) nb fb a b c p t := by
 obtain ⟨h1, h2, h3, h4, h5⟩ := hne
 have g : Mod (fun i => i = nb) w (w.setCell ⟨nb, 11, none⟩ (.string ⟨t.toArray⟩)) := (Mod.refl (fun i => i = nb) w).setCell (p := ⟨nb, 11, none⟩) (Or.inl rfl) _
 refine ⟨fun j u e => ?_, fun j u e => g.cell (h.fr j u e) (fun k => h1 k.symm), g.cell h.ka (fun k => h2 k.symm), g.cell h.kb (fun k => h3 k.symm), g.cell h.kc0 (fun k => h4 k.symm), g.cell h.kc1 (fun k => h4 k.symm), g.cell h.pp (fun k => h5 k.symm)⟩
 by_cases hj : j = 11
 ·subst hj
  have e2 : u = .string ⟨t.toArray⟩ := (Option.some.inj (show some (Value.string ⟨t.toArray⟩) = some u from e)).symm
  subst e2
  exact World.cell?_setCell_same _ _ _ (h.row 11 _ rfl)
 ·rw [exC_set, List.getElem?_set_ne (fun k => hj k.symm)] at e
  exact (World.cell?_setCell_other _ _ _ _ (by intro k; simp only [Addr.mk.injEq] at k; omega)).trans (h.row j u e)
theorem five_new (W : World) : RArg (W.alloc (.cells #[.int .i64 0, .int .i64 1, .int .i64 1, .int .i64 (-1), .int .i64 (-1)] 3)) (some ⟨W.heap.size, 0, none⟩) 5 [0, 1, 1, -1, -1] :=
 ⟨rfl, fun _ => ⟨W.heap.size, 0, rfl, fun i hi => by
  match i, hi with
  | 0, _ => exact World.cell?_alloc_new ..
  | 1, _ => exact World.cell?_alloc_new ..
  | 2, _ => exact World.cell?_alloc_new ..
  | 3, _ => exact World.cell?_alloc_new ..
  | 4, _ => exact World.cell?_alloc_new ..⟩⟩
set_option maxRecDepth 100000 in
set_option maxHeartbeats 8000000 in
theorem awake9_any (w : World) (hm : Lex.ML w) :
  Calls Tryz.prog 17 #[] w fun e w' => e = .returned (.bool true) ∧ Bel w w' := by
 have HM := Lib.hid hm
 have HE := Lib.hid (fun W => example_any W)
 have HC := Lib.hid (fun (t : Txt) (ht : t.length ≤ 1000) (W : World) (g : Bel w W) (nb fb a b c p : Nat) (h : ExAt W nb fb a b c p t) => scheck_any (some ⟨nb, 0, none⟩) (some ⟨fb, 0, none⟩) 5 5 1 1 (exL t) exF (ex_fit t ht) W (hm.on g) h.nodes h.funcs)
 have HS := Lib.hid (fun (W : World) (g : Bel w W) (nb fb a b c p : Nat) (h : ExAt W nb fb a b c p [120]) => slots_any (some ⟨nb, 0, none⟩) (some ⟨fb, 0, none⟩) 5 5 1 1 (exL [120]) exF (ex_fit _ (by decide)) W (hm.on g) h.nodes h.funcs)
 have HL := Lib.hid (fun (W : World) (g : Bel w W) (nb fb a b c p : Nat) (h : ExAt W nb fb a b c p [120]) => locals_any (some ⟨nb, 0, none⟩) (some ⟨fb, 0, none⟩) 5 5 1 1 (exL [120]) exF (ex_fit _ (by decide)) 0 W (hm.on g) h.nodes h.funcs)
 have HB := Lib.hid (fun W => blt_any [112, 117, 116] W)
 have hb : okN (bltI [112, 117, 116]) = .tuple #[.int .i64 3, .bool true] := by kernel_rfl
 have hl : locE (resG (exL [120]) exF) 1 0 = (2, 0) := by rw [ex_good]; decide
 rw [hb] at HB
 rw [ex_good] at HS
 rw [hl] at HL
 clear hm hb hl
 go_enter Tryz.func17, Tryz.ntmps17
 go_wp2_with fail
 refine (HE.out _).mono ?_
 rintro e w1 ⟨nb, fb, a, b, c, p, rfl, hX, g, -⟩
 have G1 := Lib.hid g
 have X1 := Lib.hid hX
 clear g hX
 go_wp2_with fail
 have hc := HC.out [120] (by decide) w1 G1.out nb fb a b c p X1.out
 rw [ex_good] at hc
 refine hc.mono ?_
 clear hc
 rintro e w2 ⟨rfl, g⟩
 have G2 := Lib.hid (Bel.trans G1.out g)
 clear g
 go_wp2_with fail
 refine (HE.out _).mono ?_
 rintro e w3 ⟨nb, fb, a, b, c, p, rfl, hX, g, -⟩
 have G3 := Lib.hid (Bel.trans G2.out g)
 have X3 := Lib.hid hX
 clear g hX
 go_wp2_with fail
 refine (HS.out w3 G3.out nb fb a b c p X3.out).mono ?_
 rintro e w4 ⟨sa, sm, scp, rfl, hsl, g⟩
 have G4 := Lib.hid (Bel.trans G3.out g)
 have S4 := Lib.hid hsl
 obtain rfl : 5 = sm := hsl.1
 clear g hsl
 go_wp2_with fail
 refine (HE.out _).mono ?_
 rintro e w5 ⟨nb, fb, a, b, c, p, rfl, hX, g, -⟩
 have G5 := Lib.hid (Bel.trans G4.out g)
 have S5 := Lib.hid (S4.out.on g)
 have X5 := Lib.hid hX
 clear g hX
 go_wp2_with fail
 refine (HL.out w5 G5.out nb fb a b c p X5.out).mono ?_
 rintro e w6 ⟨rfl, g⟩
 have G6 := Lib.hid (Bel.trans G5.out g)
 have S6 := Lib.hid (S5.out.on g)
 clear g
 go_wp2_with fail
 refine (HB.out w6).mono ?_
 rintro e w7 ⟨rfl, rfl⟩
 go_wp2_with fail
 refine (HE.out _).mono ?_
 rintro e w8 ⟨nb, fb, a, b, c, p, rfl, hX, g, hnb, hfz, hne⟩
 obtain ⟨V, hV⟩ : ∃ V, w8.alloc (.cells #[.slice (some ⟨nb, 0, none⟩) 5 5, .slice (some ⟨fb, 0, none⟩) 1 1] 25) = V := ⟨_, rfl⟩
 have B8 : Bel w8 V := by rw [← hV]; exact Bel.alloc (Bel.refl _) _
 obtain ⟨n0, n1⟩ := two_new w8 (.slice (some ⟨nb, 0, none⟩) 5 5) (.slice (some ⟨fb, 0, none⟩) 1 1) 25
 rw [hV] at n0 n1
 have XV := hX.on B8
 have e11 : V.cell? ⟨nb, 11, none⟩ = some (.string ⟨([120] : Txt).toArray⟩) := XV.row 11 _ rfl
 have f11 : V.frozen? ⟨nb, 11, none⟩ = false := (mod_froz (Mod.of_bel (F := fun _ => False) B8) (hX.row 11 _ rfl) (fun h => h)).trans hfz
 have hn8 : nb ≠ w8.heap.size := fun h => by
  have := World.block_lt_of_cell? w8 _ (hX.row 11 _ rfl)
  simp only at this
  omega
 have M9 : Bel w7 (V.setCell ⟨nb, 11, none⟩ (.string ⟨([121] : Txt).toArray⟩)) := Mod.bel_of (Bel.trans g B8) ((Mod.refl (fun i => i = nb) V).setCell (p := ⟨nb, 11, none⟩) (Or.inl rfl) _) (fun i h => by omega)
 have X9 := Lib.hid (XV.set hne [121])
 have G9 := Lib.hid (Bel.trans G6.out M9)
 have S9 := Lib.hid (S6.out.on M9)
 have m0 : (V.setCell ⟨nb, 11, none⟩ (.string ⟨#[121]⟩)).cell? ⟨w8.heap.size, 0, none⟩ = some (.slice (some ⟨nb, 0, none⟩) 5 5) := (World.cell?_setCell_other _ _ _ _ (by simp)).trans n0
 have m1 : (V.setCell ⟨nb, 11, none⟩ (.string ⟨#[121]⟩)).cell? ⟨w8.heap.size, 1, none⟩ = some (.slice (some ⟨fb, 0, none⟩) 1 1) := (World.cell?_setCell_other _ _ _ _ (by simp)).trans n1
 obtain ⟨U, hU⟩ : ∃ U, V.setCell ⟨nb, 11, none⟩ (.string ⟨#[121]⟩) = U := ⟨_, rfl⟩
 have hU2 : V.setCell ⟨nb, 11, none⟩ (.string ⟨([121] : Txt).toArray⟩) = U := hU
 rw [hU2] at X9 G9 S9
 rw [← hV] at m0 m1 e11 f11 n0 n1 hU
 have HU := Lib.hid hU
 clear hX g hnb hfz hne B8 XV M9 hV hn8 hU hU2
 have hc := HC.out [121] (by decide) U G9.out nb fb a b c p X9.out
 rw [ex_bad.1, ex_bad.2] at hc
 have HC2 := Lib.hid hc
 have HQ := Lib.hid (fun (W : World) (h : RArg W sa 5 [0, 1, 1, -1, -1]) => equal9_any sa (some ⟨W.heap.size, 0, none⟩) 5 5 scp 5 [0, 1, 1, -1, -1] [0, 1, 1, -1, -1] (by omega) (by omega) (W.alloc (.cells #[.int .i64 0, .int .i64 1, .int .i64 1, .int .i64 (-1), .int .i64 (-1)] 3)) (h.on (Bel.alloc (Bel.refl _) _)) (five_new W))
 have hd5 : decide (([0, 1, 1, -1, -1] : List Int) = [0, 1, 1, -1, -1]) = true := by decide
 rw [hd5] at HQ
 clear hc hd5
 go_wp2_with fail
 rw [HU.out]
 refine HC2.out.mono ?_
 rintro e w10 ⟨rfl, g⟩
 have G10 := Lib.hid (Bel.trans G9.out g)
 have S10 := Lib.hid (S9.out.on g)
 clear g n0 n1 m0 m1 e11 f11
 go_wp2_with fail
 refine (HQ.out w10 S10.out).mono ?_
 rintro e w11 ⟨rfl, g⟩
 have G11 := Lib.hid (Bel.trans (Bel.alloc G10.out _) g)
 clear g
 go_wp2_with fail
 go_ret
 exact ⟨rfl, G11.out⟩
end Syn
end Go.Proofs.YtcapkeaedpabjaaGreatDoor

/-
 Layer 9: the law's small and right.
-/
namespace Go.Proofs.YtcapkeaedpabjaaGreatDoor
open Go.RowKit Go.ChangeShapes Go.WideShapes Go.Maps
namespace Syn
structure SmallP (L : List Nd) (F : List Fw) : Prop where
 hn : L.length ≤ 200
 hk : F.length ≤ 20
 nd : ∀ x ∈ L, x.kids.length ≤ 100 ∧ x.keys.length ≤ 100
 fn : ∀ f ∈ F, f.params.length ≤ 20
/-- What small says. -/
def SmPost (w : World) (L : List Nd) (F : List Fw) (e : Ending) (w' : World) : Prop := ∃ b, e = .returned (.bool b) ∧ (b = true → SmallP L F) ∧ Bel w w'
set_option maxRecDepth 100000 in
set_option maxHeartbeats 8000000 in
theorem small_any (no fo : Option Addr) (n nc k fc : Nat) (L : List Nd) (F : List Fw) (hn : n ≤ 4611686018427387904) (hk : k ≤ 4611686018427387904) (w : World) (hA : NArg w no n L) (hF : FArg w fo k F) (hwf : WfN L) (hwF : ∀ x ∈ F, x.params.length ≤ 4611686018427387904) :
  Calls Tryz.prog 16 #[.agg #[.slice no n nc, .slice fo k fc]] w (SmPost w L F) := by
 obtain ⟨V, hV⟩ : ∃ V, w.alloc (.cells #[.slice no n nc, .slice fo k fc] 25) = V := ⟨_, rfl⟩
 have BV : Bel w V := by rw [← hV]; exact Bel.alloc (Bel.refl w) _
 obtain ⟨v0, v1⟩ : V.cell? ⟨w.heap.size, 0, none⟩ = some (.slice no n nc) ∧ V.cell? ⟨w.heap.size, 1, none⟩ = some (.slice fo k fc) := by
  rw [← hV]
  exact ⟨World.cell?_alloc_new .., World.cell?_alloc_new ..⟩
 have HBV := Lib.hid BV
 have HA := Lib.hid (hA.on BV)
 have HF := Lib.hid (hF.on BV)
 have HLn := Lib.hid hA.1
 have HFk := Lib.hid hF.1
 have HV := Lib.hid hV
 have Hwf := Lib.hid hwf
 have HwF := Lib.hid hwF
 by_cases c1 : n ≤ 200
 rotate_left
 ·have c1' : (n : Int) > 200 := by omega
  go_enter Tryz.func16, Tryz.ntmps16
  go_wp2_with fail
  go_ret
  exact ⟨false, rfl, (fun h => by cases h), HBV.out⟩
 have c1' : ¬ (n : Int) > 200 := by omega
 by_cases c2 : k ≤ 20
 rotate_left
 ·have c2' : (k : Int) > 20 := by omega
  go_enter Tryz.func16, Tryz.ntmps16
  go_wp2_with fail
  go_ret
  exact ⟨false, rfl, (fun h => by cases h), HBV.out⟩
 have c2' : ¬ (k : Int) > 20 := by omega
 have HV0 := Lib.hid v0
 have HV1 := Lib.hid v1
 clear hA hF hwf hwF BV hV v0 v1
 go_enter Tryz.func16, Tryz.ntmps16
 go_wp2_with fail
 go_loopw [18] (fun iv wr => ∃ j : Nat, iv = .int .i64 (j : Int) ∧ j ≤ n ∧ wr = V ∧ Hid (∀ i (h : i < L.length), i < j → L[i].kids.length ≤ 100 ∧ L[i].keys.length ≤ 100)) (fun iv _ => n - (intOf iv).toNat)
 case atStart => exact ⟨0, rfl, Nat.zero_le _, HV.out, Lib.hid (fun i h h0 => absurd h0 (Nat.not_lt_zero i))⟩
 case round =>
  obtain ⟨j, rfl, hj, hw, HI⟩ := hrel
  obtain rfl := hw.symm
  have v0 := HV0.out
  have v1 := HV1.out
  rcases Nat.lt_or_ge j n with hjn | hjn
  ·have hjl : j < L.length := by rw [HLn.out]; exact hjn
   obtain ⟨b, off, rfl, hcs⟩ := HA.out.2 (by omega)
   obtain ⟨v, hv, hcc⟩ := hcs j hjl
   obtain ⟨hw1, hw2, hw3⟩ := Hwf.out L[j] (List.getElem_mem hjl)
   have e1 : L[j].kids.length = v.jn := hv.kids.1
   have e2 : L[j].keys.length = v.kn := by have := hv.keys.1; rw [List.length_map] at this; exact this
   obtain ⟨vk, vs, vi, ko, kn, kc, jo, jn, jc⟩ := v
   dsimp only at e1 e2
   have c3 : V.cell? ⟨b, off + j * 5 + 3, none⟩ = some (.slice ko kn kc) := by simpa using hcc 3 _ rfl
   have c4 : V.cell? ⟨b, off + j * 5 + 4, none⟩ = some (.slice jo jn jc) := by simpa using hcc 4 _ rfl
   have hjn' : (j : Int) < (n : Int) := by omega
   have hj0 : (0 : Int) ≤ (j : Int) := by omega
   by_cases d1 : jn ≤ 100
   ·by_cases d2 : kn ≤ 100
    ·have d1' : ¬ (jn : Int) > 100 := by omega
     have d2' : ¬ (kn : Int) > 100 := by omega
     have HI2 := Lib.hid (show ∀ i (h : i < L.length), i < j + 1 → L[i].kids.length ≤ 100 ∧ L[i].keys.length ≤ 100 from fun i h h0 => by
      rcases Nat.lt_or_ge i j with q | q
      ·exact HI.out i h q
      ·obtain rfl : i = j := by omega
       exact ⟨by omega, by omega⟩)
     clear hcs hcc hv e1 e2 hw1 hw2 hw3
     go_wp2_with fail
     go_round
     case rel => exact ⟨j + 1, by go_num, by omega, by first | rfl | trivial, HI2⟩
     case measure => first | (simp [intOf]; done) | (simp [intOf]; omega)
    ·have d1' : ¬ (jn : Int) > 100 := by omega
     have d2' : (kn : Int) > 100 := by omega
     clear hcs hcc hv e1 e2 hw1 hw2 hw3
     go_wp2_with fail
     go_ret
     exact ⟨false, rfl, (fun h => by cases h), HBV.out⟩
   ·have d1' : (jn : Int) > 100 := by omega
    clear hcs hcc hv e1 e2 hw1 hw2 hw3
    go_wp2_with fail
    go_ret
    exact ⟨false, rfl, (fun h => by cases h), HBV.out⟩
  ·obtain rfl : j = n := by omega
   have HL := Lib.hid (show ∀ x ∈ L, x.kids.length ≤ 100 ∧ x.keys.length ≤ 100 from fun x hx => by
    obtain ⟨i, h, rfl⟩ := List.mem_iff_getElem.1 hx
    exact HI.out i h (by rw [← HLn.out]; exact h))
   go_wp2_with fail
   go_loopw [43] (fun iv wr => ∃ q : Nat, iv = .int .i64 (q : Int) ∧ q ≤ k ∧ wr = V ∧ Hid (∀ i (h : i < F.length), i < q → F[i].params.length ≤ 20)) (fun iv _ => k - (intOf iv).toNat)
   case atStart => exact ⟨0, rfl, Nat.zero_le _, rfl, Lib.hid (fun i h h0 => absurd h0 (Nat.not_lt_zero i))⟩
   case round =>
    obtain ⟨q, rfl, hq, hw, HJ⟩ := hrel
    obtain rfl := hw.symm
    rcases Nat.lt_or_ge q k with hqk | hqk
    ·have hql : q < F.length := by rw [HFk.out]; exact hqk
     obtain ⟨b, off, rfl, hcs⟩ := HF.out.2 (by omega)
     obtain ⟨⟨vs, po, pk, pc, vj⟩, hv, hcc⟩ := hcs q hql
     have e1 : F[q].params.length = pk := by have := hv.ps.1; rw [List.length_map] at this; exact this
     have hw1 := HwF.out F[q] (List.getElem_mem hql)
     have c1 : V.cell? ⟨b, off + q * 3 + 1, none⟩ = some (.slice po pk pc) := by simpa using hcc 1 _ rfl
     have hqk' : (q : Int) < (k : Int) := by omega
     have hq0 : (0 : Int) ≤ (q : Int) := by omega
     by_cases d1 : pk ≤ 20
     ·have d1' : ¬ (pk : Int) > 20 := by omega
      have HJ2 := Lib.hid (show ∀ i (h : i < F.length), i < q + 1 → F[i].params.length ≤ 20 from fun i h h0 => by
       rcases Nat.lt_or_ge i q with r | r
       ·exact HJ.out i h r
       ·obtain rfl : i = q := by omega
        omega)
      clear hcs hcc hv e1 hw1
      go_wp2_with fail
      go_round
      case rel => exact ⟨q + 1, by go_num, by omega, by first | rfl | trivial, HJ2⟩
      case measure => first | (simp [intOf]; done) | (simp [intOf]; omega)
     ·have d1' : (pk : Int) > 20 := by omega
      clear hcs hcc hv e1 hw1
      go_wp2_with fail
      go_ret
      exact ⟨false, rfl, (fun h => by cases h), HBV.out⟩
    ·obtain rfl : q = k := by omega
     go_wp2_with fail
     go_ret
     exact ⟨true, rfl, fun _ => ⟨by rw [HLn.out]; exact c1, by rw [HFk.out]; exact c2, HL.out, fun f hf => by
      obtain ⟨i, h, rfl⟩ := List.mem_iff_getElem.1 hf
      exact HJ.out i h (by rw [← HFk.out]; exact h)⟩, HBV.out⟩
end Syn
end Go.Proofs.YtcapkeaedpabjaaGreatDoor

/-
 Layer 9: the law's right, where a slot is right.
-/
namespace Go.Proofs.YtcapkeaedpabjaaGreatDoor
open Go.RowKit Go.ChangeShapes Go.WideShapes Go.Maps
set_option linter.unusedVariables false
namespace Syn
end Syn
end Go.Proofs.YtcapkeaedpabjaaGreatDoor

/-
 Layer 9: where an error stands; right at a place that is right; Valid.
-/
namespace Go.Proofs.YtcapkeaedpabjaaGreatDoor
open Go.RowKit Go.ChangeShapes Go.WideShapes Go.Maps
namespace Syn
end Syn
end Go.Proofs.YtcapkeaedpabjaaGreatDoor

/-
 Layer 9: the functions that a function calls.
-/
namespace Go.Proofs.YtcapkeaedpabjaaGreatDoor
open Go.RowKit Go.ChangeShapes Go.WideShapes Go.Sort
namespace Syn
end Syn
end Go.Proofs.YtcapkeaedpabjaaGreatDoor

/-
 Layer 9: the functions that a function calls: callsOf, Calls.
-/
namespace Go.Proofs.YtcapkeaedpabjaaGreatDoor
open Go.RowKit Go.ChangeShapes Go.WideShapes Go.Sort
namespace Syn
end Syn
end Go.Proofs.YtcapkeaedpabjaaGreatDoor

/-
 Layer 9: Calls.
-/
namespace Go.Proofs.YtcapkeaedpabjaaGreatDoor
open Go.RowKit Go.ChangeShapes Go.WideShapes Go.Sort
namespace Syn
end Syn
end Go.Proofs.YtcapkeaedpabjaaGreatDoor

/-
 Layer 9: Reachable.
-/
namespace Go.Proofs.YtcapkeaedpabjaaGreatDoor
open Go.RowKit Go.ChangeShapes Go.WideShapes Go.Sort
namespace Syn
end Syn
end Go.Proofs.YtcapkeaedpabjaaGreatDoor

/-
 Layer 9: Ops.
-/
namespace Go.Proofs.YtcapkeaedpabjaaGreatDoor
open Go.RowKit Go.ChangeShapes Go.WideShapes Go.Sort
namespace Syn
/-- A string behind a row of strings. -/
theorem list_appT {base : Nat} {Y : World} {m c : Nat} {a1 : Option Addr} {p : List ByteArray} {x : ByteArray} {b : Nat} {ops : Array Oper} {rest : List Oper} {o : Oper} {a : Act} {Q : Exit → Act → World → Prop} (s y : Operand)
  (ho : o.op = .call { callee := .builtin .append, args := #[s, y], argTypes := #[44, 44] }) (hgd : o.guard = none) (hs : a.eval s = .slice a1 m c) (hx : a.eval y = .slice (some ⟨b, 0, none⟩) 1 1)
  (hR : Y.ownsRow base 9 1 (.slice a1 m c) m (encS p)) (hbase : base ≤ Y.heap.size) (h2 : ∀ j u, [Value.string x][j]? = some u → Y.cell? ((⟨b, 0, none⟩ : Addr).add j) = some u) (hm : m + 1 ≤ 1099511627776)
  (h : ∀ o3 c3 w', Hid (w'.ownsRow base 9 1 (.slice o3 (m + 1) c3) (m + 1) (encS (p ++ [x]))) → Hid (Mod (fun b => base ≤ b) Y w') → wpList Tryz.prog ops Q rest (a.put o.dst (.slice o3 (m + 1) c3)) w') : wpList Tryz.prog ops Q (o :: rest) a Y := by
 obtain ⟨i0, hi, hz0, hz1, hz2⟩ := info_parts info_str
 refine wpList_append_own_at _ hgd s y 44 ho base 9 i0 _ 1 16 Tryz.underlying44 hi hz0 hz1 hz2 rfl (by decide) _ m _ hs hR ⟨b, 0, none⟩ 1 1 [.string x] hx rfl h2 (fun u hu => by simp at hu; subst hu; rfl) (by unfold maxLen; omega) (by omega) hbase ?_
 intro v' w' ho' hg _ hat
 obtain ⟨o3, c3, rfl⟩ := own_shape ho'
 exact h o3 c3 w' (Lib.hid (by rw [show encS (p ++ [x]) = encS p ++ [.string x] by simp [encS]]; exact ho')) (Lib.hid (Mod.grown hg (fun i e => (hR.lt i e).1)))
/-- The texts of the nodes that call the host. -/
def opsN : List Nd → List ByteArray
 | [] => []
 | x :: r => if x.k = 12 then ⟨x.s.toArray⟩ :: opsN r else opsN r
theorem opsN_yes {x : Nd} {r : List Nd} (h : x.k = 12) : opsN (x :: r) = ⟨x.s.toArray⟩ :: opsN r := by rw [opsN, if_pos h]
theorem opsN_no {x : Nd} {r : List Nd} (h : ¬ x.k = 12) : opsN (x :: r) = opsN r := by rw [opsN, if_neg h]
/-- What Ops answers. -/
def opsE (R : Rs) (L : List Nd) : List Txt := if R.er ≠ 0 then [] else Idn.srt ((opsN L).map ByteArray.toList)
def OpsPost (w : World) (D : List Txt) (e : Ending) (w' : World) : Prop := ∃ (o : Option Addr) (m c : Nat) (xs : List ByteArray), e = .returned (.slice o m c) ∧ xs.map ByteArray.toList = D ∧ SlArg w' o m xs ∧ Bel w w'
set_option maxRecDepth 100000 in
set_option maxHeartbeats 8000000 in
theorem ops_any (no fo : Option Addr) (n nc k fc : Nat) (L : List Nd) (F : List Fw) (hf : Fit9 n k L F) (w : World) (hm : Lex.ML w) (hA : NArg w no n L) (hF : FArg w fo k F) :
  Calls Tryz.prog 26 #[.agg #[.slice no n nc, .slice fo k fc]] w (OpsPost w (opsE (resG L F) L)) := by
 obtain ⟨V, hV⟩ : ∃ V, w.alloc (.cells #[.slice no n nc, .slice fo k fc] 25) = V := ⟨_, rfl⟩
 have BV : Bel w V := by rw [← hV]; exact Bel.alloc (Bel.refl _) _
 obtain ⟨v0, v1⟩ : V.cell? ⟨w.heap.size, 0, none⟩ = some (.slice no n nc) ∧ V.cell? ⟨w.heap.size, 1, none⟩ = some (.slice fo k fc) := by
  rw [← hV]
  exact ⟨World.cell?_alloc_new .., World.cell?_alloc_new ..⟩
 have HBV := Lib.hid BV
 have HVe := Lib.hid hV
 have Hv0 := Lib.hid v0
 have Hv1 := Lib.hid v1
 have HLn := Lib.hid hA.1
 have hn := hf.hn
 have HA := Lib.hid hA
 have HC := Lib.hid (scheck_any no fo n nc k fc L F hf V (hm.on BV) (hA.on BV) (hF.on BV))
 unfold opsE
 generalize resG L F = R at *
 obtain ⟨Xs, Xl, Xp, er⟩ := R
 dsimp only at HC ⊢
 clear hf hm hA hF BV hV
 by_cases he : er = 0
 rotate_left
 ·rw [if_pos he]
  have h1 : (er == 0) = false := by simpa using he
  have h2 : (er != 0) = true := by simpa using he
  clear he
  go_enter Tryz.func26, Tryz.ntmps26
  go_wp2_with fail
  rw [HVe.out]
  refine HC.out.mono ?_
  rintro e w2 ⟨rfl, g⟩
  have G := Lib.hid g
  clear g v0 v1
  go_wp2_with fail
  go_ret
  exact ⟨none, 0, 0, [], rfl, rfl, SlArg.nil _, Bel.trans HBV.out G.out⟩
 rw [if_neg (by simpa using he)]
 subst he
 obtain ⟨X, hX⟩ : ∃ X, opsN L = X := ⟨_, rfl⟩
 rw [hX]
 have HX := Lib.hid (show [] ++ opsN (L.drop 0) = X from hX)
 clear hX
 go_enter Tryz.func26, Tryz.ntmps26
 go_wp2_with fail
 rw [HVe.out]
 refine HC.out.mono ?_
 rintro e w2 ⟨rfl, g⟩
 have G := Lib.hid g
 have x0 := g.cell' v0
 have x1 := g.cell' v1
 have hR0 := Lib.hid (show w2.ownsRow V.heap.size 9 1 (.slice none 0 0) 0 (encS []) from World.ownsRow_nil _ _ _ _)
 clear g v0 v1
 go_wp2_with fail
 go_loopw [5, 18] (fun av iv wr => ∃ (j m c : Nat) (a : Option Addr) (acc : List ByteArray), av = .slice a m c ∧ iv = .int .i64 (j : Int) ∧ j ≤ n ∧ m ≤ j ∧ Hid (wr.ownsRow V.heap.size 9 1 (.slice a m c) m (encS acc)) ∧ Hid (Bel V wr) ∧ Hid (acc ++ opsN (L.drop j) = X)) (fun _ iv _ => n - (intOf iv).toNat)
 case atStart => exact ⟨0, 0, 0, none, [], rfl, rfl, Nat.zero_le _, Nat.zero_le _, hR0, G, HX⟩
 case round =>
  obtain ⟨j, m, c, a, acc, rfl, rfl, hj, hmj, HR, HB, HM⟩ := hrel
  rename World => wr
  have v0 := HB.out.cell' Hv0.out
  have v1 := HB.out.cell' Hv1.out
  rcases Nat.lt_or_ge j n with hjc | hjc
  ·have hjL : j < L.length := by rw [HLn.out]; exact hjc
   obtain ⟨nb, nf, rfl, hcs⟩ := HA.out.2 (by omega)
   obtain ⟨v, hv, hcc⟩ := hcs j hjL
   have hM := HM.out
   rw [List.drop_eq_getElem_cons hjL] at hM
   obtain ⟨x, hx⟩ : ∃ x, L[j] = x := ⟨_, rfl⟩
   rw [hx] at hv hM
   have hvk := hv.k
   have hvs := hv.s
   obtain ⟨vk, vs, vi, ko, kn, kc, jo, jn, jc⟩ := v
   dsimp only at hvk hvs
   subst hvk hvs
   have BW := Bel.trans HBV.out HB.out
   have c0 : wr.cell? ⟨nb, nf + j * 5, none⟩ = some (.int .i64 x.k) := BW.cell' (by simpa using hcc 0 _ rfl)
   have c1 : wr.cell? ⟨nb, nf + j * 5 + 1, none⟩ = some (.string ⟨x.s.toArray⟩) := BW.cell' (by simpa using hcc 1 _ rfl)
   have c2 : wr.cell? ⟨nb, nf + j * 5 + 2, none⟩ = some (.int .i64 vi) := BW.cell' (by simpa using hcc 2 _ rfl)
   have c3 : wr.cell? ⟨nb, nf + j * 5 + 3, none⟩ = some (.slice ko kn kc) := BW.cell' (by simpa using hcc 3 _ rfl)
   have c4 : wr.cell? ⟨nb, nf + j * 5 + 4, none⟩ = some (.slice jo jn jc) := BW.cell' (by simpa using hcc 4 _ rfl)
   have hj1 : (j : Int) < (n : Int) := by omega
   have hj0 : (0 : Int) ≤ (j : Int) := by omega
   have HBl := Lib.hid (show Bel wr (wr.alloc (.cells #[.int .i64 x.k, .string ⟨x.s.toArray⟩, .int .i64 vi, .slice ko kn kc, .slice jo jn jc] 65)) from Bel.alloc (Bel.refl _) _)
   clear hv hcc hcs hx BW
   by_cases h12 : x.k = 12
   ·have HM2 := Lib.hid (show (acc ++ [⟨x.s.toArray⟩]) ++ opsN (L.drop (j + 1)) = X by rw [← hM, opsN_yes h12, List.append_assoc]; rfl)
    rw [h12] at c0 HBl
    obtain ⟨xs, hxs⟩ : ∃ xs : ByteArray, (⟨x.s.toArray⟩ : ByteArray) = xs := ⟨_, rfl⟩
    rw [hxs] at c1 HBl HM2
    obtain ⟨W1, hW1⟩ : ∃ W1, wr.alloc (.cells #[.int .i64 12, .string xs, .int .i64 vi, .slice ko kn kc, .slice jo jn jc] 65) = W1 := ⟨_, rfl⟩
    rw [hW1] at HBl
    have HB2 := Lib.hid (Bel.alloc (Bel.trans HB.out HBl.out) (.cells #[.string xs] 9))
    have HR2 := Lib.hid (own_kept (F := fun _ => False) HR.out (Mod.of_bel (Bel.trans HBl.out (Bel.alloc (Bel.refl W1) (.cells #[.string xs] 9)))) (fun _ _ h => h))
    have hbs := HB2.out.size
    have Hnw : Hid (∀ j u, [Value.string xs][j]? = some u → (W1.alloc (.cells #[.string xs] 9)).cell? ((⟨W1.heap.size, 0, none⟩ : Addr).add j) = some u) := Lib.hid (World.news_of_block (cs := #[.string xs]) (t := 9) (fr := (0, 0)) (heap_new W1 _))
    have hz1 : W1.heap.size = wr.heap.size + 1 := by rw [← hW1, alloc_szs]
    have hi1 : m + 1 ≤ 1099511627776 := by omega
    rw [hz1] at Hnw
    rw [← hW1] at HR2 HB2 hbs Hnw
    clear hM hxs hW1 hz1
    go_wp2_with (at_builtin; refine list_appT _ _ rfl rfl rfl rfl HR2.out hbs Hnw.out hi1 ?_; intro o9 c9 w9 k9 g9; refine Hid.out ?_)
    refine Lib.hid ?_
    have G9 := Lib.hid (Mod.bel_of HB2.out g9.out (fun i h => h))
    clear g9
    go_wp2
    go_round
    case rel => exact ⟨j + 1, m + 1, c9, o9, acc ++ [xs], rfl, by go_num, by omega, by omega, k9, G9, HM2⟩
    case measure => first | (simp [intOf]; done) | (simp [intOf]; omega)
   ·have HM2 := Lib.hid (show acc ++ opsN (L.drop (j + 1)) = X by rw [← hM, opsN_no h12])
    have b12 : (x.k == 12) = false := by simpa using h12
    have HR2 := Lib.hid (own_kept (F := fun _ => False) HR.out (Mod.of_bel HBl.out) (fun _ _ h => h))
    have HB2 := Lib.hid (Bel.trans HB.out HBl.out)
    clear hM h12
    go_wp2_with fail
    go_round
    case rel => exact ⟨j + 1, m, c, a, acc, rfl, by go_num, by omega, by omega, HR2, HB2, HM2⟩
    case measure => first | (simp [intOf]; done) | (simp [intOf]; omega)
  ·obtain rfl : j = n := by omega
   have hXa : acc = X := by
    have := HM.out
    rw [List.drop_eq_nil_of_le (by rw [HLn.out]; exact Nat.le_refl _), opsN, List.append_nil] at this
    exact this
   subst hXa
   have HS := Lib.hid (Idn.sorted_any a m c acc (by omega) wr (own_sarg HR.out))
   go_wp2_with fail
   refine HS.out.mono ?_
   rintro e w3 ⟨⟨v, rfl, o3, k3, c3, D, rfl, hD, hown⟩, g⟩
   have HB3 := Lib.hid (Bel.trans HBV.out (Bel.trans HB.out g))
   clear g
   go_wp2_with fail
   go_ret
   exact ⟨o3, k3, c3, D, rfl, hD, own_sarg hown, HB3.out⟩
end Syn
end Go.Proofs.YtcapkeaedpabjaaGreatDoor

/-
 Layer 9: the law Reaches.
-/
namespace Go.Proofs.YtcapkeaedpabjaaGreatDoor
open Go.RowKit Go.ChangeShapes Go.WideShapes
namespace Syn
/-- Which functions a row of bools names. -/
def SeenI (G n : Nat) (l : List Int) (w : World) : Prop := ∀ j : Nat, j < n → w.cell? ⟨G, j, none⟩ = some (.bool (decide ((j : Int) ∈ l))) ∧ w.frozen? ⟨G, j, none⟩ = false
theorem SeenI.step {G n x : Nat} {l : List Int} {w : World} (h : SeenI G n l w) (hx : x < n) : SeenI G n (l ++ [(x : Int)]) (w.setCell ⟨G, x, none⟩ (.bool true)) := fun j hj => by
 refine ⟨?_, by rw [World.frozen?_setCell]; exact (h j hj).2⟩
 by_cases e : j = x
 ·subst e
  rw [World.cell?_setCell_same _ _ _ (h j hj).1]
  simp
 ·rw [World.cell?_setCell_other _ _ _ _ (fun h => e (Addr.mk.inj h).2.1.symm), (h j hj).1]
  have : ¬ ((j : Int) = (x : Int)) := by omega
  simp [this]
theorem SeenI.on {G n : Nat} {l : List Int} {w w' : World} (h : SeenI G n l w) (g : Bel w w') : SeenI G n l w' := fun j hj => ⟨g.cell' (h j hj).1, (mod_froz (Mod.of_bel (F := fun _ => False) g) (h j hj).1 (fun h => h)).trans (h j hj).2⟩
end Syn
end Go.Proofs.YtcapkeaedpabjaaGreatDoor
