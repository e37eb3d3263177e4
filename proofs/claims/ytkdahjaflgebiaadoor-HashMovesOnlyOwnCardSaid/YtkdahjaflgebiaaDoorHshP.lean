/-
  The comparison of two nodes: cmp.Compare, cmp.Or, and the closure over the table of scores.
-/
import Derived.Test.YtkdahjaflgebiaaDoorHshT
import Derived.Test.YtkdahjaflgebiaaDoorHshM
namespace Go.Proofs.YtkdahjaflgebiaaDoor
open Go.RowKit

/-- New blocks and draws, and nothing else. -/
def Ahd (W w' : World) : Prop := ∃ (q : Nat) (os : Array Obj), w' = Go.Sort.grow (W.drewN q) os
theorem Ahd.refl (W : World) : Ahd W W := ⟨0, #[], by rw [Go.Sort.grow_empty]; rfl⟩
theorem Ahd.drew {W w : World} (h : Ahd W w) : Ahd W w.drew := by
  obtain ⟨q, os, rfl⟩ := h
  exact ⟨q + 1, os, rfl⟩
theorem Ahd.alloc {W w : World} (h : Ahd W w) (o : Obj) : Ahd W (w.alloc o) := by
  obtain ⟨q, os, rfl⟩ := h
  exact ⟨q, os.push o, by unfold World.alloc Go.Sort.grow; simp⟩
theorem Ahd.bel {W w : World} (h : Ahd W w) : Bel W w := by
  obtain ⟨q, os, rfl⟩ := h
  exact Bel.grow W q os
namespace Hsh

def cmpN (x y : Nat) : Int := if x < y then -1 else if y < x then 1 else 0
theorem nanU (x : Int) (w : World) : Calls Tryd.prog 70 #[.int .u64 x] w fun e w' => e = .returned (.bool false) ∧ w' = w := by
  go_enter Tryd.func70, Tryd.ntmps70
  go_wp2
  go_ret
  exact ⟨rfl, rfl⟩
theorem nanI (x : Int) (w : World) : Calls Tryd.prog 71 #[.int .i64 x] w fun e w' => e = .returned (.bool false) ∧ w' = w := by
  go_enter Tryd.func71, Tryd.ntmps71
  go_wp2
  go_ret
  exact ⟨rfl, rfl⟩
theorem cmpU (x y : Nat) (w : World) : Calls Tryd.prog 50 #[.int .u64 (x : Int), .int .u64 (y : Int)] w fun e w' => e = .returned (.int .i64 (cmpN x y)) ∧ w' = w := by
  unfold cmpN
  by_cases h1 : x < y
  · rw [if_pos h1]
    go_enter Tryd.func50, Tryd.ntmps50
    go_wp2_with (go_at_call 70; refine (nanU _ _).mono ?_; rintro e w' ⟨rfl, rfl⟩)
    go_ret
    exact ⟨rfl, rfl⟩
  · rw [if_neg h1]
    by_cases h2 : y < x
    · rw [if_pos h2]
      clear h1
      go_enter Tryd.func50, Tryd.ntmps50
      go_wp2_with (go_at_call 70; refine (nanU _ _).mono ?_; rintro e w' ⟨rfl, rfl⟩)
      go_ret
      exact ⟨rfl, rfl⟩
    · rw [if_neg h2]
      obtain rfl : x = y := by omega
      clear h1 h2
      go_enter Tryd.func50, Tryd.ntmps50
      go_wp2_with (go_at_call 70; refine (nanU _ _).mono ?_; rintro e w' ⟨rfl, rfl⟩)
      go_ret
      exact ⟨rfl, rfl⟩
theorem cmpI (x y : Nat) (w : World) : Calls Tryd.prog 51 #[.int .i64 (x : Int), .int .i64 (y : Int)] w fun e w' => e = .returned (.int .i64 (cmpN x y)) ∧ w' = w := by
  unfold cmpN
  by_cases h1 : x < y
  · rw [if_pos h1]
    go_enter Tryd.func51, Tryd.ntmps51
    go_wp2_with (go_at_call 71; refine (nanI _ _).mono ?_; rintro e w' ⟨rfl, rfl⟩)
    go_ret
    exact ⟨rfl, rfl⟩
  · rw [if_neg h1]
    by_cases h2 : y < x
    · rw [if_pos h2]
      clear h1
      go_enter Tryd.func51, Tryd.ntmps51
      go_wp2_with (go_at_call 71; refine (nanI _ _).mono ?_; rintro e w' ⟨rfl, rfl⟩)
      go_ret
      exact ⟨rfl, rfl⟩
    · rw [if_neg h2]
      obtain rfl : x = y := by omega
      clear h1 h2
      go_enter Tryd.func51, Tryd.ntmps51
      go_wp2_with (go_at_call 71; refine (nanI _ _).mono ?_; rintro e w' ⟨rfl, rfl⟩)
      go_ret
      exact ⟨rfl, rfl⟩
def orI (a b : Int) : Int := if a = 0 then b else a
theorem or_any (g c : Nat) (a b : Int) (w : World) (h0 : w.cell? ⟨g, 0, none⟩ = some (.int .i64 a)) (h1 : w.cell? ⟨g, 1, none⟩ = some (.int .i64 b)) :
    Calls Tryd.prog 49 #[.slice (some ⟨g, 0, none⟩) 2 c] w fun e w' => e = .returned (.int .i64 (orI a b)) ∧ w' = w := by
  unfold orI
  by_cases ha : a = 0
  · rw [if_pos ha]
    subst ha
    by_cases hb : b = 0
    · subst hb
      go_enter Tryd.func49, Tryd.ntmps49
      go_wp2
      go_loop [8] (fun i => ∃ k : Nat, k ≤ 2 ∧ i = .int .i64 (k : Int)) (fun i => 2 - (intOf i).toNat)
      case atStart => exact ⟨0, Nat.zero_le _, rfl⟩
      case round =>
        obtain ⟨k, hk, rfl⟩ := hrel
        rcases (show k = 0 ∨ k = 1 ∨ k = 2 by omega) with rfl | rfl | rfl
        · go_wp2
          go_round
          case rel => exact ⟨1, by omega, rfl⟩
          case measure => simp [intOf]
        · go_wp2
          go_round
          case rel => exact ⟨2, by omega, rfl⟩
          case measure => simp [intOf]
        · go_wp2
          go_ret
          exact ⟨rfl, rfl⟩
    · have hb' : (b != 0) = true := by simpa using hb
      go_enter Tryd.func49, Tryd.ntmps49
      go_wp2
      go_loop [8] (fun i => ∃ k : Nat, k ≤ 1 ∧ i = .int .i64 (k : Int)) (fun i => 2 - (intOf i).toNat)
      case atStart => exact ⟨0, Nat.zero_le _, rfl⟩
      case round =>
        obtain ⟨k, hk, rfl⟩ := hrel
        rcases (show k = 0 ∨ k = 1 by omega) with rfl | rfl
        · go_wp2
          go_round
          case rel => exact ⟨1, by omega, rfl⟩
          case measure => simp [intOf]
        · go_wp2
          go_ret
          exact ⟨rfl, rfl⟩
  · rw [if_neg ha]
    have ha' : (a != 0) = true := by simpa using ha
    go_enter Tryd.func49, Tryd.ntmps49
    go_wp2
    go_loop [8] (fun i => ∃ k : Nat, k ≤ 0 ∧ i = .int .i64 (k : Int)) (fun i => 2 - (intOf i).toNat)
    case atStart => exact ⟨0, Nat.zero_le _, rfl⟩
    case round =>
      obtain ⟨k, hk, rfl⟩ := hrel
      obtain rfl : k = 0 := by omega
      go_wp2
      go_ret
      exact ⟨rfl, rfl⟩

/-- The comparison of two nodes. -/
def cfN (sc : Nat → Nat) (x y : Nat) : Int := orI (cmpN (sc y) (sc x)) (cmpN x y)
theorem cfN_lt (sc : Nat → Nat) (x y : Nat) : (cfN sc x y < 0) ↔ lt sc x y = true := by
  unfold cfN orI cmpN lt
  simp only [decide_eq_true_eq]
  repeat' split
  all_goals omega
theorem orS (c1 c2 v : Int) (hv : Hid (orI c1 c2 = v)) (W w : World) (t : TypeId) (p q : Addr) (a b : Int) (h1 : w.cell? p = some (.int .u64 a)) (h2 : w.cell? q = some (.int .u64 b)) (h3 : Ahd W w) :
    Calls Tryd.prog 49 #[.slice (some ⟨w.heap.size, 0, none⟩) 2 2] (w.alloc (.cells #[.int .i64 c1, .int .i64 c2] t)).drew fun e w' => e = .returned (.int .i64 v) ∧ w'.cell? p = some (.int .u64 a) ∧ w'.cell? q = some (.int .u64 b) ∧ Ahd W w' := by
  refine (or_any _ 2 c1 c2 _ ?_ ?_).mono ?_
  · show (w.alloc (.cells #[.int .i64 c1, .int .i64 c2] t)).cell? _ = _
    rw [World.cell?_alloc_new]; rfl
  · show (w.alloc (.cells #[.int .i64 c1, .int .i64 c2] t)).cell? _ = _
    rw [World.cell?_alloc_new]; rfl
  · rintro e w' ⟨he, rfl⟩
    exact ⟨by rw [he, hv.out], ((Bel.refl w).alloc _).cell' h1, ((Bel.refl w).alloc _).cell' h2, (h3.alloc _).drew⟩
set_option maxHeartbeats 4000000 in
theorem closure_core (B x y a b : Nat) (c1 c2 v : Int) (hx : x < 64) (hy : y < 64) (W : World) (ha : W.cell? ⟨B, x, none⟩ = some (.int .u64 (a : Int))) (hb : W.cell? ⟨B, y, none⟩ = some (.int .u64 (b : Int)))
    (k1 : Hid (∀ w : World, Calls Tryd.prog 50 #[.int .u64 (b : Int), .int .u64 (a : Int)] w fun e w' => e = .returned (.int .i64 c1) ∧ w' = w)) (k2 : Hid (∀ w : World, Calls Tryd.prog 51 #[.int .i64 (x : Int), .int .i64 (y : Int)] w fun e w' => e = .returned (.int .i64 c2) ∧ w' = w)) (hv : Hid (orI c1 c2 = v)) :
    Calls Tryd.prog 48 #[.int .i64 (x : Int), .int .i64 (y : Int), .pointer (some ⟨B, 0, none⟩)] W fun e w' => e = .returned (.int .i64 v) ∧ Ahd W w' := by
  have G := Ahd.refl W
  have hx' : (x : Int) < 64 := by omega
  have hy' : (y : Int) < 64 := by omega
  go_enter Tryd.func48, Tryd.ntmps48
  go_wp2_with fail
  go_region_held3 (fun w' => w'.cell? ⟨B, x, none⟩ = some (.int .u64 (a : Int)) ∧ w'.cell? ⟨B, y, none⟩ = some (.int .u64 (b : Int)) ∧ Ahd W w') (first | exact ⟨h1, h2, h3⟩ | exact ⟨ha, hb, Ahd.drew G⟩ | exact ⟨((Bel.refl W).alloc _).cell' ha, ((Bel.refl W).alloc _).cell' hb, Ahd.drew (Ahd.alloc G _)⟩) (first | (go_at_call 50; (with_reducible refine (k1.out _).mono ?_); rintro e w' ⟨rfl, rfl⟩) | (go_at_call 51; (with_reducible refine (k2.out _).mono ?_); rintro e w' ⟨rfl, rfl⟩) | (go_at_call 49; (with_reducible refine (orS c1 c2 v hv W _ _ ⟨B, x, none⟩ ⟨B, y, none⟩ a b ?_ ?_ ?_).mono ?_); (first | assumption | exact ha); (first | assumption | exact hb); (first | assumption | exact G | exact Ahd.drew G); rintro e w' ⟨rfl, h1, h2, h3⟩))
  all_goals
    go_wp2_with fail
    go_ret
    exact ⟨rfl, h3⟩
theorem closure_any (B x y : Nat) (sc : Nat → Nat) (hx : x < 64) (hy : y < 64) (W : World) (ha : W.cell? ⟨B, x, none⟩ = some (.int .u64 (sc x : Int))) (hb : W.cell? ⟨B, y, none⟩ = some (.int .u64 (sc y : Int))) :
    Calls Tryd.prog 48 #[.int .i64 (x : Int), .int .i64 (y : Int), .pointer (some ⟨B, 0, none⟩)] W fun e w' => e = .returned (.int .i64 (cfN sc x y)) ∧ Ahd W w' :=
  closure_core B x y _ _ _ _ _ hx hy W ha hb (Lib.hid (cmpU (sc y) (sc x))) (Lib.hid (cmpI x y)) (Lib.hid rfl)
end Hsh
end Go.Proofs.YtkdahjaflgebiaaDoor
