/-
  The contract of the reference's Parse.
-/
import Derived.Test.YtghcbicapcpmlaaRatJ
namespace Go.Proofs.Ytghcbicapcpmlaa
open Go.RowKit
namespace Rat2

def rparI (a : ByteArray) (v e : Int) : Prop := ∀ W : World, Calls Try.prog 48 #[.string a] W fun en w' => en = Num.pair v e ∧ W = w'
def rfmtI (n d : Int) (f : ByteArray) : Prop := ∀ W : World, Calls Try.prog 33 #[rv n d] W fun e w' => e = .returned (.string f) ∧ Grown W w'
/-- The bytes ahead of place p are no slashes; at p there is one, or the text ends. -/
def at_ (s : ByteArray) (p : Nat) : Prop := ∀ (k : Nat) (h : k < s.size), k ≤ p → ((s[k].toNat : Int) != 47) = decide (k < p)
theorem at_pos (s : ByteArray) : at_ s (pos s.toList) := by
  intro k h hk
  have hl : k < s.toList.length := by rw [toL_len]; exact h
  have := pos_at s.toList k hk hl
  have hg : s.toList[k] = s[k] := by simp only [toL]; rfl
  rw [List.getElem?_eq_getElem hl, hg] at this
  by_cases e : k = pos s.toList
  · have h47 : s[k] = 47 := by simpa using this.2 e
    rw [h47, ← e]
    simp
  · have h47 : ¬ s[k] = 47 := fun c => e (this.1 (by rw [c]))
    have h47' : ¬ s[k].toNat = 47 := fun c => h47 (UInt8.toNat_inj.1 (by rw [c]; rfl))
    rw [decide_eq_true (by omega)]
    simp only [bne_iff_ne, ne_eq]
    omega

set_option maxHeartbeats 1000000 in
theorem rparse_bad1a (s a : ByteArray) (p : Nat) (hs : s.size ≤ maxLen) (hp : p < s.size) (hat : Hid (at_ s p)) (ha : Hid (s.extract 0 p = a)) (n x : Int) (hA : Hid (rparI a n x)) (hx : (x == 0) = false) (w : World) :
    Calls Try.prog 31 #[.string s] w fun e w' => e = pr 0 0 1 ∧ Grown w w' := by
  unfold maxLen at hs
  have hx2 : (x != 0) = true := by simpa using hx
  go_enter Try.func31, Try.ntmps31
  go_wp2_with fail
  go_loop [4] (fun i => ∃ k : Nat, k ≤ p ∧ i = .int .i64 (k : Int)) (fun i => p - (intOf i).toNat)
  case atStart => exact ⟨0, Nat.zero_le _, rfl⟩
  case round =>
    obtain ⟨k, hk, rfl⟩ := hrel
    by_cases hlt : k < p
    · have hks : k < s.size := by omega
      have hne := hat.out k hks hk
      rw [decide_eq_true hlt] at hne
      have hge : (0 : Int) ≤ (k : Int) := Int.natCast_nonneg _
      go_wp2_with fail
      go_round
      case rel => exact ⟨k + 1, by omega, by go_num⟩
      case measure => simp [intOf]; omega
    · obtain rfl : k = p := by omega
      clear hk hlt
      have hne := hat.out k hp (Nat.le_refl _)
      rw [decide_eq_false (by omega)] at hne
      obtain ⟨a0, a1, f0, f1, z1⟩ := Gr.new2 (Grown.refl (w.alloc (.cells #[.int .i64 0, .int .i64 0] 23)))
      generalize hw1 : w.alloc (.cells #[.int .i64 0, .int .i64 0] 23) = w1 at *
      have G : Grown w w1 := hw1 ▸ (Grown.refl _).alloc _ _
      clear hw1
      go_wp2_with fail
      rw [ha.out]
      refine (hA.out _).mono ?_
      rintro e w2 ⟨rfl, rfl⟩
      unfold Num.pair
      go_wp2_with fail
      exact bodyPost_ret (v := .tuple #[rv 0 0, .int .i64 1]) (by simp [results, Try.results31, go_sem, a0, a1]) rfl ⟨rfl, (G.setCell (Nat.le_refl _) _).setCell (Nat.le_refl _) _⟩

set_option maxHeartbeats 1000000 in
theorem rparse_bad1b (s : ByteArray) (p : Nat) (hs : s.size ≤ maxLen) (hp : p = s.size) (hat : Hid (at_ s p)) (n x : Int) (hA : Hid (rparI s n x)) (hx : (x == 0) = false) (w : World) :
    Calls Try.prog 31 #[.string s] w fun e w' => e = pr 0 0 1 ∧ Grown w w' := by
  unfold maxLen at hs
  have hx2 : (x != 0) = true := by simpa using hx
  go_enter Try.func31, Try.ntmps31
  go_wp2_with fail
  go_loop [4] (fun i => ∃ k : Nat, k ≤ p ∧ i = .int .i64 (k : Int)) (fun i => p - (intOf i).toNat)
  case atStart => exact ⟨0, Nat.zero_le _, rfl⟩
  case round =>
    obtain ⟨k, hk, rfl⟩ := hrel
    by_cases hlt : k < p
    · have hks : k < s.size := by omega
      have hne := hat.out k hks hk
      rw [decide_eq_true hlt] at hne
      have hge : (0 : Int) ≤ (k : Int) := Int.natCast_nonneg _
      go_wp2_with fail
      go_round
      case rel => exact ⟨k + 1, by omega, by go_num⟩
      case measure => simp [intOf]; omega
    · obtain rfl : k = p := by omega
      clear hk hlt
      subst hp
      obtain ⟨a0, a1, f0, f1, z1⟩ := Gr.new2 (Grown.refl (w.alloc (.cells #[.int .i64 0, .int .i64 0] 23)))
      generalize hw1 : w.alloc (.cells #[.int .i64 0, .int .i64 0] 23) = w1 at *
      have G : Grown w w1 := hw1 ▸ (Grown.refl _).alloc _ _
      clear hw1
      go_wp2_with fail
      refine (hA.out _).mono ?_
      rintro e w2 ⟨rfl, rfl⟩
      unfold Num.pair
      go_wp2_with fail
      exact bodyPost_ret (v := .tuple #[rv 0 0, .int .i64 1]) (by simp [results, Try.results31, go_sem, a0, a1]) rfl ⟨rfl, (G.setCell (Nat.le_refl _) _).setCell (Nat.le_refl _) _⟩

set_option maxHeartbeats 1000000 in
theorem rparse_bad2 (s a : ByteArray) (p : Nat) (hs : s.size ≤ maxLen) (hp : p < s.size) (hat : Hid (at_ s p)) (ha : Hid (s.extract 0 p = a)) (b : ByteArray) (hb : Hid (s.extract (p + 1) s.size = b)) (n m x : Int) (hA : Hid (rparI a n 0)) (hB : Hid (rparI b m x)) (hx : (x == 0) = false) (w : World) :
    Calls Try.prog 31 #[.string s] w fun e w' => e = pr 0 0 1 ∧ Grown w w' := by
  unfold maxLen at hs
  have hx2 : (x != 0) = true := by simpa using hx
  go_enter Try.func31, Try.ntmps31
  go_wp2_with fail
  go_loop [4] (fun i => ∃ k : Nat, k ≤ p ∧ i = .int .i64 (k : Int)) (fun i => p - (intOf i).toNat)
  case atStart => exact ⟨0, Nat.zero_le _, rfl⟩
  case round =>
    obtain ⟨k, hk, rfl⟩ := hrel
    by_cases hlt : k < p
    · have hks : k < s.size := by omega
      have hne := hat.out k hks hk
      rw [decide_eq_true hlt] at hne
      have hge : (0 : Int) ≤ (k : Int) := Int.natCast_nonneg _
      go_wp2_with fail
      go_round
      case rel => exact ⟨k + 1, by omega, by go_num⟩
      case measure => simp [intOf]; omega
    · obtain rfl : k = p := by omega
      clear hk hlt
      have hne := hat.out k hp (Nat.le_refl _)
      rw [decide_eq_false (by omega)] at hne
      obtain ⟨a0, a1, f0, f1, z1⟩ := Gr.new2 (Grown.refl (w.alloc (.cells #[.int .i64 0, .int .i64 0] 23)))
      generalize hw1 : w.alloc (.cells #[.int .i64 0, .int .i64 0] 23) = w1 at *
      have G : Grown w w1 := hw1 ▸ (Grown.refl _).alloc _ _
      clear hw1
      go_wp2_with fail
      rw [ha.out]
      refine (hA.out _).mono ?_
      rintro e w2 ⟨rfl, rfl⟩
      unfold Num.pair
      go_wp2_with fail
      rw [hb.out]
      refine (hB.out _).mono ?_
      rintro e w2 ⟨rfl, rfl⟩
      unfold Num.pair
      go_wp2_with fail
      exact bodyPost_ret (v := .tuple #[rv 0 0, .int .i64 1]) (by simp [results, Try.results31, go_sem, a0, a1]) rfl ⟨rfl, (G.setCell (Nat.le_refl _) _).setCell (Nat.le_refl _) _⟩

set_option maxHeartbeats 1000000 in
theorem rparse_ok1 (s : ByteArray) (p : Nat) (hs : s.size ≤ maxLen) (hp : p = s.size) (hat : Hid (at_ s p)) (f : ByteArray) (n : Int) (t : Bool) (hA : Hid (rparI s n 0)) (hF : Hid (rfmtI n 1 f)) (ht : Hid ((f.toList == s.toList) = t)) (w : World) :
    Calls Try.prog 31 #[.string s] w fun e w' => e = pr (if t then n else 0) (if t then 1 else 0) (if t then 0 else 1) ∧ Grown w w' := by
  unfold maxLen at hs
  go_enter Try.func31, Try.ntmps31
  go_wp2_with fail
  go_loop [4] (fun i => ∃ k : Nat, k ≤ p ∧ i = .int .i64 (k : Int)) (fun i => p - (intOf i).toNat)
  case atStart => exact ⟨0, Nat.zero_le _, rfl⟩
  case round =>
    obtain ⟨k, hk, rfl⟩ := hrel
    by_cases hlt : k < p
    · have hks : k < s.size := by omega
      have hne := hat.out k hks hk
      rw [decide_eq_true hlt] at hne
      have hge : (0 : Int) ≤ (k : Int) := Int.natCast_nonneg _
      go_wp2_with fail
      go_round
      case rel => exact ⟨k + 1, by omega, by go_num⟩
      case measure => simp [intOf]; omega
    · obtain rfl : k = p := by omega
      clear hk hlt
      subst hp
      obtain ⟨a0, a1, f0, f1, z1⟩ := Gr.new2 (Grown.refl (w.alloc (.cells #[.int .i64 0, .int .i64 0] 23)))
      generalize hw1 : w.alloc (.cells #[.int .i64 0, .int .i64 0] 23) = w1 at *
      have G : Grown w w1 := hw1 ▸ (Grown.refl _).alloc _ _
      clear hw1
      go_wp2_with fail
      refine (hA.out _).mono ?_
      rintro e w2 ⟨rfl, rfl⟩
      unfold Num.pair
      go_wp2_with fail
      refine (hF.out _).mono ?_
      rintro e w3 ⟨rfl, g3⟩
      have g4 : Grown (w1.alloc (.cells #[.int .i64 n, .int .i64 1] 23)) w3 := g3
      obtain ⟨k0, k1, _, _, z2⟩ := Gr.new2 g4
      have g5 : Grown w1 w3 := Gr.trans ((Grown.refl _).alloc _ _) g4
      have A0 := Gr.old g5 z1 a0
      have A1 := Gr.old g5 z1 a1
      have F0 := Gr.oldF g5 f0
      have F1 := Gr.oldF g5 f1
      have G2 := Gr.trans G g5
      clear a0 a1 f0 f1 g3 g4 g5 G
      cases t
      · have T := ht.out
        go_wp2_with fail
        exact bodyPost_ret (v := .tuple #[rv 0 0, .int .i64 1]) (by simp [results, Try.results31, go_sem, A0, A1]) rfl ⟨rfl, (G2.setCell (Nat.le_refl _) _).setCell (Nat.le_refl _) _⟩
      · have T := ht.out
        go_wp2_with fail
        exact bodyPost_ret (v := .tuple #[rv n 1, .int .i64 0]) (by simp [results, Try.results31, go_sem, A0, A1]) rfl ⟨rfl, (G2.setCell (Nat.le_refl _) _).setCell (Nat.le_refl _) _⟩

set_option maxHeartbeats 1000000 in
theorem rparse_ok2 (s a : ByteArray) (p : Nat) (hs : s.size ≤ maxLen) (hp : p < s.size) (hat : Hid (at_ s p)) (ha : Hid (s.extract 0 p = a)) (b : ByteArray) (hb : Hid (s.extract (p + 1) s.size = b)) (f : ByteArray) (n m : Int) (t : Bool) (hA : Hid (rparI a n 0)) (hB : Hid (rparI b m 0)) (hF : Hid (rfmtI n m f)) (ht : Hid ((f.toList == s.toList) = t)) (w : World) :
    Calls Try.prog 31 #[.string s] w fun e w' => e = pr (if t then n else 0) (if t then m else 0) (if t then 0 else 1) ∧ Grown w w' := by
  unfold maxLen at hs
  go_enter Try.func31, Try.ntmps31
  go_wp2_with fail
  go_loop [4] (fun i => ∃ k : Nat, k ≤ p ∧ i = .int .i64 (k : Int)) (fun i => p - (intOf i).toNat)
  case atStart => exact ⟨0, Nat.zero_le _, rfl⟩
  case round =>
    obtain ⟨k, hk, rfl⟩ := hrel
    by_cases hlt : k < p
    · have hks : k < s.size := by omega
      have hne := hat.out k hks hk
      rw [decide_eq_true hlt] at hne
      have hge : (0 : Int) ≤ (k : Int) := Int.natCast_nonneg _
      go_wp2_with fail
      go_round
      case rel => exact ⟨k + 1, by omega, by go_num⟩
      case measure => simp [intOf]; omega
    · obtain rfl : k = p := by omega
      clear hk hlt
      have hne := hat.out k hp (Nat.le_refl _)
      rw [decide_eq_false (by omega)] at hne
      obtain ⟨a0, a1, f0, f1, z1⟩ := Gr.new2 (Grown.refl (w.alloc (.cells #[.int .i64 0, .int .i64 0] 23)))
      generalize hw1 : w.alloc (.cells #[.int .i64 0, .int .i64 0] 23) = w1 at *
      have G : Grown w w1 := hw1 ▸ (Grown.refl _).alloc _ _
      clear hw1
      go_wp2_with fail
      rw [ha.out]
      refine (hA.out _).mono ?_
      rintro e w2 ⟨rfl, rfl⟩
      unfold Num.pair
      go_wp2_with fail
      rw [hb.out]
      refine (hB.out _).mono ?_
      rintro e w2 ⟨rfl, rfl⟩
      unfold Num.pair
      go_wp2_with fail
      refine (hF.out _).mono ?_
      rintro e w3 ⟨rfl, g3⟩
      have g4 : Grown (w1.alloc (.cells #[.int .i64 n, .int .i64 m] 23)) w3 := g3
      obtain ⟨k0, k1, _, _, z2⟩ := Gr.new2 g4
      have g5 : Grown w1 w3 := Gr.trans ((Grown.refl _).alloc _ _) g4
      have A0 := Gr.old g5 z1 a0
      have A1 := Gr.old g5 z1 a1
      have F0 := Gr.oldF g5 f0
      have F1 := Gr.oldF g5 f1
      have G2 := Gr.trans G g5
      clear a0 a1 f0 f1 g3 g4 g5 G
      cases t
      · have T := ht.out
        go_wp2_with fail
        exact bodyPost_ret (v := .tuple #[rv 0 0, .int .i64 1]) (by simp [results, Try.results31, go_sem, A0, A1]) rfl ⟨rfl, (G2.setCell (Nat.le_refl _) _).setCell (Nat.le_refl _) _⟩
      · have T := ht.out
        go_wp2_with fail
        exact bodyPost_ret (v := .tuple #[rv n m, .int .i64 0]) (by simp [results, Try.results31, go_sem, A0, A1]) rfl ⟨rfl, (G2.setCell (Nat.le_refl _) _).setCell (Nat.le_refl _) _⟩

theorem rparse_any (s : ByteArray) (hs : s.size ≤ maxLen) (w : World) :
    Calls Try.prog 31 #[.string s] w fun e w' => e = pr (if pOk s then pNum s else 0) (if pOk s then pDen s else 0) (if pOk s then 0 else 1) ∧ Grown w w' := by
  have hat := Lib.hid (at_pos s)
  have hA : rparI (bef s) (Num.parV (bef s).toList) (Num.parE (bef s).toList) := fun W => Num.rparse_any (bef s) (Nat.le_trans (bef_size s) hs) W
  have hB : rparI (aft s) (Num.parV (aft s).toList) (Num.parE (aft s).toList) := fun W => Num.rparse_any (aft s) (Nat.le_trans (aft_size s) hs) W
  have hF : rfmtI (pNum s) (pDen s) ⟨(fmtR (pNum s) (pDen s)).toArray⟩ := fun W => rformat_any _ _ W
  have hx : (⟨(fmtR (pNum s) (pDen s)).toArray⟩ : ByteArray).toList = fmtR (pNum s) (pDen s) := Go.ByteArray.toList_mk _
  have hle := pos_le s.toList
  rw [toL_len] at hle
  by_cases hp : pos s.toList < s.size
  · have hh : has s = true := decide_eq_true hp
    have ea : s.extract 0 (pos s.toList) = bef s := by unfold bef; rw [if_pos hp]
    have eb : s.extract (pos s.toList + 1) s.size = aft s := by unfold aft; rw [if_pos hp]
    by_cases h1 : Num.parE (bef s).toList = 0
    · rw [h1] at hA
      by_cases h2 : Num.parE (aft s).toList = 0
      · rw [h2] at hB
        rw [pOk_rest h1 (fun _ => h2)]
        have hd : pDen s = Num.parV (aft s).toList := by unfold pDen; rw [hh]; rfl
        rw [hd] at hF hx ⊢
        exact rparse_ok2 s _ _ hs hp hat (Lib.hid ea) _ (Lib.hid eb) _ (pNum s) _ _ (Lib.hid hA) (Lib.hid hB) (Lib.hid hF) (Lib.hid (by rw [hx])) w
      · rw [pOk_bad2 hh h2]
        exact rparse_bad2 s _ _ hs hp hat (Lib.hid ea) _ (Lib.hid eb) _ _ _ (Lib.hid hA) (Lib.hid hB) (by simpa using h2) w
    · rw [pOk_bad1 h1]
      exact rparse_bad1a s _ _ hs hp hat (Lib.hid ea) _ _ (Lib.hid hA) (by simpa using h1) w
  · have hh : has s = false := decide_eq_false hp
    have hq : pos s.toList = s.size := by omega
    have ea : bef s = s := by
      unfold bef
      rw [if_neg hp]
    rw [ea] at hA
    by_cases h1 : Num.parE (bef s).toList = 0
    · rw [← ea, h1, ea] at hA
      rw [pOk_rest h1 (fun e => by rw [hh] at e; cases e)]
      have hd : pDen s = 1 := by unfold pDen; rw [hh]; rfl
      have hn : Num.parV s.toList = pNum s := by unfold pNum; rw [ea]
      rw [hn] at hA
      rw [hd] at hF hx ⊢
      exact rparse_ok1 s _ hs hq hat _ (pNum s) _ (Lib.hid hA) (Lib.hid hF) (Lib.hid (by rw [hx])) w
    · rw [pOk_bad1 h1]
      rw [ea] at h1
      exact rparse_bad1b s _ hs hq hat _ _ (Lib.hid hA) (by simpa using h1) w

end Rat2
end Go.Proofs.Ytghcbicapcpmlaa
