/-
  The contract of Parse.
-/
import Derived.Test.YtghcbicapcpmlaaRatI
namespace Go.Proofs.Ytghcbicapcpmlaa
open Go.RowKit
namespace Rat2

/-- What Parse reads: both parts, and whether the text is the one that Format returns. -/
def pNum (s : ByteArray) : Int := Num.parV (bef s).toList
def pDen (s : ByteArray) : Int := if has s then Num.parV (aft s).toList else 1
def pOk (s : ByteArray) : Bool := decide (Num.parE (bef s).toList = 0) && ((!has s || decide (Num.parE (aft s).toList = 0)) && ((fmtR (pNum s) (pDen s)) == s.toList))
abbrev prP (s : ByteArray) : Ending := pr (if pOk s then pNum s else 0) (if pOk s then pDen s else 0) (if pOk s then 0 else 1)

def cutI (s a b : ByteArray) (h : Bool) : Prop := ∀ W : World, Calls Try.prog 46 #[.string s, .string ⟨#[47]⟩] W fun e w' => e = .returned (.tuple #[.string a, .string b, .bool h]) ∧ Grown W w'
def parI (a : ByteArray) (v e : Int) : Prop := ∀ W : World, Calls Try.prog 47 #[.string a] W fun en w' => en = Num.pair v e ∧ W = w'
def fmtI (n d : Int) (f : ByteArray) : Prop := ∀ W : World, Calls Try.prog 32 #[rv n d] W fun e w' => e = .returned (.string f) ∧ Grown W w'

theorem parse_bad1 (s a b : ByteArray) (h : Bool) (n x : Int) (hC : Hid (cutI s a b h)) (hA : Hid (parI a n x)) (hx : (x == 0) = false) (w : World) :
    Calls Try.prog 30 #[.string s] w fun e w' => e = pr 0 0 1 ∧ Grown w w' := by
  have hx2 : (x != 0) = true := by simpa using hx
  go_enter Try.func30, Try.ntmps30
  go_wp2_with fail
  refine (hC.out _).mono ?_
  rintro e w1 ⟨rfl, g1⟩
  obtain ⟨a0, a1, f0, f1, z1⟩ := Gr.new2 g1
  have G := Gr.trans ((Grown.refl _).alloc _ _) g1
  clear g1
  go_wp2_with fail
  refine (hA.out _).mono ?_
  rintro e w2 ⟨rfl, rfl⟩
  unfold Num.pair
  go_wp2_with fail
  exact bodyPost_ret (v := .tuple #[rv 0 0, .int .i64 1]) (by simp [results, Try.results30, go_sem, a0, a1, z1]) rfl ⟨rfl, ((G.setCell (Nat.le_refl _) _).setCell (Nat.le_refl _) _).alloc _ _⟩
theorem parse_bad2 (s a b : ByteArray) (n m x : Int) (hC : Hid (cutI s a b true)) (hA : Hid (parI a n 0)) (hB : Hid (parI b m x)) (hx : (x == 0) = false) (w : World) :
    Calls Try.prog 30 #[.string s] w fun e w' => e = pr 0 0 1 ∧ Grown w w' := by
  have hx2 : (x != 0) = true := by simpa using hx
  go_enter Try.func30, Try.ntmps30
  go_wp2_with fail
  refine (hC.out _).mono ?_
  rintro e w1 ⟨rfl, g1⟩
  obtain ⟨a0, a1, f0, f1, z1⟩ := Gr.new2 g1
  have G := Gr.trans ((Grown.refl _).alloc _ _) g1
  clear g1
  go_wp2_with fail
  refine (hA.out _).mono ?_
  rintro e w2 ⟨rfl, rfl⟩
  unfold Num.pair
  go_wp2_with fail
  refine (hB.out _).mono ?_
  rintro e w2 ⟨rfl, rfl⟩
  unfold Num.pair
  go_wp2_with fail
  exact bodyPost_ret (v := .tuple #[rv 0 0, .int .i64 1]) (by simp [results, Try.results30, go_sem, a0, a1, z1]) rfl ⟨rfl, ((G.setCell (Nat.le_refl _) _).setCell (Nat.le_refl _) _).alloc _ _⟩
theorem parse_ok1 (s a b f : ByteArray) (n : Int) (t : Bool) (hC : Hid (cutI s a b false)) (hA : Hid (parI a n 0)) (hF : Hid (fmtI n 1 f)) (ht : Hid ((f.toList == s.toList) = t)) (w : World) :
    Calls Try.prog 30 #[.string s] w fun e w' => e = pr (if t then n else 0) (if t then 1 else 0) (if t then 0 else 1) ∧ Grown w w' := by
  go_enter Try.func30, Try.ntmps30
  go_wp2_with fail
  refine (hC.out _).mono ?_
  rintro e w1 ⟨rfl, g1⟩
  obtain ⟨a0, a1, f0, f1, z1⟩ := Gr.new2 g1
  have G := Gr.trans ((Grown.refl _).alloc _ _) g1
  clear g1
  go_wp2_with fail
  refine (hA.out _).mono ?_
  rintro e w2 ⟨rfl, rfl⟩
  unfold Num.pair
  go_wp2_with fail
  refine (hF.out _).mono ?_
  rintro e w3 ⟨rfl, g3⟩
  have g4 : Grown (w1.alloc (.cells #[.int .i64 n, .int .i64 1] 23)) w3 := g3
  obtain ⟨k0, k1, _, _, z2⟩ := Gr.new2 g4
  have g5 : Grown w1 w3 := Gr.trans ((Grown.refl _).alloc _ _) g4
  have A0 := Gr.old g5 z1 a0
  have A1 := Gr.old g5 z1 a1
  have F0 := Gr.oldF g5 f0
  have F1 := Gr.oldF g5 f1
  have G2 := Gr.trans G g5
  clear a0 a1 f0 f1 g3 g4 g5 G
  cases t
  · have T := ht.out
    go_wp2_with fail
    exact bodyPost_ret (v := .tuple #[rv 0 0, .int .i64 1]) (by simp [results, Try.results30, go_sem, A0, A1]) rfl ⟨rfl, (G2.setCell (Nat.le_refl _) _).setCell (Nat.le_refl _) _⟩
  · have T := ht.out
    go_wp2_with fail
    exact bodyPost_ret (v := .tuple #[rv n 1, .int .i64 0]) (by simp [results, Try.results30, go_sem, A0, A1]) rfl ⟨rfl, (G2.setCell (Nat.le_refl _) _).setCell (Nat.le_refl _) _⟩
theorem parse_ok2 (s a b f : ByteArray) (n m : Int) (t : Bool) (hC : Hid (cutI s a b true)) (hA : Hid (parI a n 0)) (hB : Hid (parI b m 0)) (hF : Hid (fmtI n m f)) (ht : Hid ((f.toList == s.toList) = t)) (w : World) :
    Calls Try.prog 30 #[.string s] w fun e w' => e = pr (if t then n else 0) (if t then m else 0) (if t then 0 else 1) ∧ Grown w w' := by
  go_enter Try.func30, Try.ntmps30
  go_wp2_with fail
  refine (hC.out _).mono ?_
  rintro e w1 ⟨rfl, g1⟩
  obtain ⟨a0, a1, f0, f1, z1⟩ := Gr.new2 g1
  have G := Gr.trans ((Grown.refl _).alloc _ _) g1
  clear g1
  go_wp2_with fail
  refine (hA.out _).mono ?_
  rintro e w2 ⟨rfl, rfl⟩
  unfold Num.pair
  go_wp2_with fail
  refine (hB.out _).mono ?_
  rintro e w2 ⟨rfl, rfl⟩
  unfold Num.pair
  go_wp2_with fail
  refine (hF.out _).mono ?_
  rintro e w3 ⟨rfl, g3⟩
  have g4 : Grown (w1.alloc (.cells #[.int .i64 n, .int .i64 m] 23)) w3 := g3
  obtain ⟨k0, k1, _, _, z2⟩ := Gr.new2 g4
  have g5 : Grown w1 w3 := Gr.trans ((Grown.refl _).alloc _ _) g4
  have A0 := Gr.old g5 z1 a0
  have A1 := Gr.old g5 z1 a1
  have F0 := Gr.oldF g5 f0
  have F1 := Gr.oldF g5 f1
  have G2 := Gr.trans G g5
  clear a0 a1 f0 f1 g3 g4 g5 G
  cases t
  · have T := ht.out
    go_wp2_with fail
    exact bodyPost_ret (v := .tuple #[rv 0 0, .int .i64 1]) (by simp [results, Try.results30, go_sem, A0, A1]) rfl ⟨rfl, (G2.setCell (Nat.le_refl _) _).setCell (Nat.le_refl _) _⟩
  · have T := ht.out
    go_wp2_with fail
    exact bodyPost_ret (v := .tuple #[rv n m, .int .i64 0]) (by simp [results, Try.results30, go_sem, A0, A1]) rfl ⟨rfl, (G2.setCell (Nat.le_refl _) _).setCell (Nat.le_refl _) _⟩

theorem pOk_bad1 {s : ByteArray} (h : ¬ Num.parE (bef s).toList = 0) : pOk s = false := by unfold pOk; simp [h]
theorem pOk_bad2 {s : ByteArray} (h1 : has s = true) (h : ¬ Num.parE (aft s).toList = 0) : pOk s = false := by unfold pOk; simp [h, h1]
theorem pOk_rest {s : ByteArray} (h1 : Num.parE (bef s).toList = 0) (h2 : has s = true → Num.parE (aft s).toList = 0) : pOk s = (fmtR (pNum s) (pDen s) == s.toList) := by
  unfold pOk
  rw [h1]
  cases h : has s
  · simp
  · rw [h2 h]
    simp
theorem parse_any (s : ByteArray) (hs : s.size ≤ maxLen) (w : World) :
    Calls Try.prog 30 #[.string s] w fun e w' => e = pr (if pOk s then pNum s else 0) (if pOk s then pDen s else 0) (if pOk s then 0 else 1) ∧ Grown w w' := by
  have hC : Hid (cutI s (bef s) (aft s) (has s)) := Lib.hid fun W => cut_any s hs W
  have hA : parI (bef s) (Num.parV (bef s).toList) (Num.parE (bef s).toList) := fun W => Num.parse_any (bef s) (Nat.le_trans (bef_size s) hs) W
  have hB : parI (aft s) (Num.parV (aft s).toList) (Num.parE (aft s).toList) := fun W => Num.parse_any (aft s) (Nat.le_trans (aft_size s) hs) W
  have hF : fmtI (pNum s) (pDen s) ⟨(fmtR (pNum s) (pDen s)).toArray⟩ := fun W => format_any _ _ W
  have hx : (⟨(fmtR (pNum s) (pDen s)).toArray⟩ : ByteArray).toList = fmtR (pNum s) (pDen s) := Go.ByteArray.toList_mk _
  by_cases h1 : Num.parE (bef s).toList = 0
  · rw [h1] at hA
    cases hh : has s
    · rw [pOk_rest h1 (fun e => by rw [hh] at e; cases e)]
      rw [hh] at hC
      have hd : pDen s = 1 := by unfold pDen; rw [hh]; rfl
      rw [hd] at hF hx ⊢
      exact parse_ok1 s _ _ _ (pNum s) _ hC (Lib.hid hA) (Lib.hid hF) (Lib.hid (by rw [hx])) w
    · rw [hh] at hC
      by_cases h2 : Num.parE (aft s).toList = 0
      · rw [h2] at hB
        rw [pOk_rest h1 (fun _ => h2)]
        have hd : pDen s = Num.parV (aft s).toList := by unfold pDen; rw [hh]; rfl
        rw [hd] at hF hx ⊢
        exact parse_ok2 s _ _ _ (pNum s) _ _ hC (Lib.hid hA) (Lib.hid hB) (Lib.hid hF) (Lib.hid (by rw [hx])) w
      · rw [pOk_bad2 hh h2]
        exact parse_bad2 s _ _ _ _ _ hC (Lib.hid hA) (Lib.hid hB) (by simpa using h2) w
  · rw [pOk_bad1 h1]
    exact parse_bad1 s _ _ _ _ _ hC (Lib.hid hA) (by simpa using h1) w

end Rat2
end Go.Proofs.Ytghcbicapcpmlaa
