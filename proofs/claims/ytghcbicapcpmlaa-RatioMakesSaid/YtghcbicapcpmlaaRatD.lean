/-
  Contracts of Make, Cmp, Floor, Ceil and of the reference's.
-/
import Derived.Test.YtghcbicapcpmlaaRatC
import Derived.Test.YtghcbicapcpmlaaNumB
namespace Go.Proofs.Ytghcbicapcpmlaa
open Go.RowKit
namespace Rat2

theorem isInteger_any (n : Int) (w : World) :
    Calls Try.prog 34 #[.int .i64 n] w fun e w' => e = .returned (.bool (Num.vld n)) ∧ w = w' := by
  go_enter Try.func34, Try.ntmps34
  go_wp2_with fail
  refine (Num.valid_any n _).mono ?_
  rintro e w1 ⟨rfl, rfl⟩
  go_wp2_with fail
  go_ret
  exact ⟨rfl, rfl⟩
theorem Calls.up {P : Program} {f : Nat} {args : Array Value} {w : World} {E : Ending → Prop} (h : Calls P f args w fun e w' => E e ∧ w = w') : Calls P f args w fun e w' => E e ∧ Grown w w' :=
  h.mono fun _ _ ⟨he, hw⟩ => ⟨he, hw ▸ Grown.refl _⟩
theorem mk_d0 {n d : Int} (h : (d == 0) = true) : prO true (d == 0) n d = pr 0 0 9 := by rw [h]; rfl

theorem make_any (n d : Int) (w : World) :
    Calls Try.prog 9 #[.int .i64 n, .int .i64 d] w fun e w' => e = prO (Num.vld n && Num.vld d) (d == 0) n d ∧ Grown w w' := by
  cases ha : Num.vld n
  · have Ha := Lib.hid ha
    clear ha
    go_enter Try.func9, Try.ntmps9
    go_wp2_with fail
    refine (Calls.up (isInteger_any n _)).mono ?_
    rintro e w1 ⟨rfl, g1⟩
    rw [Ha.out]
    have G := Gr.trans ((Grown.refl _).alloc _ _) g1
    obtain ⟨s1, s2, s3, s4, s5⟩ := Gr.new2 g1
    clear g1
    go_wp2_with fail
    exact bodyPost_ret (v := .tuple #[rv 0 0, .int .i64 2]) (by simp [results, Try.results9, go_sem, s1, s2]) rfl ⟨rfl, (G.setCell (Nat.le_refl _) _).setCell (Nat.le_refl _) _⟩
  · have x1 := Num.vld_true ha
    obtain ⟨x1, x2⟩ := x1
    have Ha := Lib.hid ha
    clear ha
    cases hb : Num.vld d
    · have Hb := Lib.hid hb
      clear hb
      go_enter Try.func9, Try.ntmps9
      go_wp2_with fail
      refine (Calls.up (isInteger_any n _)).mono ?_
      rintro e w1 ⟨rfl, g1⟩
      rw [Ha.out]
      have G := Gr.trans ((Grown.refl _).alloc _ _) g1
      obtain ⟨s1, s2, s3, s4, s5⟩ := Gr.new2 g1
      clear g1
      go_wp2_with fail
      refine (Calls.up (isInteger_any d _)).mono ?_
      rintro e w2 ⟨rfl, g2⟩
      rw [Hb.out]
      have G := Gr.trans G g2
      have t1 := Gr.old g2 s5 s1; have t2 := Gr.old g2 s5 s2; have t3 := Gr.oldF g2 s3; have t4 := Gr.oldF g2 s4; have t5 : w.heap.size < w2.heap.size := by have := g2.2.2; omega
      clear g2 s1 s2 s3 s4 s5
      go_wp2_with fail
      exact bodyPost_ret (v := .tuple #[rv 0 0, .int .i64 2]) (by simp [results, Try.results9, go_sem, t1, t2]) rfl ⟨rfl, (G.setCell (Nat.le_refl _) _).setCell (Nat.le_refl _) _⟩
    · have y1 := Num.vld_true hb
      obtain ⟨y1, y2⟩ := y1
      have Hb := Lib.hid hb
      clear hb
      by_cases hz : d = 0
      · subst hz
        go_enter Try.func9, Try.ntmps9
        go_wp2_with fail
        refine (Calls.up (isInteger_any n _)).mono ?_
        rintro e w1 ⟨rfl, g1⟩
        rw [Ha.out]
        have G := Gr.trans ((Grown.refl _).alloc _ _) g1
        obtain ⟨s1, s2, s3, s4, s5⟩ := Gr.new2 g1
        clear g1
        go_wp2_with fail
        refine (Calls.up (isInteger_any 0 _)).mono ?_
        rintro e w2 ⟨rfl, g2⟩
        rw [Hb.out]
        have G := Gr.trans G g2
        have t1 := Gr.old g2 s5 s1; have t2 := Gr.old g2 s5 s2; have t3 := Gr.oldF g2 s3; have t4 := Gr.oldF g2 s4; have t5 : w.heap.size < w2.heap.size := by have := g2.2.2; omega
        clear g2 s1 s2 s3 s4 s5
        go_wp2_with fail
        exact bodyPost_ret (v := .tuple #[rv 0 0, .int .i64 9]) (by simp [results, Try.results9, go_sem, t1, t2]) rfl ⟨rfl, (G.setCell (Nat.le_refl _) _).setCell (Nat.le_refl _) _⟩
      · have Hz : ((d : Int) == 0) = false := by simpa using hz
        rw [Hz]
        go_enter Try.func9, Try.ntmps9
        go_wp2_with fail
        refine (Calls.up (isInteger_any n _)).mono ?_
        rintro e w1 ⟨rfl, g1⟩
        rw [Ha.out]
        have G := Gr.trans ((Grown.refl _).alloc _ _) g1
        obtain ⟨s1, s2, s3, s4, s5⟩ := Gr.new2 g1
        clear g1
        go_wp2_with fail
        refine (Calls.up (isInteger_any d _)).mono ?_
        rintro e w2 ⟨rfl, g2⟩
        rw [Hb.out]
        have G := Gr.trans G g2
        have t1 := Gr.old g2 s5 s1; have t2 := Gr.old g2 s5 s2; have t3 := Gr.oldF g2 s3; have t4 := Gr.oldF g2 s4; have t5 : w.heap.size < w2.heap.size := by have := g2.2.2; omega
        clear g2 s1 s2 s3 s4 s5
        go_wp2_with fail
        refine (reduce_any n d (by omega) (by omega) (by omega) (by omega) hz _).mono ?_
        rintro e w3 ⟨rfl, g3⟩
        have s1 := Gr.old g3 t5 t1
        have s2 := Gr.old g3 t5 t2
        have s3 := Gr.oldF g3 t3
        have s4 := Gr.oldF g3 t4
        clear t1 t2 t3 t4 t5
        have G : Grown w w3 := Gr.trans G g3
        go_wp2_with fail
        exact bodyPost_ret (v := .tuple #[rv (redN n d) (redD n d), .int .i64 (redE n d)]) (by simp [results, Try.results9, go_sem, s1, s2]) rfl ⟨rfl, (G.setCell (Nat.le_refl _) _).setCell (Nat.le_refl _) _⟩

theorem rmake_any (n d : Int) (w : World) :
    Calls Try.prog 10 #[.int .i64 n, .int .i64 d] w fun e w' => e = prO (Num.vld n && Num.vld d) (d == 0) n d ∧ Grown w w' := by
  cases ha : Num.vld n
  · have Ha := Lib.hid ha
    clear ha
    go_enter Try.func10, Try.ntmps10
    go_wp2_with fail
    refine (Calls.up (Num.rvalid_any n _)).mono ?_
    rintro e w1 ⟨rfl, g1⟩
    rw [Ha.out]
    have G := Gr.trans ((Grown.refl _).alloc _ _) g1
    obtain ⟨s1, s2, s3, s4, s5⟩ := Gr.new2 g1
    clear g1
    go_wp2_with fail
    exact bodyPost_ret (v := .tuple #[rv 0 0, .int .i64 2]) (by simp [results, Try.results10, go_sem, s1, s2]) rfl ⟨rfl, (G.setCell (Nat.le_refl _) _).setCell (Nat.le_refl _) _⟩
  · have x1 := Num.vld_true ha
    obtain ⟨x1, x2⟩ := x1
    have Ha := Lib.hid ha
    clear ha
    cases hb : Num.vld d
    · have Hb := Lib.hid hb
      clear hb
      go_enter Try.func10, Try.ntmps10
      go_wp2_with fail
      refine (Calls.up (Num.rvalid_any n _)).mono ?_
      rintro e w1 ⟨rfl, g1⟩
      rw [Ha.out]
      have G := Gr.trans ((Grown.refl _).alloc _ _) g1
      obtain ⟨s1, s2, s3, s4, s5⟩ := Gr.new2 g1
      clear g1
      go_wp2_with fail
      refine (Calls.up (Num.rvalid_any d _)).mono ?_
      rintro e w2 ⟨rfl, g2⟩
      rw [Hb.out]
      have G := Gr.trans G g2
      have t1 := Gr.old g2 s5 s1; have t2 := Gr.old g2 s5 s2; have t3 := Gr.oldF g2 s3; have t4 := Gr.oldF g2 s4; have t5 : w.heap.size < w2.heap.size := by have := g2.2.2; omega
      clear g2 s1 s2 s3 s4 s5
      go_wp2_with fail
      exact bodyPost_ret (v := .tuple #[rv 0 0, .int .i64 2]) (by simp [results, Try.results10, go_sem, t1, t2]) rfl ⟨rfl, (G.setCell (Nat.le_refl _) _).setCell (Nat.le_refl _) _⟩
    · have y1 := Num.vld_true hb
      obtain ⟨y1, y2⟩ := y1
      have Hb := Lib.hid hb
      clear hb
      by_cases hz : d = 0
      · subst hz
        go_enter Try.func10, Try.ntmps10
        go_wp2_with fail
        refine (Calls.up (Num.rvalid_any n _)).mono ?_
        rintro e w1 ⟨rfl, g1⟩
        rw [Ha.out]
        have G := Gr.trans ((Grown.refl _).alloc _ _) g1
        obtain ⟨s1, s2, s3, s4, s5⟩ := Gr.new2 g1
        clear g1
        go_wp2_with fail
        refine (Calls.up (Num.rvalid_any 0 _)).mono ?_
        rintro e w2 ⟨rfl, g2⟩
        rw [Hb.out]
        have G := Gr.trans G g2
        have t1 := Gr.old g2 s5 s1; have t2 := Gr.old g2 s5 s2; have t3 := Gr.oldF g2 s3; have t4 := Gr.oldF g2 s4; have t5 : w.heap.size < w2.heap.size := by have := g2.2.2; omega
        clear g2 s1 s2 s3 s4 s5
        go_wp2_with fail
        exact bodyPost_ret (v := .tuple #[rv 0 0, .int .i64 9]) (by simp [results, Try.results10, go_sem, t1, t2]) rfl ⟨rfl, (G.setCell (Nat.le_refl _) _).setCell (Nat.le_refl _) _⟩
      · have Hz : ((d : Int) == 0) = false := by simpa using hz
        rw [Hz]
        go_enter Try.func10, Try.ntmps10
        go_wp2_with fail
        refine (Calls.up (Num.rvalid_any n _)).mono ?_
        rintro e w1 ⟨rfl, g1⟩
        rw [Ha.out]
        have G := Gr.trans ((Grown.refl _).alloc _ _) g1
        obtain ⟨s1, s2, s3, s4, s5⟩ := Gr.new2 g1
        clear g1
        go_wp2_with fail
        refine (Calls.up (Num.rvalid_any d _)).mono ?_
        rintro e w2 ⟨rfl, g2⟩
        rw [Hb.out]
        have G := Gr.trans G g2
        have t1 := Gr.old g2 s5 s1; have t2 := Gr.old g2 s5 s2; have t3 := Gr.oldF g2 s3; have t4 := Gr.oldF g2 s4; have t5 : w.heap.size < w2.heap.size := by have := g2.2.2; omega
        clear g2 s1 s2 s3 s4 s5
        go_wp2_with fail
        refine (rreduced_any n d (by omega) (by omega) (by omega) (by omega) hz _).mono ?_
        rintro e w3 ⟨rfl, g3⟩
        have s1 := Gr.old g3 t5 t1
        have s2 := Gr.old g3 t5 t2
        have s3 := Gr.oldF g3 t3
        have s4 := Gr.oldF g3 t4
        clear t1 t2 t3 t4 t5
        have G : Grown w w3 := Gr.trans G g3
        go_wp2_with fail
        exact bodyPost_ret (v := .tuple #[rv (redN n d) (redD n d), .int .i64 (redE n d)]) (by simp [results, Try.results10, go_sem, s1, s2]) rfl ⟨rfl, (G.setCell (Nat.le_refl _) _).setCell (Nat.le_refl _) _⟩

end Rat2
end Go.Proofs.Ytghcbicapcpmlaa
