/-
  Contracts of Format and of the reference's.
-/
import Derived.Test.YtghcbicapcpmlaaRatD
import Derived.Test.YtghcbicapcpmlaaNumF
import Derived.Deep.RegionHeld3
namespace Go.Proofs.Ytghcbicapcpmlaa
open Go.RowKit
namespace Rat2

/-- The text of a ratio. -/
def fmtR (n d : Int) : List UInt8 := if vr n d then (if d = 1 then Num.fmtL n else Num.fmtL n ++ 47 :: Num.fmtL d) else []
theorem fmtL_len (n : Int) : (Num.fmtL n).length ≤ 20 := by
  unfold Num.fmtL
  rw [List.length_append, Num.digs_len]
  have := Num.ndF_le 18 (Num.abz n).toNat
  split <;> simp <;> omega
theorem fmtS (x : Int) (X : ByteArray) (n d : Int) (hX : Hid ((⟨(Num.fmtL x).toArray⟩ : ByteArray) = X)) (h1 : -9223372036854775808 ≤ x) (h2 : x ≤ 9223372036854775807) (w W : World) (g : Grown w W) (hz : w.heap.size < W.heap.size)
    (c0 : W.cell? ⟨w.heap.size, 0, none⟩ = some (.int .i64 n)) (c1 : W.cell? ⟨w.heap.size, 1, none⟩ = some (.int .i64 d)) :
    Calls Try.prog 49 #[.int .i64 x] W fun e w' => e = .returned (.string X) ∧ w'.cell? ⟨w.heap.size, 0, none⟩ = some (.int .i64 n) ∧ w'.cell? ⟨w.heap.size, 1, none⟩ = some (.int .i64 d) ∧ Grown w w' ∧ w.heap.size < w'.heap.size :=
  (Num.format_any x h1 h2 W).mono fun _ _ ⟨he, k⟩ => ⟨he.trans (by rw [hX.out]), Gr.old k hz c0, Gr.old k hz c1, Gr.trans g k, by have := k.2.2; omega⟩
theorem join3 (x y : List UInt8) : ((⟨x.toArray⟩ : ByteArray) ++ ⟨#[47]⟩) ++ ⟨y.toArray⟩ = ⟨(x ++ 47 :: y).toArray⟩ := by
  rw [show (⟨#[47]⟩ : ByteArray) = ⟨([47] : List UInt8).toArray⟩ from rfl, ByteArray.mk_append_mk, ByteArray.mk_append_mk, List.append_assoc]
  rfl
theorem format_long (n d : Int) (X Y : ByteArray) (hX : Hid ((⟨(Num.fmtL n).toArray⟩ : ByteArray) = X)) (hY : Hid ((⟨(Num.fmtL d).toArray⟩ : ByteArray) = Y)) (lx : X.size ≤ 20) (ly : Y.size ≤ 20) (hv : vr n d = true) (hd : d ≠ 1) (w : World) :
    Calls Try.prog 32 #[rv n d] w fun e w' => e = .returned (.string ((X ++ ⟨#[47]⟩) ++ Y)) ∧ Grown w w' := by
  obtain ⟨x1, x2, x3, x4, _⟩ := vr_true hv
  have Ha := Lib.hid hv
  clear hv
  have hd1 : ((d : Int) == 1) = false := by simpa using hd
  go_enter Try.func32, Try.ntmps32
  go_wp2_with fail
  refine (valid_any n d _).mono ?_
  rintro e w1 ⟨rfl, g1⟩
  rw [Ha.out]
  obtain ⟨s1, s2, s3, s4, s5⟩ := Gr.new2 g1
  have G := Gr.trans ((Grown.refl _).alloc _ _) g1
  clear g1 s3 s4
  go_wp2_with fail
  have c1 : (9223372036854775807 < X.size + 1) = False := eq_false (by omega)
  have c2 : (9223372036854775807 < X.size + 1 + Y.size) = False := eq_false (by omega)
  go_region_held3 (fun w' => w'.cell? ⟨w.heap.size, 0, none⟩ = some (.int .i64 n) ∧ w'.cell? ⟨w.heap.size, 1, none⟩ = some (.int .i64 d) ∧ Grown w w' ∧ w.heap.size < w'.heap.size) (first | exact ⟨h1, h2, h3, h4⟩ | exact ⟨s1, s2, G, s5⟩)
    (first | (go_at_call 49; (with_reducible refine (fmtS n X n d hX ?_ ?_ w _ ?_ ?_ ?_ ?_).mono ?_); (omega); (omega); (assumption); (assumption); (assumption); (assumption); rintro e w' ⟨rfl, h1, h2, h3, h4⟩) | (go_at_call 49; (with_reducible refine (fmtS d Y n d hY ?_ ?_ w _ ?_ ?_ ?_ ?_).mono ?_); (omega); (omega); (assumption); (assumption); (assumption); (assumption); rintro e w' ⟨rfl, h1, h2, h3, h4⟩))
  all_goals
    clear c1 c2
    go_wp2_with fail
    go_ret
    exact ⟨rfl, h3⟩
theorem rformat_long (n d : Int) (X Y : ByteArray) (hX : Hid (Still Try.prog 50 #[.int .i64 n] (.string X))) (hY : Hid (Still Try.prog 50 #[.int .i64 d] (.string Y))) (lx : X.size ≤ 20) (ly : Y.size ≤ 20) (hv : vr n d = true) (hd : d ≠ 1) (w : World) :
    Calls Try.prog 33 #[rv n d] w fun e w' => e = .returned (.string ((X ++ ⟨#[47]⟩) ++ Y)) ∧ Grown w w' := by
  obtain ⟨x1, x2, x3, x4, _⟩ := vr_true hv
  have Ha := Lib.hid hv
  clear hv
  have hd1 : ((d : Int) == 1) = false := by simpa using hd
  go_enter Try.func33, Try.ntmps33
  go_wp2_with fail
  refine (rvalid_any n d _).mono ?_
  rintro e w1 ⟨rfl, g1⟩
  rw [Ha.out]
  obtain ⟨s1, s2, s3, s4, s5⟩ := Gr.new2 g1
  have G := Gr.trans ((Grown.refl _).alloc _ _) g1
  clear g1 s3 s4
  go_wp2_with fail
  go_quiet (first | (go_at_call 50; with_reducible exact hX.out.first _ _) | (go_at_call 50; with_reducible exact hY.out.first _ _))
  go_wp2_with fail
  go_ret
  exact ⟨rfl, G⟩
theorem upS {f : Nat} {args : Array Value} {w : World} {E : Ending → Prop} (h : Calls Try.prog f args w fun e w' => E e ∧ w = w') : Calls Try.prog f args w fun e w' => E e ∧ Grown w w' :=
  h.mono fun _ _ ⟨he, hw⟩ => ⟨he, hw ▸ Grown.refl _⟩
theorem format_any (n d : Int) (w : World) :
    Calls Try.prog 32 #[rv n d] w fun e w' => e = .returned (.string ⟨(fmtR n d).toArray⟩) ∧ Grown w w' := by
  unfold fmtR
  cases hv : vr n d
  · have Ha := Lib.hid hv
    clear hv
    go_enter Try.func32, Try.ntmps32
    go_wp2_with fail
    refine (valid_any n d _).mono ?_
    rintro e w1 ⟨rfl, g1⟩
    rw [Ha.out]
    have G := Gr.trans ((Grown.refl _).alloc _ _) g1
    go_wp2_with fail
    go_ret
    exact ⟨rfl, G⟩
  · obtain ⟨x1, x2, x3, x4, _⟩ := vr_true hv
    by_cases hd : d = 1
    · subst hd
      have HX := Lib.hid (rfl : Num.fmtL n = Num.fmtL n)
      have Ha := Lib.hid hv
      clear hv
      go_enter Try.func32, Try.ntmps32
      go_wp2_with fail
      refine (valid_any n 1 _).mono ?_
      rintro e w1 ⟨rfl, g1⟩
      rw [Ha.out]
      obtain ⟨s1, s2, s3, s4, s5⟩ := Gr.new2 g1
      have G := Gr.trans ((Grown.refl _).alloc _ _) g1
      clear g1
      go_wp2_with fail
      refine (Num.format_any n (by omega) (by omega) _).mono ?_
      rintro e w2 ⟨rfl, g2⟩
      go_wp2_with fail
      go_ret
      exact ⟨rfl, Gr.trans G g2⟩
    · rw [if_pos rfl, if_neg hd, ← join3]
      have lx := fmtL_len n
      have ly := fmtL_len d
      exact format_long n d _ _ (Lib.hid rfl) (Lib.hid rfl) (by show (Num.fmtL n).toArray.size ≤ 20; simpa using lx) (by show (Num.fmtL d).toArray.size ≤ 20; simpa using ly) hv hd w
theorem rformat_any (n d : Int) (w : World) :
    Calls Try.prog 33 #[rv n d] w fun e w' => e = .returned (.string ⟨(fmtR n d).toArray⟩) ∧ Grown w w' := by
  unfold fmtR
  cases hv : vr n d
  · have Ha := Lib.hid hv
    clear hv
    go_enter Try.func33, Try.ntmps33
    go_wp2_with fail
    refine (rvalid_any n d _).mono ?_
    rintro e w1 ⟨rfl, g1⟩
    rw [Ha.out]
    have G := Gr.trans ((Grown.refl _).alloc _ _) g1
    go_wp2_with fail
    go_ret
    exact ⟨rfl, G⟩
  · obtain ⟨x1, x2, x3, x4, _⟩ := vr_true hv
    by_cases hd : d = 1
    · subst hd
      have HX := Lib.hid (rfl : Num.fmtL n = Num.fmtL n)
      have Ha := Lib.hid hv
      clear hv
      go_enter Try.func33, Try.ntmps33
      go_wp2_with fail
      refine (rvalid_any n 1 _).mono ?_
      rintro e w1 ⟨rfl, g1⟩
      rw [Ha.out]
      obtain ⟨s1, s2, s3, s4, s5⟩ := Gr.new2 g1
      have G := Gr.trans ((Grown.refl _).alloc _ _) g1
      clear g1
      go_wp2_with fail
      refine (upS <| Num.rformat_any n (by omega) (by omega) _).mono ?_
      rintro e w2 ⟨rfl, g2⟩
      go_wp2_with fail
      go_ret
      exact ⟨rfl, Gr.trans G g2⟩
    · rw [if_pos rfl, if_neg hd, ← join3]
      have lx := fmtL_len n
      have ly := fmtL_len d
      exact rformat_long n d _ _ (Lib.hid fun W => (Num.rformat_any n (by omega) (by omega) W).mono fun _ _ h => ⟨h.1, h.2.symm⟩) (Lib.hid fun W => (Num.rformat_any d (by omega) (by omega) W).mono fun _ _ h => ⟨h.1, h.2.symm⟩) (by show (Num.fmtL n).toArray.size ≤ 20; simpa using lx) (by show (Num.fmtL d).toArray.size ≤ 20; simpa using ly) hv hd w
end Rat2
end Go.Proofs.Ytghcbicapcpmlaa
