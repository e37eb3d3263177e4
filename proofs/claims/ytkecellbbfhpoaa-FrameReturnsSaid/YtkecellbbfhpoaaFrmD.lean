/-
  Layer 4's reference: Seal, Split.
-/
import Derived.Test.YtkecellbbfhpoaaFrmC
import Derived.Test.YtkecellbbfhpoaaSls
namespace Go.Proofs.Ytkecellbbfhpoaa
open Go.RowKit Go.ChangeShapes Go.WideShapes
namespace Frm
open Hsh

theorem conv4_at (n g : Nat) (W : World) (X : ByteArray) (hX : (⟨(be4 n).toArray⟩ : ByteArray) = X) (h : ∀ j, W.cell? ⟨g, j, none⟩ = (c4 n)[j]?) : (convert 36 9 (.slice (some ⟨g, 0, none⟩) 4 4)).run Try.prog W = .ok (.string X) W :=
  hX ▸ conv4 n g W fun j _ => h j
theorem cells_on {W : World} {g : Nat} {c : Array Value} (h : ∀ j, W.cell? ⟨g, j, none⟩ = c[j]?) (hg : g < W.heap.size) (o : Obj) : ∀ j, (W.alloc o).cell? ⟨g, j, none⟩ = c[j]? := fun j => by
  rw [World.cell?_of_block (w := W) (Below.heap_alloc W o g hg)]
  exact h j
theorem frm_text (s A B : ByteArray) (hA : (⟨(be4 s.size).toArray⟩ : ByteArray) = A) (hB : (⟨(be4 (crc s.toList)).toArray⟩ : ByteArray) = B) : (A ++ B) ++ s = ⟨(frm s.toList).toArray⟩ := by
  apply ByteArray.ext
  apply Array.toList_inj.1
  rw [← hA, ← hB]
  unfold frm
  rw [toL_len, toL]
  simp [ByteArray.data_append]
set_option maxHeartbeats 8000000 in
theorem rseal_ok (s : ByteArray) (hs : s.size ≤ 262136) (w : World) :
    Calls Try.prog 17 #[.string s] w fun e w' => e = .returned (.tuple #[.string ⟨(frm s.toList).toArray⟩, .int .i64 0]) ∧ Bel w w' := by
  have hkl := crc_lt s.toList
  have hcr := Lib.hid (rcrc_any s (by unfold maxLen; omega))
  obtain ⟨k, hk⟩ : ∃ k, crc s.toList = k := ⟨_, rfl⟩
  obtain ⟨A, hA⟩ : ∃ A : ByteArray, ⟨(be4 s.size).toArray⟩ = A := ⟨_, rfl⟩
  obtain ⟨B, hB⟩ : ∃ B : ByteArray, ⟨(be4 (crc s.toList)).toArray⟩ = B := ⟨_, rfl⟩
  have hT := Lib.hid (frm_text s A B hA hB)
  rw [hk] at hcr hkl hB
  have f1 := Lib.hid (four_any s.size (by omega))
  have f2 := Lib.hid (four_any k hkl)
  have hAs : A.size = 4 := by rw [← hA]; rfl
  have hBs : B.size = 4 := by rw [← hB]; rfl
  obtain ⟨cA, hcA⟩ : ∃ c, c4 s.size = c := ⟨_, rfl⟩
  obtain ⟨cB, hcB⟩ : ∃ c, c4 k = c := ⟨_, rfl⟩
  have zA : ∀ j, (w.alloc (.cells cA 5)).cell? ⟨w.heap.size, j, none⟩ = (c4 s.size)[j]? := fun j => hcA ▸ World.cell?_alloc_new w _ _ _
  have zB : ∀ j, (w.alloc (.cells cB 5)).cell? ⟨w.heap.size, j, none⟩ = (c4 k)[j]? := fun j => hcB ▸ World.cell?_alloc_new w _ _ _
  have zAB : ∀ j, ((w.alloc (.cells cA 5)).alloc (.cells cB 5)).cell? ⟨w.heap.size, j, none⟩ = (c4 s.size)[j]? := cells_on zA (alloc_lt w _) _
  have zBA : ∀ j, ((w.alloc (.cells cB 5)).alloc (.cells cA 5)).cell? ⟨w.heap.size, j, none⟩ = (c4 k)[j]? := cells_on zB (alloc_lt w _) _
  have yAB : ∀ j, ((w.alloc (.cells cA 5)).alloc (.cells cB 5)).cell? ⟨w.heap.size + 1, j, none⟩ = (c4 k)[j]? := fun j => by rw [World.cell?_alloc_at _ _ _ _ (by simp), hcB]
  have yBA : ∀ j, ((w.alloc (.cells cB 5)).alloc (.cells cA 5)).cell? ⟨w.heap.size + 1, j, none⟩ = (c4 s.size)[j]? := fun j => by rw [World.cell?_alloc_at _ _ _ _ (by simp), hcA]
  have e0 := conv4_at s.size w.heap.size ((w.alloc (.cells cA 5)).drew) A hA zA
  have e1 := conv4_at s.size w.heap.size (w.drew.alloc (.cells cA 5)) A hA zA
  have e2 := conv4_at k w.heap.size ((w.alloc (.cells cB 5)).drew) B hB zB
  have e3 := conv4_at k w.heap.size (w.drew.alloc (.cells cB 5)) B hB zB
  have e4 := conv4_at s.size w.heap.size (((w.alloc (.cells cA 5)).alloc (.cells cB 5)).drew) A hA zAB
  have e5 := conv4_at k (w.heap.size + 1) (((w.alloc (.cells cA 5)).alloc (.cells cB 5)).drew) B hB yAB
  have e6 := conv4_at s.size w.heap.size (((w.alloc (.cells cA 5)).drew).alloc (.cells cB 5)) A hA zAB
  have e7 := conv4_at k (w.heap.size + 1) (((w.alloc (.cells cA 5)).drew).alloc (.cells cB 5)) B hB yAB
  have e8 := conv4_at s.size w.heap.size ((w.drew.alloc (.cells cA 5)).alloc (.cells cB 5)) A hA zAB
  have e9 := conv4_at k (w.heap.size + 1) ((w.drew.alloc (.cells cA 5)).alloc (.cells cB 5)) B hB yAB
  have e10 := conv4_at k w.heap.size (((w.alloc (.cells cB 5)).alloc (.cells cA 5)).drew) B hB zBA
  have e11 := conv4_at s.size (w.heap.size + 1) (((w.alloc (.cells cB 5)).alloc (.cells cA 5)).drew) A hA yBA
  have e12 := conv4_at k w.heap.size (((w.alloc (.cells cB 5)).drew).alloc (.cells cA 5)) B hB zBA
  have e13 := conv4_at s.size (w.heap.size + 1) (((w.alloc (.cells cB 5)).drew).alloc (.cells cA 5)) A hA yBA
  have e14 := conv4_at k w.heap.size ((w.drew.alloc (.cells cB 5)).alloc (.cells cA 5)) B hB zBA
  have e15 := conv4_at s.size (w.heap.size + 1) ((w.drew.alloc (.cells cB 5)).alloc (.cells cA 5)) A hA yBA
  clear zA zB zAB zBA yAB yBA
  rw [hcA] at f1
  rw [hcB] at f2
  have G : Bel w w := Bel.refl w
  have c1 : (9223372036854775807 < A.size + B.size) = False := eq_false (by omega)
  have c2 : (9223372036854775807 < A.size + B.size + s.size) = False := eq_false (by omega)
  have z0 : IntKind.u32.wrap (s.size : Int) = (s.size : Int) := by simp [IntKind.wrap, IntKind.signed, IntKind.bits]; omega
  clear hk hA hB hcA hcB hAs hBs hkl
  go_enter Try.func17, Try.ntmps17
  go_upto_region 3 with (fail)
  go_region_with (first | (go_at_call 28; (with_reducible refine (hcr.out _).mono ?_); rintro e w' ⟨rfl, rfl⟩) | (go_at_call 27; (with_reducible refine (f1.out _).mono ?_); rintro e w' ⟨rfl, rfl⟩) | (go_at_call 27; (with_reducible refine (f2.out _).mono ?_); rintro e w' ⟨rfl, rfl⟩))
  all_goals
    clear e0 e1 e2 e3 e4 e5 e6 e7 e8 e9 e10 e11 e12 e13 e14 e15 c1 c2
    go_wp2
    go_ret2
    exact ⟨by rw [← hT.out]; rfl, by first | exact Bel.alloc (Bel.alloc (Below.drew G) _) _ | exact Bel.alloc (Below.drew (Bel.alloc G _)) _ | exact Below.drew (Bel.alloc (Bel.alloc G _) _)⟩
theorem rseal_long (s : ByteArray) (hs : 262136 < s.size) (hm : s.size ≤ 140737488355328) (w : World) :
    Calls Try.prog 17 #[.string s] w fun e w' => e = .returned (.tuple #[.string ⟨#[]⟩, .int .i64 3]) ∧ w' = w := by
  go_enter Try.func17, Try.ntmps17
  go_wp2
  go_ret2
  exact ⟨rfl, rfl⟩
/-- The end of a string. -/
theorem cutE (s : ByteArray) (i : Nat) (zi : Int) (hi : zi = (i : Int)) (h : i ≤ s.size) (w : World) :
    (Instr.slice 9 (.string s) (some (.int .i64 zi)) none none).run Try.prog w = .ok (.string ⟨(s.toList.drop i).toArray⟩) w := by
  subst hi
  have h2 := Lib.extract_eq s i s.size
  rw [run_slice_string_l w 9 s Try.underlying9 .i64 (i : Int) (by omega) (by omega)]
  simp only [Int.toNat_natCast]
  rw [h2, ← toL, List.take_of_length_le (by rw [List.length_drop, toL_len]; exact Nat.le_refl _)]
set_option maxHeartbeats 4000000 in
theorem rsplit_any (s : ByteArray) (hs : s.size ≤ 300000) (w : World) :
    Calls Try.prog 23 #[.string s] w fun e w' => (∃ o k c D, SlArg w' o k D ∧ D.map ByteArray.toList = (split s.toList).1 ∧ e = .returned (.tuple #[.slice o k c, .int .i64 ((split s.toList).2 : Int)])) ∧ Bel w w' := by
  obtain ⟨i0, hi, hz0, hz1, hz2⟩ := info_parts info_str
  go_enter Try.func23, Try.ntmps23
  go_wp2
  go_loopw [4, 5] (fun v a wr => ∃ (k c : Nat) (o : Option Addr) (D : List ByteArray) (p : Nat), v = .slice o k c ∧ a = .int .i64 (p : Int) ∧ p ≤ s.size ∧ k * 8 ≤ p ∧ Hid (wr.ownsRow w.heap.size 9 1 (.slice o k c) k (encS D)) ∧
      Hid (split s.toList = (D.map ByteArray.toList ++ (split (s.toList.drop p)).1, p + (split (s.toList.drop p)).2)) ∧ Hid (Bel w wr)) (fun _ a _ => s.size - (intOf a).toNat)
  case atStart => exact ⟨0, 0, none, [], 0, rfl, rfl, Nat.zero_le _, by omega, Lib.hid (World.ownsRow_nil _ _ _ _), Lib.hid (by simp), Lib.hid (Bel.refl _)⟩
  case round =>
    obtain ⟨k, c, o, D, p, rfl, rfl, hp, hk8, hown, hsp, hb⟩ := hrel
    rename World => W0
    have sl := fun w => cutE s p (p : Int) rfl hp w
    obtain ⟨T, hT⟩ : ∃ T : ByteArray, ⟨(s.toList.drop p).toArray⟩ = T := ⟨_, rfl⟩
    have hTl : T.toList = s.toList.drop p := by rw [← hT, tl']
    have hTs : T.size = s.size - p := by rw [← toL_len, hTl, List.length_drop, toL_len]
    rw [hT] at sl
    have ho := ropen_any T (by omega) W0
    rw [hTl] at ho
    cases hop : opn (s.toList.drop p) with
    | error bad =>
      obtain ⟨z1, z2, z3⟩ := op_bad hop
      have hE : (opE (s.toList.drop p) != 0) = true := by rw [z3]; cases bad <;> rfl
      have hsb := split_bad hop
      have hfin := Lib.hid (hsp.out.trans (by rw [hsb]))
      generalize opE (s.toList.drop p) = E at ho hE
      generalize opN (s.toList.drop p) = N at ho
      generalize opB (s.toList.drop p) = Bd at ho
      have HO := Lib.hid ho
      clear ho hT hTl hsp z1 z2 z3 hsb
      go_wp2_with fail
      refine HO.out.mono ?_
      rintro e w1 ⟨rfl, g1⟩
      go_wp2_with fail
      go_ret2
      exact ⟨⟨o, k, c, D, (own_sarg hown.out).on g1, by rw [hfin.out]; simp, by rw [hfin.out]; rfl⟩, Bel.trans hb.out g1⟩
    | ok x =>
      obtain ⟨b, n⟩ := x
      obtain ⟨z1, z2, z3⟩ := op_good hop
      obtain ⟨y1, y2, y3, y4⟩ := opn_ok hop
      rw [List.length_drop, toL_len] at y3
      have hsk := split_ok hop
      rw [z1, z2, z3] at ho
      obtain ⟨Bd, hBd⟩ : ∃ Bd : ByteArray, ⟨b.toArray⟩ = Bd := ⟨_, rfl⟩
      have hBl : Bd.toList = b := by rw [← hBd, tl']
      rw [hBd] at ho
      have HO := Lib.hid ho
      have hnew : Hid (split s.toList = ((D ++ [Bd]).map ByteArray.toList ++ (split (s.toList.drop (p + n))).1, (p + n) + (split (s.toList.drop (p + n))).2)) := Lib.hid (by
        rw [hsp.out, hsk, List.drop_drop]
        simp [hBl, Nat.add_assoc])
      have hn8 : 8 ≤ n := by omega
      have hpn : p + n ≤ s.size := by omega
      clear ho hT hTl hsp z1 z2 z3 hsk hBd hBl y1 y2 y3 y4 hop
      go_wp2_with fail
      refine HO.out.mono ?_
      rintro e W1 ⟨rfl, g1⟩
      have G := Bel.trans hb.out g1
      have hownA := Lib.hid (own_on hown.out g1)
      have GS := G.size
      clear hown
      go_upto_region 6 with (fail)
      have q1 := Lib.hid (cell_new1 W1 (.string Bd) 9)
      have q2 : Hid (∀ u ∈ [Value.string Bd], u.oneCell' = true) := Lib.hid (fun u hu => by simp at hu; subst hu; rfl)
      have q3 : Hid (k + 1 ≤ maxLen) := Lib.hid (by unfold maxLen; omega)
      have q4 : Hid ((k + 1) * 16 ≤ 140737488355328) := Lib.hid (by omega)
      have q5 : Hid (w.heap.size ≤ (W1.alloc (.cells #[.string Bd] 9)).heap.size) := Lib.hid (Nat.le_trans GS (Nat.le_of_lt (alloc_lt _ _)))
      go_wp2_with (at_builtin; refine wpList_append_own _ rfl _ _ 22 rfl w.heap.size 9 i0 (.string ByteArray.empty) 1 16 Try.underlying22 hi hz0 hz1 hz2 rfl (by decide) _ _ _ rfl (hownA.out.alloc _) ⟨W1.heap.size, 0, none⟩ 1 1 [.string Bd] rfl rfl q1.out q2.out q3.out q4.out q5.out ?_; intro v' w3 hown' hgrow3 hnil3; refine Hid.out ?_)
      refine Lib.hid ?_
      obtain ⟨o2, c2, rfl⟩ := own_shape hown'
      have hg3 : (W1.alloc (.cells #[.string Bd] 9)).grownBy w3 (Value.slice o k c).ownBlock := hgrow3
      have b3 := Lib.hid (own_bel (hownA.out.alloc _) (G.alloc (.cells #[.string Bd] 9)) hg3)
      have o3 : Hid (w3.ownsRow w.heap.size 9 1 (.slice o2 (k + 1) c2) (k + 1) (encS (D ++ [Bd]))) := Lib.hid (by
        have e : encS (D ++ [Bd]) = encS D ++ [Value.string Bd] := by simp [encS]
        rw [e]
        exact hown')
      clear hnil3 hgrow3 hg3 hown' q1 q2 q3 q4 q5 hownA
      go_wp2
      go_round
      case rel => exact ⟨k + 1, c2, o2, D ++ [Bd], p + n, rfl, by go_num, hpn, by omega, o3, hnew, b3⟩
      case measure => simp [intOf]; omega
end Frm
end Go.Proofs.Ytkecellbbfhpoaa
