/-
  Layer 4, the code: Split, Join.
-/
import Derived.Test.YtkecellbbfhpoaaFrmO
namespace Go.Proofs.Ytkecellbbfhpoaa
open Go.RowKit Go.ChangeShapes Go.WideShapes
namespace Frm
open Hsh

set_option maxHeartbeats 4000000 in
theorem split_any (s : ByteArray) (hs : s.size ≤ 300000) (w : World) :
    Calls Try.prog 22 #[.string s] w fun e w' => (∃ o k c D, SlArg w' o k D ∧ D.map ByteArray.toList = (split s.toList).1 ∧ e = .returned (.tuple #[.slice o k c, .int .i64 ((split s.toList).2 : Int)])) ∧ Bel w w' := by
  obtain ⟨i0, hi, hz0, hz1, hz2⟩ := info_parts info_str
  go_enter Try.func22, Try.ntmps22
  go_wp2
  go_loopw [4, 5] (fun v a wr => ∃ (k c : Nat) (o : Option Addr) (D : List ByteArray) (p : Nat), v = .slice o k c ∧ a = .int .i64 (p : Int) ∧ p ≤ s.size ∧ k * 8 ≤ p ∧ Hid (wr.ownsRow w.heap.size 9 1 (.slice o k c) k (encS D)) ∧
      Hid (split s.toList = (D.map ByteArray.toList ++ (split (s.toList.drop p)).1, p + (split (s.toList.drop p)).2)) ∧ Hid (Bel w wr)) (fun _ a _ => s.size - (intOf a).toNat)
  case atStart => exact ⟨0, 0, none, [], 0, rfl, rfl, Nat.zero_le _, by omega, Lib.hid (World.ownsRow_nil _ _ _ _), Lib.hid (by simp), Lib.hid (Bel.refl _)⟩
  case round =>
    obtain ⟨k, c, o, D, p, rfl, rfl, hp, hk8, hown, hsp, hb⟩ := hrel
    rename World => W0
    have sl := fun w => cutE s p (p : Int) rfl hp w
    obtain ⟨T, hT⟩ : ∃ T : ByteArray, ⟨(s.toList.drop p).toArray⟩ = T := ⟨_, rfl⟩
    have hTl : T.toList = s.toList.drop p := by rw [← hT, tl']
    have hTs : T.size = s.size - p := by rw [← toL_len, hTl, List.length_drop, toL_len]
    rw [hT] at sl
    have ho := open_any T (by omega) W0
    rw [hTl] at ho
    cases hop : opn (s.toList.drop p) with
    | error bad =>
      obtain ⟨z1, z2, z3⟩ := op_bad hop
      have hE : (opE (s.toList.drop p) != 0) = true := by rw [z3]; cases bad <;> rfl
      have hsb := split_bad hop
      have hfin := Lib.hid (hsp.out.trans (by rw [hsb]))
      generalize opE (s.toList.drop p) = E at ho hE
      generalize opN (s.toList.drop p) = N at ho
      generalize opB (s.toList.drop p) = Bd at ho
      have HO := Lib.hid ho
      clear ho hT hTl hsp z1 z2 z3 hsb
      go_wp2_with fail
      refine HO.out.mono ?_
      rintro e w1 ⟨rfl, g1⟩
      go_wp2_with fail
      go_ret2
      exact ⟨⟨o, k, c, D, (own_sarg hown.out).on g1, by rw [hfin.out]; simp, by rw [hfin.out]; rfl⟩, Bel.trans hb.out g1⟩
    | ok x =>
      obtain ⟨b, n⟩ := x
      obtain ⟨z1, z2, z3⟩ := op_good hop
      obtain ⟨y1, y2, y3, y4⟩ := opn_ok hop
      rw [List.length_drop, toL_len] at y3
      have hsk := split_ok hop
      rw [z1, z2, z3] at ho
      obtain ⟨Bd, hBd⟩ : ∃ Bd : ByteArray, ⟨b.toArray⟩ = Bd := ⟨_, rfl⟩
      have hBl : Bd.toList = b := by rw [← hBd, tl']
      rw [hBd] at ho
      have HO := Lib.hid ho
      have hnew : Hid (split s.toList = ((D ++ [Bd]).map ByteArray.toList ++ (split (s.toList.drop (p + n))).1, (p + n) + (split (s.toList.drop (p + n))).2)) := Lib.hid (by
        rw [hsp.out, hsk, List.drop_drop]
        simp [hBl, Nat.add_assoc])
      have hn8 : 8 ≤ n := by omega
      have hpn : p + n ≤ s.size := by omega
      clear ho hT hTl hsp z1 z2 z3 hsk hBd hBl y1 y2 y3 y4 hop
      go_wp2_with fail
      refine HO.out.mono ?_
      rintro e W1 ⟨rfl, g1⟩
      have G := Bel.trans hb.out g1
      have hownA := Lib.hid (own_on hown.out g1)
      have GS := G.size
      clear hown
      go_upto_region 6 with (fail)
      have q1 := Lib.hid (cell_new1 W1 (.string Bd) 9)
      have q2 : Hid (∀ u ∈ [Value.string Bd], u.oneCell' = true) := Lib.hid (fun u hu => by simp at hu; subst hu; rfl)
      have q3 : Hid (k + 1 ≤ maxLen) := Lib.hid (by unfold maxLen; omega)
      have q4 : Hid ((k + 1) * 16 ≤ 140737488355328) := Lib.hid (by omega)
      have q5 : Hid (w.heap.size ≤ (W1.alloc (.cells #[.string Bd] 9)).heap.size) := Lib.hid (Nat.le_trans GS (Nat.le_of_lt (alloc_lt _ _)))
      go_wp2_with (at_builtin; refine wpList_append_own _ rfl _ _ 22 rfl w.heap.size 9 i0 (.string ByteArray.empty) 1 16 Try.underlying22 hi hz0 hz1 hz2 rfl (by decide) _ _ _ rfl (hownA.out.alloc _) ⟨W1.heap.size, 0, none⟩ 1 1 [.string Bd] rfl rfl q1.out q2.out q3.out q4.out q5.out ?_; intro v' w3 hown' hgrow3 hnil3; refine Hid.out ?_)
      refine Lib.hid ?_
      obtain ⟨o2, c2, rfl⟩ := own_shape hown'
      have hg3 : (W1.alloc (.cells #[.string Bd] 9)).grownBy w3 (Value.slice o k c).ownBlock := hgrow3
      have b3 := Lib.hid (own_bel (hownA.out.alloc _) (G.alloc (.cells #[.string Bd] 9)) hg3)
      have o3 : Hid (w3.ownsRow w.heap.size 9 1 (.slice o2 (k + 1) c2) (k + 1) (encS (D ++ [Bd]))) := Lib.hid (by
        have e : encS (D ++ [Bd]) = encS D ++ [Value.string Bd] := by simp [encS]
        rw [e]
        exact hown')
      clear hnil3 hgrow3 hg3 hown' q1 q2 q3 q4 q5 hownA
      go_wp2
      go_round
      case rel => exact ⟨k + 1, c2, o2, D ++ [Bd], p + n, rfl, by go_num, hpn, by omega, o3, hnew, b3⟩
      case measure => simp [intOf]; omega
set_option maxHeartbeats 8000000 in
theorem join_any (o : Option Addr) (n c : Nat) (xs : List ByteArray) (hn : n ≤ maxLen) (hx : ∀ x ∈ xs, x.size ≤ 140737488355328) (w : World) (hA : SlArg w o n xs) :
    Calls Try.prog 20 #[.slice o n c] w fun e w' => e = .returned (.tuple #[.string ⟨(joiB (lists xs)).toArray⟩, .int .i64 (joiE (lists xs))]) ∧ Bel w w' := by
  have hlen := hA.1
  unfold maxLen at hn
  obtain ⟨i0, hi, hz0, hz1, hz2⟩ := info_parts info_u8
  have HA := Lib.hid hA
  have HX := Lib.hid hx
  clear hA hx
  go_enter Try.func20, Try.ntmps20
  go_wp2
  go_loopw [4, 11] (fun v i wr => ∃ (k m c' : Nat) (a : Option Addr), v = .slice a m c' ∧ i = .int .i64 (k : Int) ∧ k ≤ n ∧ m ≤ 262144 ∧ Hid ((frmAt xs k).length = m) ∧ Hid (wr.ownsRow w.heap.size 5 1 (.slice a m c') m (encB (frmAt xs k))) ∧ Hid (Bel w wr)) (fun _ i _ => n - (intOf i).toNat)
  case atStart => exact ⟨0, 0, 0, none, rfl, rfl, Nat.zero_le _, by omega, Lib.hid rfl, Lib.hid (World.ownsRow_nil _ _ _ _), Lib.hid (Bel.refl _)⟩
  case round =>
    obtain ⟨k, m, c', a, rfl, rfl, hk, hm, hml, hown, hb⟩ := hrel
    rename World => W0
    by_cases hlt : k < n
    · have hkx : k < xs.length := by omega
      obtain ⟨p, rfl, hc0⟩ := HA.out.2 k hkx
      have hc := hb.out.cell' hc0
      have hl := frmAt_len hkx
      have hle := frmAt_le (k := k + 1) (xs := xs)
      have hst := frmAt_step hkx
      have hxs := HX.out xs[k] (List.getElem_mem hkx)
      rw [hml.out] at hl
      obtain ⟨x, hxe⟩ : ∃ x, xs[k] = x := ⟨_, rfl⟩
      rw [hxe] at hc hc0 hl hst hxs
      by_cases hbig : 262136 < x.size
      · have hz := Lib.hid (joi_no (fs := lists xs) (fun h => by unfold OkJ at h; omega))
        have hs := Lib.hid (seal_long x hbig hxs)
        clear hml hl hle hst hown hxe hc0
        go_wp2_with fail
        refine (hs.out _).mono ?_
        rintro e W2 ⟨rfl, rfl⟩
        go_wp2
        go_ret2
        exact ⟨by rw [hz.out.1, hz.out.2]; rfl, hb.out⟩
      · have hs := Lib.hid (seal_ok x (by omega))
        obtain ⟨F, hF⟩ : ∃ F : ByteArray, ⟨(frm x.toList).toArray⟩ = F := ⟨_, rfl⟩
        have hFl : F.toList = frm x.toList := by rw [← hF, tl']
        have hFs : F.size = x.size + 8 := by rw [← toL_len, hFl, frm_len, toL_len]
        rw [hF] at hs
        rw [← hFl] at hst
        have hm2 : Hid ((frmAt xs (k + 1)).length = m + F.size) := Lib.hid (by omega)
        have q3 : Hid (m + F.size ≤ maxLen) := Lib.hid (by unfold maxLen; omega)
        have q4 : Hid (m + F.size ≤ 140737488355328) := Lib.hid (by omega)
        have hbigF : Hid (262144 < m + F.size → ¬ OkJ (lists xs)) := Lib.hid (fun h1 h => by unfold OkJ at h; omega)
        have hst' := Lib.hid hst
        have hown0 := hown
        clear hst hFl hF hxe hFs hle hl hml hown hxs
        go_wp2_with fail
        refine (hs.out _).mono ?_
        rintro e W2 ⟨rfl, g1⟩
        have HO := Lib.hid (own_on hown0.out g1)
        have B2 := Lib.hid (Bel.trans hb.out g1)
        clear hown0 hb
        go_wp2_with (at_builtin; refine Lib.wpList_append_own_string _ rfl _ _ 36 9 rfl w.heap.size 5 i0 Try.underlying36 Try.underlying9 hi hz0 hz1 hz2 _ _ _ rfl HO.out F rfl q3.out q4.out B2.out.size ?_; intro v3 w3 hown3 hgrow3 hnil3; refine Hid.out ?_)
        refine Lib.hid ?_
        obtain ⟨o3, c3, rfl⟩ := own_shape hown3
        have b3 := Lib.hid (own_bel HO.out B2.out hgrow3)
        rw [strCells_enc, ← encB_app, ← hst'.out] at hown3
        have h3 := Lib.hid hown3
        clear hnil3 hgrow3 hown3 q3 q4 hst' HO B2 g1
        by_cases hsum : 262144 < m + F.size
        · have hz := Lib.hid (joi_no (hbigF.out hsum))
          clear hbigF h3 hm2
          go_wp2
          go_ret2
          exact ⟨by rw [hz.out.1, hz.out.2]; rfl, b3.out⟩
        · clear hbigF
          go_wp2
          go_round
          case rel => exact ⟨k + 1, m + F.size, c3, o3, by go_num, by go_num, by omega, by omega, hm2, h3, b3⟩
          case measure => simp [intOf]; omega
    · obtain rfl : k = n := by omega
      have hT' := hml.out
      rw [frmAt_all hlen] at hT'
      have hz := Lib.hid (joi_ok (fs := lists xs) (by unfold OkJ; omega))
      have hO := hown.out
      rw [frmAt_all hlen] at hO
      have cv := own_conv hO
      clear hown hO hml hT'
      go_wp2
      go_ret2
      exact ⟨by rw [hz.out.1, hz.out.2]; rfl, hb.out⟩
end Frm
end Go.Proofs.Ytkecellbbfhpoaa
