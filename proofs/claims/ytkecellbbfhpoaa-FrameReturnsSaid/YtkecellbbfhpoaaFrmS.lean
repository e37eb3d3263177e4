/-
  Layer 4, the code: Unpack.
-/
import Derived.Test.YtkecellbbfhpoaaFrmR
namespace Go.Proofs.Ytkecellbbfhpoaa
open Go.RowKit Go.ChangeShapes Go.WideShapes
namespace Frm
open Hsh

theorem ul_short {R : List UInt8} {cnt k j : Nat} {X : Except Bad (List (List UInt8) × List UInt8)} {D : List (List UInt8)} (h2 : R.length < 2) (hj : cnt - k = j + 1)
    (h : X = more D (unpF (cnt - k) R)) : X = .error .trunc := by
  rw [h, hj, unpF_short h2]
  rfl
theorem ul_big {l : List UInt8} {a b : UInt8} {cnt k j v : Nat} {X : Except Bad (List (List UInt8) × List UInt8)} {D : List (List UInt8)} (hv : val2 a b = v) (hj : cnt - k = j + 1)
    (h : X = more D (unpF (cnt - k) (a :: b :: l))) (hb : 4000 < v) : X = .error .corrupt := by
  rw [h, hj, unpF_eq, if_pos (by rw [hv]; exact hb)]
  rfl
theorem ul_trunc {l : List UInt8} {a b : UInt8} {cnt k j v : Nat} {X : Except Bad (List (List UInt8) × List UInt8)} {D : List (List UInt8)} (hv : val2 a b = v) (hj : cnt - k = j + 1)
    (h : X = more D (unpF (cnt - k) (a :: b :: l))) (hb : v ≤ 4000) (hs : l.length < v) : X = .error .trunc := by
  rw [h, hj, unpF_eq, if_neg (by omega), if_pos (by omega)]
  rfl
theorem ul_step {l : List UInt8} {a b : UInt8} {cnt k j v : Nat} {X : Except Bad (List (List UInt8) × List UInt8)} {D : List (List UInt8)} (hv : val2 a b = v) (hj : cnt - k = j + 1)
    (h : X = more D (unpF (cnt - k) (a :: b :: l))) (hb : v ≤ 4000) (hs : v ≤ l.length) : X = more (D ++ [l.take v]) (unpF j (l.drop v)) := by
  rw [h, hj, more_step _ _ _ _ _ (by omega) (by omega), hv]
/-- The fields that are filled in: of cnt places the first hold D. -/
def fil (D : List ByteArray) (i : Nat) : Value := .string (D.getD i ByteArray.empty)
theorem fil_row {w : World} {B cnt : Nat} {D : List ByteArray} (h : w.rowIs B 9 cnt (fil D)) (hD : D.length = cnt) : SlArg w (some ⟨B, 0, none⟩) cnt D := ⟨hD, fun i hi => ⟨_, rfl, by
  rw [Lib.add_plain, Nat.zero_add, h.cell (by omega)]
  simp [fil, List.getD, List.getElem?_eq_getElem hi]⟩⟩
theorem fil_step {w : World} {B cnt k : Nat} {D : List ByteArray} {x : ByteArray} (h : w.rowIs B 9 cnt (fil D)) (hD : D.length = k) : (w.setCell ⟨B, k, none⟩ (.string x)).rowIs B 9 cnt (fil (D ++ [x])) :=
  (h.set k (.string x)).congr fun i _ => by
    subst hD
    simp only [fil, List.getD]
    by_cases e : i = D.length
    · subst e; simp
    · rw [if_neg e]
      rcases Nat.lt_or_ge i D.length with g | g
      · rw [List.getElem?_append_left g]
      · have e1 : (D ++ [x])[i]? = none := List.getElem?_eq_none (by rw [List.length_append, List.length_singleton]; omega)
        have e2 : D[i]? = none := List.getElem?_eq_none g
        rw [e1, e2]
theorem Rd.set {w : World} {b q : Nat} {l : List UInt8} (h : Rd w b q l) {p : Addr} (hp : p.block ≠ b) (v : Value) : Rd (w.setCell p v) b q l := fun j hj => by
  rw [World.cell?_setCell_far w p ⟨b, q + j, none⟩ v hp]
  exact h j hj
theorem rd_new (w : World) (s : ByteArray) : Rd (Lib.bytesWorld w 5 s) w.heap.size 0 s.toList := fun j hj => by
  rw [toL_len] at hj
  rw [Nat.zero_add, Lib.bytesWorld_cell w 5 s j hj, toL_get s j hj]
  have : s.data.toList.getD j 0 = s[j] := by
    have h2 : j < s.data.toList.length := by rw [Array.length_toList]; exact hj
    rw [List.getD, List.getElem?_eq_getElem h2]
    rfl
  rw [this]
theorem bel_bytes {a w : World} (h : Bel a w) (s : ByteArray) : Bel a (Lib.bytesWorld w 5 s) :=
  Bel.trans h ⟨rfl, rfl, rfl, by rw [Lib.bytesWorld_size]; omega, fun i hi => Lib.bytesWorld_at_old w _ s i hi⟩
theorem row_drewN {w : World} {b n : Nat} {t : TypeId} {f : Nat → Value} (h : w.rowIs b t n f) (m : Nat) : (w.drewN m).rowIs b t n f := h.of_block rfl
/-- What holds where the reader goes to its end early. -/
def Early (s : ByteArray) (w : World) (a' : Act) (w' : World) : Prop := ∃ (E : Int) (u0 u1 u2 u3 u4 u5 u6 u8 u9 u10 u11 u12 u13 u14 u15 u16 u17 u18 u19 u20 u21 u22 u23 u24 u25 u26 u27 u28 u29 u30 u31 u32 u33 u34 u35 u36 u37 u38 u39 u40 u41 u42 u43 u44 u45 u46 u47 : Value), a' = { tmps := #[u0, u1, u2, u3, u4, u5, u6, .int .i64 E, u8, u9, u10, u11, u12, u13, u14, u15, u16, u17, u18, u19, u20, u21, u22, u23, u24, u25, u26, u27, u28, u29, u30, u31, u32, u33, u34, u35, u36, u37, u38, u39, u40, u41, u42, u43, u44, u45, u46, u47], defers := [] } ∧ (E != 0) = true ∧ unpL s.toList = [] ∧ unpE s.toList = E ∧ Bel w w'
theorem unp_end {l : List UInt8} {b : Bad} (h : unp l = .error b) : unpL l = [] ∧ unpE l = badE b ∧ (badE b != 0) = true := by
  obtain ⟨h1, h2⟩ := unp_bad h
  exact ⟨h1, h2, by cases b <;> rfl⟩
set_option maxHeartbeats 8000000 in
theorem unpack_any (s : ByteArray) (hs : s.size ≤ 300000) (w : World) :
    Calls Try.prog 13 #[.string s] w fun e w' => (∃ o k c D, SlArg w' o k D ∧ lists D = unpL s.toList ∧ e = .returned (.tuple #[.slice o k c, .int .i64 (unpE s.toList)])) ∧ Bel w w' := by
  obtain ⟨i0, hi, hz0, hz1, hz2⟩ := info_parts info_str
  go_enter Try.func13, Try.ntmps13
  go_wp2
  refine wp_scope_jumps 0 (Early s w) (fun _ _ => 0) rfl ?_ ?_
  · by_cases h1 : s.size < 1
    · have hz := Lib.hid (unp_bad (show unp s.toList = .error .trunc by
        have : s.toList = [] := List.length_eq_zero_iff.1 (by rw [toL_len]; omega)
        rw [this]; rfl))
      obtain rfl : s = ⟨#[]⟩ := by
        apply ByteArray.ext
        apply Array.toList_inj.1
        exact List.length_eq_zero_iff.1 (by rw [Array.length_toList]; show s.size = 0; omega)
      go_wp2
      simp only [Exit.jump]
      go_ret2
      exact ⟨⟨none, 0, 0, [], SlArg.nil _, by rw [hz.out.1]; rfl, by rw [hz.out.2]; rfl⟩, Bel.refl _⟩
    · have h1' : 1 ≤ s.size := by omega
      have ne0 : s.toList.isEmpty = false := by
        have := toL_len s
        cases h : s.toList with
        | nil => rw [h] at this; simp at this; omega
        | cons _ _ => rfl
      have x0 := fun w => idx_str s .i64 0 0 rfl (by omega) w
      have hc := s[0].toNat_lt
      by_cases h64 : 64 < s[0].toNat
      · have hz := Lib.hid (unp_bad (unp_many h1' h64))
        generalize s[0].toNat = cnt at *
        go_wp2
        simp only [Exit.jump]
        go_ret2
        exact ⟨⟨none, 0, 0, [], SlArg.nil _, by rw [hz.out.1]; rfl, by rw [hz.out.2]; rfl⟩, Bel.refl _⟩
      · have h64' : s[0].toNat ≤ 64 := by omega
        have ub := Lib.hid (fun b => unp_of_bad (s := s) (b := b) h1' h64')
        have uo := Lib.hid (fun D => unp_of_ok (s := s) (D := D) h1' h64')
        have ur := Lib.hid (fun D t => unp_of_rest (s := s) (D := D) (t := t) h1' h64')
        generalize s[0].toNat = cnt at *
        have mk := fun W => run_make_row (P := Try.prog) 22 9 i0 (.string ByteArray.empty) Try.underlying22 hi hz0 hz1 rfl .i64 .i64 cnt (by rw [hz2]; omega) (by omega) W
        have sl := fun w => cutE s 1 1 rfl h1' w
        obtain ⟨T, hT⟩ : ∃ T : ByteArray, ⟨(s.toList.drop 1).toArray⟩ = T := ⟨_, rfl⟩
        have hTl : T.toList = s.toList.drop 1 := by rw [← hT, tl']
        have hTs : T.size ≤ 300000 := by rw [← toL_len, hTl, List.length_drop, toL_len]; omega
        rw [hT] at sl
        have cv := fun W => Lib.run_convert_string_bytes (P := Try.prog) W 9 36 5 T Try.underlying9 Try.underlying36 Try.underlying5
        clear hT h1 h64
        go_upto_region 8 with (fail)
        clear cv mk sl x0
        have hsz1 : (w.alloc (Obj.cells (madeCells #[Value.string ByteArray.empty] cnt) 9)).heap.size = w.heap.size + 1 := by show (w.heap.push _).size = _; simp
        have r0 : (Lib.bytesWorld (w.alloc (Obj.cells (madeCells #[Value.string ByteArray.empty] cnt) 9)) 5 T).rowIs w.heap.size 9 cnt (fil []) :=
          ((World.rowIs_made w (.string ByteArray.empty) cnt 9).of_block (Lib.bytesWorld_at_old _ _ _ _ (by omega))).congr fun i _ => rfl
        have d0 : Rd (Lib.bytesWorld (w.alloc (Obj.cells (madeCells #[Value.string ByteArray.empty] cnt) 9)) 5 T) (w.heap.size + 1) 0 T.toList := hsz1 ▸ rd_new _ T
        have b0 : Bel w (Lib.bytesWorld (w.alloc (Obj.cells (madeCells #[Value.string ByteArray.empty] cnt) 9)) 5 T) := bel_bytes (Bel.alloc (Bel.refl w) _) T
        have c0 := grownCap_ge (w.alloc (Obj.cells (madeCells #[Value.string ByteArray.empty] cnt) 9)) T.size 0 5
        have R0 := Lib.hid r0
        have D0 := Lib.hid d0
        have B0 := Lib.hid b0
        clear r0 d0 b0 hsz1
        generalize Lib.bytesWorld (w.alloc (Obj.cells (madeCells #[Value.string ByteArray.empty] cnt) 9)) 5 T = W1 at *
        generalize grownCap (w.alloc (Obj.cells (madeCells #[Value.string ByteArray.empty] cnt) 9)) T.size 0 5 = Cp at *
        have HT := Lib.hid hTl
        have HTn := Lib.hid (toL_len T)
        clear hTl
        go_wp2
        go_loopw [6, 7, 24] (fun v er i wr => ∃ (k n c q : Nat) (D : List ByteArray) (R : List UInt8), v = .slice (some ⟨w.heap.size + 1, q, none⟩) n c ∧ er = .int .i64 0 ∧ i = .int .i64 (k : Int) ∧ k ≤ cnt ∧ n ≤ c ∧ n ≤ 300000 ∧ Hid (D.length = k) ∧ Hid (R.length = n) ∧
          Hid (Rd wr (w.heap.size + 1) q R) ∧ Hid (wr.rowIs w.heap.size 9 cnt (fil D)) ∧ Hid (unpF cnt (s.toList.drop 1) = more (D.map ByteArray.toList) (unpF (cnt - k) R)) ∧ Hid (Bel w wr)) (fun _ _ i _ => cnt - (intOf i).toNat)
        case atStart => exact ⟨0, T.size, Cp, 0, [], T.toList, rfl, rfl, rfl, Nat.zero_le _, c0, hTs, Lib.hid rfl, HTn, D0, R0, Lib.hid (by
          rw [Nat.sub_zero, HT.out]
          cases unpF cnt (s.toList.drop 1) with
          | error e => rfl
          | ok x => obtain ⟨fs, t⟩ := x; rfl), B0⟩
        case round =>
          obtain ⟨k, n, c, q, D, R, rfl, rfl, rfl, hk, hnc, hnm, hDk, hRn, hRd, hrow, hsp, hb⟩ := hrel
          rename World => W0
          clear R0 D0 B0 HT HTn
          by_cases hkc : k < cnt
          · have hj : cnt - k = (cnt - (k + 1)) + 1 := by omega
            by_cases h2 : n < 2
            · have hz := Lib.hid (unp_end (ub.out .trunc (ul_short (by rw [hRn.out]; exact h2) hj hsp.out)))
              have cs := Lib.hid (cut_short (w.heap.size + 1) q n c h2 W0)
              clear hsp ub uo ur
              go_wp2_with fail
              refine cs.out.mono ?_
              rintro e W2 ⟨rfl, rfl⟩
              go_wp2_with fail
              go_step3
              exact ⟨rfl, _, _, _, _, _, _, _, _, _, _, _, _, _, _, _, _, _, _, _, _, _, _, _, _, _, _, _, _, _, _, _, _, _, _, _, _, _, _, _, _, _, _, _, _, _, _, _, _, rfl, hz.out.2.2, hz.out.1, hz.out.2.1, hb.out⟩
            · obtain ⟨x, y, l, rfl⟩ : ∃ x y l, R = x :: y :: l := by
                have := hRn.out
                match R, this with
                | [], h => simp at h; omega
                | [_], h => simp at h; omega
                | x :: y :: l, _ => exact ⟨x, y, l, rfl⟩
              obtain ⟨v, hv⟩ : ∃ v, val2 x y = v := ⟨_, rfl⟩
              have hln : l.length + 2 = n := hRn.out
              have HV := Lib.hid hv
              have cs := Lib.hid (cut_any (w.heap.size + 1) q n c v x y l hRn.out hnc (by omega) hv W0 hRd.out)
              clear hv
              go_wp2_with fail
              refine cs.out.mono ?_
              rintro e W2 ⟨⟨hbig, rfl⟩ | ⟨hle, hsh, rfl⟩ | ⟨hle, hln2, q1, q2, ra, rb, rfl⟩, m, rfl⟩
              · have hz := Lib.hid (unp_end (ub.out .corrupt (ul_big HV.out hj hsp.out hbig)))
                have G := Lib.hid (hb.out.drewN m)
                clear hsp ub uo ur HV cs
                go_wp2_with fail
                go_step3
                exact ⟨rfl, _, _, _, _, _, _, _, _, _, _, _, _, _, _, _, _, _, _, _, _, _, _, _, _, _, _, _, _, _, _, _, _, _, _, _, _, _, _, _, _, _, _, _, _, _, _, _, _, rfl, hz.out.2.2, hz.out.1, hz.out.2.1, G.out⟩
              · have hz := Lib.hid (unp_end (ub.out .trunc (ul_trunc HV.out hj hsp.out hle hsh)))
                have G := Lib.hid (hb.out.drewN m)
                clear hsp ub uo ur HV cs
                go_wp2_with fail
                go_step3
                exact ⟨rfl, _, _, _, _, _, _, _, _, _, _, _, _, _, _, _, _, _, _, _, _, _, _, _, _, _, _, _, _, _, _, _, _, _, _, _, _, _, _, _, _, _, _, _, _, _, _, _, _, rfl, hz.out.2.2, hz.out.1, hz.out.2.1, G.out⟩
              · have hst := ul_step HV.out hj hsp.out hle hln2
                obtain ⟨F, hF⟩ : ∃ F : ByteArray, ⟨(l.take v).toArray⟩ = F := ⟨_, rfl⟩
                have hFl : F.toList = l.take v := by rw [← hF, tl']
                have hnew : Hid (unpF cnt (s.toList.drop 1) = more ((D ++ [F]).map ByteArray.toList) (unpF (cnt - (k + 1)) (l.drop v))) := Lib.hid (by
                  rw [hst]
                  simp [hFl])
                have cv : (convert 36 9 (.slice (some ⟨w.heap.size + 1, q1, none⟩) v v)).run Try.prog (W0.drewN m) = .ok (.string F) (W0.drewN m) := hF ▸ (ra.drewN m).conv v (by rw [List.length_take]; omega)
                have row := row_drewN hrow.out m
                have c0 := row.cell hkc
                have f0 := row.frozen k
                have row2 := Lib.hid (fil_step (x := F) row hDk.out)
                have rd2 := Lib.hid ((rb.drewN m).set (p := ⟨w.heap.size, k, none⟩) (by show w.heap.size ≠ w.heap.size + 1; omega) (.string F))
                have G := Lib.hid ((hb.out.drewN m).setCell (p := ⟨w.heap.size, k, none⟩) (Nat.le_refl _) (.string F))
                have hl2 : Hid ((l.drop v).length = n - (2 + v)) := Lib.hid (by rw [List.length_drop]; omega)
                have hd2 : Hid ((D ++ [F]).length = k + 1) := Lib.hid (by rw [List.length_append, List.length_singleton, hDk.out])
                clear hst hF hFl hsp ub uo ur HV cs row ra rb hRd hrow hb hDk hRn
                generalize W0.drewN m = W3 at *
                go_wp2
                refine ⟨⟨k + 1, n - (2 + v), c - (2 + v), q2, D ++ [F], l.drop v, rfl, rfl, by go_num, by omega, by omega, by omega, hd2, hl2, rd2, row2, hnew, G⟩, ?_⟩
                simp [intOf]
                omega
          · obtain rfl : k = cnt := by omega
            have hfin : unpF k (s.toList.drop 1) = .ok (D.map ByteArray.toList, R) := by
              rw [hsp.out, Nat.sub_self]
              simp [unpF, more]
            have hA := Lib.hid (fil_row hrow.out hDk.out)
            clear hsp hrow hRd
            by_cases hend : 0 < n
            · have hz := Lib.hid (unp_bad (ur.out _ _ (by intro e; have := hRn.out; rw [e] at this; simp at this; omega) hfin))
              clear hfin ub uo ur hRn hDk
              go_wp2
              go_step3
              go_wp2
              simp only [Exit.jump]
              go_ret2
              exact ⟨⟨none, 0, 0, [], SlArg.nil _, by rw [hz.out.1]; rfl, by rw [hz.out.2]; rfl⟩, hb.out⟩
            · obtain rfl : R = [] := List.eq_nil_of_length_eq_zero (by rw [hRn.out]; omega)
              have hz := Lib.hid (unp_good (uo.out _ hfin))
              clear hfin ub uo ur hRn hDk
              go_wp2
              go_step3
              go_wp2
              simp only [Exit.jump]
              go_ret2
              exact ⟨⟨_, k, k, D, hA.out, by rw [hz.out.1]; rfl, by rw [hz.out.2]; rfl⟩, hb.out⟩
  · rintro a' w' ⟨E, u0, u1, u2, u3, u4, u5, u6, u8, u9, u10, u11, u12, u13, u14, u15, u16, u17, u18, u19, u20, u21, u22, u23, u24, u25, u26, u27, u28, u29, u30, u31, u32, u33, u34, u35, u36, u37, u38, u39, u40, u41, u42, u43, u44, u45, u46, u47, rfl, hE, h1, h2, hb⟩
    have H1 := Lib.hid h1
    have H2 := Lib.hid h2
    clear h1 h2
    go_wp2
    simp only [Exit.jump]
    go_ret2
    exact ⟨⟨none, 0, 0, [], SlArg.nil _, by rw [H1.out]; rfl, by rw [H2.out]; rfl⟩, hb⟩
end Frm
end Go.Proofs.Ytkecellbbfhpoaa
