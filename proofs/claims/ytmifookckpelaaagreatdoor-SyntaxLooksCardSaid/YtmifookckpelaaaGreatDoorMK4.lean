/-
  Layer 8, texts merged: SrH. For every argument within the bounds that each theorem names.
-/
import Derived.Test.YtmifookckpelaaaGreatDoorMJ2
import Derived.Test.YtmifookckpelaaaGreatDoorMG5
import Derived.Test.YtmifookckpelaaaGreatDoorMK2

/-
 Layer 8, the reference: Same.
-/
namespace Go.Proofs.YtmifookckpelaaaGreatDoor
open Go.RowKit Go.ChangeShapes Go.WideShapes
namespace Syn
theorem dec_no {α : Type} [DecidableEq α] {l m : List α} {j : Nat} {X : Bool} (h1 : j < l.length) (h2 : j < m.length) (h : decide (l.drop j = m.drop j) = X) (hn : l[j] ≠ m[j]) : X = false := by
 rw [← h, decide_eq_false_iff_not, List.drop_eq_getElem_cons h1, List.drop_eq_getElem_cons h2]
 exact fun e => hn (List.cons.inj e).1
theorem dec_go {α : Type} [DecidableEq α] {l m : List α} {j : Nat} {X : Bool} (h1 : j < l.length) (h2 : j < m.length) (h : decide (l.drop j = m.drop j) = X) (he : l[j] = m[j]) : decide (l.drop (j + 1) = m.drop (j + 1)) = X := by
 rw [← h, List.drop_eq_getElem_cons h1, List.drop_eq_getElem_cons h2, he, Bool.eq_iff_iff, decide_eq_true_eq, decide_eq_true_eq, List.cons.injEq]
 exact ⟨fun h => ⟨rfl, h⟩, fun h => h.2⟩
theorem dec_end {α : Type} [DecidableEq α] {l m : List α} {j : Nat} {X : Bool} (h1 : l.length ≤ j) (h2 : m.length ≤ j) (h : decide (l.drop j = m.drop j) = X) : X = true := by
 rw [List.drop_eq_nil_of_le h1, List.drop_eq_nil_of_le h2] at h
 exact h.symm
set_option maxRecDepth 100000 in
set_option maxHeartbeats 8000000 in
theorem rsame_any (no1 fo1 no2 fo2 : Option Addr) (n1 nc1 k1 fc1 n2 nc2 k2 fc2 : Nat) (L1 L2 : List Nd) (F1 F2 : List Fw) (hn1 : n1 ≤ 4611686018427387904) (hn2 : n2 ≤ 4611686018427387904) (hk1 : k1 ≤ 4611686018427387904) (hk2 : k2 ≤ 4611686018427387904) (w : World) (hA1 : NArg w no1 n1 L1) (hA2 : NArg w no2 n2 L2) (hF1 : FArg w fo1 k1 F1) (hF2 : FArg w fo2 k2 F2) (hw1 : WfN L1) (hw2 : WfN L2) (hv1 : ∀ x ∈ F1, x.params.length ≤ 4611686018427387904) (hv2 : ∀ x ∈ F2, x.params.length ≤ 4611686018427387904) :
  Calls Tryz.prog 14 #[.agg #[.slice no1 n1 nc1, .slice fo1 k1 fc1], .agg #[.slice no2 n2 nc2, .slice fo2 k2 fc2]] w fun e w' => e = .returned (.bool (decide (L1 = L2) && decide (F1 = F2))) ∧ Bel w w' := by
 obtain ⟨V, hV⟩ : ∃ V, w.alloc (.cells #[.slice no1 n1 nc1, .slice fo1 k1 fc1] 25) = V := ⟨_, rfl⟩
 obtain ⟨U, hU⟩ : ∃ U, V.alloc (.cells #[.slice no2 n2 nc2, .slice fo2 k2 fc2] 25) = U := ⟨_, rfl⟩
 have hz : V.heap.size = w.heap.size + 1 := by rw [← hV, alloc_sz]
 have BV : Bel w V := by rw [← hV]; exact Bel.alloc (Bel.refl w) _
 have BU : Bel V U := by rw [← hU]; exact Bel.alloc (Bel.refl V) _
 obtain ⟨v0, v1⟩ : V.cell? ⟨w.heap.size, 0, none⟩ = some (.slice no1 n1 nc1) ∧ V.cell? ⟨w.heap.size, 1, none⟩ = some (.slice fo1 k1 fc1) := by
  rw [← hV]
  exact ⟨World.cell?_alloc_new .., World.cell?_alloc_new ..⟩
 obtain ⟨u0, u1⟩ : U.cell? ⟨w.heap.size + 1, 0, none⟩ = some (.slice no2 n2 nc2) ∧ U.cell? ⟨w.heap.size + 1, 1, none⟩ = some (.slice fo2 k2 fc2) := by
  rw [← hU, ← hz]
  exact ⟨World.cell?_alloc_new .., World.cell?_alloc_new ..⟩
 have t0 := BU.cell' v0
 have t1 := BU.cell' v1
 have B := Bel.trans BV BU
 have HB := Lib.hid B
 have HT0 := Lib.hid t0
 have HT1 := Lib.hid t1
 have HU0 := Lib.hid u0
 have HU1 := Lib.hid u1
 have HUe := Lib.hid (show (w.alloc (.cells #[.slice no1 n1 nc1, .slice fo1 k1 fc1] 25)).alloc (.cells #[.slice no2 n2 nc2, .slice fo2 k2 fc2] 25) = U by rw [hV]; exact hU)
 have HA1 := Lib.hid (hA1.on B)
 have HA2 := Lib.hid (hA2.on B)
 have HF1 := Lib.hid (hF1.on B)
 have HF2 := Lib.hid (hF2.on B)
 have l1 := hA1.1
 have l2 := hA2.1
 have m1 := hF1.1
 have m2 := hF2.1
 have Hw1 := Lib.hid hw1
 have Hw2 := Lib.hid hw2
 have Hv1 := Lib.hid hv1
 have Hv2 := Lib.hid hv2
 clear hV hU hz BV BU v0 v1 hA1 hA2 hF1 hF2 hw1 hw2 hv1 hv2 B
 by_cases hn : n1 = n2
 rotate_left
 ·have hne : decide (L1 = L2) = false := decide_eq_false (fun e => hn (by rw [← l1, ← l2, e]))
  have h1 : ((n1 : Int) == (n2 : Int)) = false := by simp; omega
  have h2 : ((n1 : Int) != (n2 : Int)) = true := by simp; omega
  rw [hne, Bool.false_and]
  clear t0 t1 u0 u1
  go_enter Tryz.func14, Tryz.ntmps14
  go_wp2_with fail
  go_ret
  rw [HUe.out]
  exact ⟨rfl, HB.out⟩
 by_cases hk : k1 = k2
 rotate_left
 ·have hne : decide (F1 = F2) = false := decide_eq_false (fun e => hk (by rw [← m1, ← m2, e]))
  have h1 : ((k1 : Int) == (k2 : Int)) = false := by simp; omega
  have h2 : ((k1 : Int) != (k2 : Int)) = true := by simp; omega
  subst hn
  rw [hne, Bool.and_false]
  go_enter Tryz.func14, Tryz.ntmps14
  go_wp2_with fail
  go_ret
  rw [HUe.out]
  exact ⟨rfl, HB.out⟩
 subst hn hk
 obtain ⟨X1, hX1⟩ : ∃ X1, decide (L1 = L2) = X1 := ⟨_, rfl⟩
 obtain ⟨X3, hX3⟩ : ∃ X3, decide (F1 = F2) = X3 := ⟨_, rfl⟩
 rw [hX1, hX3]
 have HX1 := Lib.hid (show decide (L1.drop 0 = L2.drop 0) = X1 from hX1)
 have HX3 := Lib.hid (show decide (F1.drop 0 = F2.drop 0) = X3 from hX3)
 have HL1 := Lib.hid l1
 have HL2 := Lib.hid l2
 have HM1 := Lib.hid m1
 have HM2 := Lib.hid m2
 clear hX1 hX3 l1 l2 m1 m2 t0 t1 u0 u1
 go_enter Tryz.func14, Tryz.ntmps14
 go_wp2_with fail
 go_loopw [5] (fun iv wr => ∃ j : Nat, iv = .int .i64 (j : Int) ∧ j ≤ n1 ∧ Hid (decide (L1.drop j = L2.drop j) = X1) ∧ Hid (Bel U wr)) (fun iv _ => n1 - (intOf iv).toNat)
 case atStart => exact ⟨0, rfl, Nat.zero_le _, HX1, Lib.hid (by rw [HUe.out]; exact Bel.refl _)⟩
 case round =>
  obtain ⟨j, rfl, hj, HM, HBr⟩ := hrel
  rename World => wr
  have t0 := HBr.out.cell' HT0.out
  have t1 := HBr.out.cell' HT1.out
  have u0 := HBr.out.cell' HU0.out
  have u1 := HBr.out.cell' HU1.out
  rcases Nat.lt_or_ge j n1 with hjn | hjn
  ·have q1 : j < L1.length := by rw [HL1.out]; exact hjn
   have q2 : j < L2.length := by rw [HL2.out]; exact hjn
   obtain ⟨b1, o1, rfl, hc1⟩ := HA1.out.2 (by omega)
   obtain ⟨b2, o2, rfl, hc2⟩ := HA2.out.2 (by omega)
   obtain ⟨va, ha, hca⟩ := hc1 j q1
   obtain ⟨vb, hb, hcb⟩ := hc2 j q2
   have hno := fun h => dec_no q1 q2 HM.out h
   have hgo := fun h => dec_go q1 q2 HM.out h
   have hx1 := Hw1.out _ (List.getElem_mem q1)
   have hx2 := Hw2.out _ (List.getElem_mem q2)
   obtain ⟨x, hx⟩ : ∃ x, L1[j] = x := ⟨_, rfl⟩
   obtain ⟨y, hy⟩ : ∃ y, L2[j] = y := ⟨_, rfl⟩
   rw [hx] at ha hx1 hno hgo
   rw [hy] at hb hx2 hno hgo
   have ak := ha.k
   have asn := ha.s
   have ai := ha.i
   have aK := karg_at (ha.keys.on HBr.out)
   have aZ := ha.kids.on HBr.out
   have bk := hb.k
   have bsn := hb.s
   have bi := hb.i
   have bK := karg_at (hb.keys.on HBr.out)
   have bZ := hb.kids.on HBr.out
   obtain ⟨k1, s1, i1, ko1, kn1, kc1, jo1, jn1, jc1⟩ := va
   obtain ⟨k2, s2, i2, ko2, kn2, kc2, jo2, jn2, jc2⟩ := vb
   dsimp only at ak asn ai aK aZ bk bsn bi bK bZ
   subst ak asn ai bk bsn bi
   have c0 : wr.cell? ⟨b1, o1 + j * 5, none⟩ = some (.int .i64 x.k) := HBr.out.cell' (by simpa using hca 0 _ rfl)
   have c1 : wr.cell? ⟨b1, o1 + j * 5 + 1, none⟩ = some (.string ⟨x.s.toArray⟩) := HBr.out.cell' (by simpa using hca 1 _ rfl)
   have c2 : wr.cell? ⟨b1, o1 + j * 5 + 2, none⟩ = some (.int .i64 x.i) := HBr.out.cell' (by simpa using hca 2 _ rfl)
   have c3 : wr.cell? ⟨b1, o1 + j * 5 + 3, none⟩ = some (.slice ko1 kn1 kc1) := HBr.out.cell' (by simpa using hca 3 _ rfl)
   have c4 : wr.cell? ⟨b1, o1 + j * 5 + 4, none⟩ = some (.slice jo1 jn1 jc1) := HBr.out.cell' (by simpa using hca 4 _ rfl)
   have d0 : wr.cell? ⟨b2, o2 + j * 5, none⟩ = some (.int .i64 y.k) := HBr.out.cell' (by simpa using hcb 0 _ rfl)
   have d1 : wr.cell? ⟨b2, o2 + j * 5 + 1, none⟩ = some (.string ⟨y.s.toArray⟩) := HBr.out.cell' (by simpa using hcb 1 _ rfl)
   have d2 : wr.cell? ⟨b2, o2 + j * 5 + 2, none⟩ = some (.int .i64 y.i) := HBr.out.cell' (by simpa using hcb 2 _ rfl)
   have d3 : wr.cell? ⟨b2, o2 + j * 5 + 3, none⟩ = some (.slice ko2 kn2 kc2) := HBr.out.cell' (by simpa using hcb 3 _ rfl)
   have d4 : wr.cell? ⟨b2, o2 + j * 5 + 4, none⟩ = some (.slice jo2 jn2 jc2) := HBr.out.cell' (by simpa using hcb 4 _ rfl)
   obtain ⟨Y, hY⟩ : ∃ Y, wr.alloc (.cells #[.int .i64 x.k, .string ⟨x.s.toArray⟩, .int .i64 x.i, .slice ko1 kn1 kc1, .slice jo1 jn1 jc1] 60) = Y := ⟨_, rfl⟩
   obtain ⟨Z, hZ⟩ : ∃ Z, Y.alloc (.cells #[.int .i64 y.k, .string ⟨y.s.toArray⟩, .int .i64 y.i, .slice ko2 kn2 kc2, .slice jo2 jn2 jc2] 60) = Z := ⟨_, rfl⟩
   have hYz : Y.heap.size = wr.heap.size + 1 := by rw [← hY, alloc_sz]
   have BY : Bel wr Y := by rw [← hY]; exact Bel.alloc (Bel.refl wr) _
   have BZ : Bel Y Z := by rw [← hZ]; exact Bel.alloc (Bel.refl Y) _
   obtain ⟨y0, y1, y2, y3, y4⟩ := box5 wr (.int .i64 x.k) (.string ⟨x.s.toArray⟩) (.int .i64 x.i) (.slice ko1 kn1 kc1) (.slice jo1 jn1 jc1) 60
   rw [hY] at y0 y1 y2 y3 y4
   obtain ⟨z0, z1, z2, z3, z4⟩ := box5 Y (.int .i64 y.k) (.string ⟨y.s.toArray⟩) (.int .i64 y.i) (.slice ko2 kn2 kc2) (.slice jo2 jn2 jc2) 60
   rw [hZ, hYz] at z0 z1 z2 z3 z4
   have u0' := BY.cell' u0
   have u1' := BY.cell' u1
   have e0 := BY.cell' d0
   have e1 := BY.cell' d1
   have e2 := BY.cell' d2
   have e3 := BY.cell' d3
   have e4 := BY.cell' d4
   have x0 := BZ.cell' y0
   have x1 := BZ.cell' y1
   have x2 := BZ.cell' y2
   have x3 := BZ.cell' y3
   have x4 := BZ.cell' y4
   have HBZ := Lib.hid (Bel.trans BY BZ)
   have HBf := Lib.hid (Bel.trans HB.out (Bel.trans HBr.out (Bel.trans BY BZ)))
   have HZe := Lib.hid (show (wr.alloc (.cells #[.int .i64 x.k, .string ⟨x.s.toArray⟩, .int .i64 x.i, .slice ko1 kn1 kc1, .slice jo1 jn1 jc1] 60)).alloc (.cells #[.int .i64 y.k, .string ⟨y.s.toArray⟩, .int .i64 y.i, .slice ko2 kn2 kc2, .slice jo2 jn2 jc2] 60) = Z by rw [hY]; exact hZ)
   have HS := Lib.hid (reqS_any ko1 ko2 kn1 kn2 kc1 kc2 x.keys y.keys (by rw [← aK.1]; exact hx1.2.1) (by rw [← bK.1]; exact hx2.2.1) Z (SArg.on (SArg.on aK BY) BZ) (SArg.on (SArg.on bK BY) BZ))
   have HaZ := Lib.hid (aZ.on (Bel.trans BY BZ))
   have HbZ := Lib.hid (bZ.on (Bel.trans BY BZ))
   have hjn1 : x.kids.length = jn1 := aZ.1
   have hjn2 : y.kids.length = jn2 := bZ.1
   have hjb : jn1 ≤ 4611686018427387904 := by rw [← hjn1]; exact hx1.2.2
   have hjn' : (j : Int) < (n1 : Int) := by omega
   have Hno := Lib.hid hno
   have Hgo := Lib.hid hgo
   clear hc1 hc2 hca hcb ha hb hno hgo hx1 hx2 hx hy aK bK aZ bZ y0 y1 y2 y3 y4 BY BZ
   by_cases hk : x.k = y.k
   rotate_left
   ·have hz := Hno.out (fun e => hk (by rw [e]))
    subst hz
    have f1 : (x.k == y.k) = false := by simpa using hk
    have f2 : (x.k != y.k) = true := by simpa using hk
    go_wp2_with fail
    go_ret
    exact ⟨rfl, HBf.out⟩
   have f1 : (x.k != y.k) = false := by simpa using hk
   have Hk := Lib.hid hk
   clear hk
   by_cases hs : x.s = y.s
   rotate_left
   ·have hz := Hno.out (fun e => hs (by rw [e]))
    subst hz
    have f2 : (x.s == y.s) = false := by simpa using hs
    have f3 : (x.s != y.s) = true := by simpa using hs
    go_wp2_with fail
    go_ret
    exact ⟨rfl, HBf.out⟩
   have f2 : (x.s != y.s) = false := by simpa using hs
   have Hs := Lib.hid hs
   clear hs
   by_cases hi : x.i = y.i
   rotate_left
   ·have hz := Hno.out (fun e => hi (by rw [e]))
    subst hz
    have f3 : (x.i == y.i) = false := by simpa using hi
    have f4 : (x.i != y.i) = true := by simpa using hi
    go_wp2_with fail
    go_ret
    exact ⟨rfl, HBf.out⟩
   have f3 : (x.i != y.i) = false := by simpa using hi
   have Hi := Lib.hid hi
   clear hi
   by_cases hks : x.keys = y.keys
   rotate_left
   ·have hz := Hno.out (fun e => hks (by rw [e]))
    subst hz
    rw [decide_eq_false hks] at HS
    go_wp2_with fail
    refine HS.out.mono ?_
    rintro e w3 ⟨rfl, g⟩
    go_wp2_with fail
    go_ret
    exact ⟨rfl, Bel.trans HBf.out g⟩
   rw [decide_eq_true hks] at HS
   have Hks := Lib.hid hks
   clear hks
   by_cases hjj : jn1 = jn2
   rotate_left
   ·have hz := Hno.out (fun e => hjj (by rw [← hjn1, ← hjn2, e]))
    subst hz
    have f5 : ((jn1 : Int) == (jn2 : Int)) = false := by simp; omega
    have f6 : ((jn1 : Int) != (jn2 : Int)) = true := by simp; omega
    go_wp2_with fail
    refine HS.out.mono ?_
    rintro e w3 ⟨rfl, g⟩
    have g4 := g.cell' x4
    have h4 := g.cell' z4
    go_wp2_with fail
    go_ret
    exact ⟨rfl, Bel.trans HBf.out g⟩
   subst hjj
   obtain ⟨X2, hX2⟩ : ∃ X2, decide (x.kids = y.kids) = X2 := ⟨_, rfl⟩
   have HX2 := Lib.hid (show decide (x.kids.drop 0 = y.kids.drop 0) = X2 from hX2)
   have Hf := Lib.hid (show X2 = false → X1 = false from fun h => Hno.out (fun e => by rw [e, h] at hX2; simp at hX2))
   have Hg := Lib.hid (show X2 = true → decide (L1.drop (j + 1) = L2.drop (j + 1)) = X1 from fun h => Hgo.out (by
    have hzz : x.kids = y.kids := by rw [h] at hX2; exact of_decide_eq_true hX2
    have hk := Hk.out
    have hs := Hs.out
    have hi := Hi.out
    have hks := Hks.out
    cases x; cases y
    simp only at hk hs hi hks hzz
    rw [hk, hs, hi, hks, hzz]))
   have q1 := hjn1
   have q2 := hjn2
   clear hX2
   go_wp2_with fail
   refine HS.out.mono ?_
   rintro e w3 ⟨rfl, g⟩
   have X4 := Lib.hid (g.cell' x4)
   have Z4 := Lib.hid (g.cell' z4)
   have G3 := Lib.hid g
   have x4' := g.cell' x4
   have z4' := g.cell' z4
   clear g c0 c1 c2 c3 c4 d0 d1 d2 d3 d4 x0 x1 x2 x3 x4 z0 z1 z2 z3 z4 t0 t1 u0 u1 e0 e1 e2 e3 e4 u0' u1'
   go_wp2_with fail
   clear x4' z4'
   go_loopw [8] (fun iv w4 => ∃ m : Nat, iv = .int .i64 (m : Int) ∧ m ≤ jn1 ∧ Hid (decide (x.kids.drop m = y.kids.drop m) = X2) ∧ Hid (Bel w3 w4)) (fun iv _ => jn1 - (intOf iv).toNat)
   case atStart => exact ⟨0, rfl, Nat.zero_le _, HX2, Lib.hid (Bel.refl _)⟩
   case round =>
    obtain ⟨m, rfl, hm, HMm, HB4⟩ := hrel
    rename World => w4
    have x4 := HB4.out.cell' X4.out
    have z4 := HB4.out.cell' Z4.out
    rcases Nat.lt_or_ge m jn1 with hmn | hmn
    ·have p1 : m < x.kids.length := by omega
     have p2 : m < y.kids.length := by omega
     obtain ⟨e1, f1', rfl, hd1⟩ := za_addr HaZ.out (by omega)
     obtain ⟨e2, f2', rfl, hd2⟩ := za_addr HbZ.out (by omega)
     have r1 := (Bel.trans G3.out HB4.out).cell' (hd1 m p1)
     have r2 := (Bel.trans G3.out HB4.out).cell' (hd2 m p2)
     have hn2 := fun h => dec_no p1 p2 HMm.out h
     have hg2 := fun h => dec_go p1 p2 HMm.out h
     obtain ⟨za, hza⟩ : ∃ z, x.kids[m] = z := ⟨_, rfl⟩
     obtain ⟨zb, hzb⟩ : ∃ z, y.kids[m] = z := ⟨_, rfl⟩
     rw [hza] at r1 hn2 hg2
     rw [hzb] at r2 hn2 hg2
     have Hn2 := Lib.hid hn2
     have Hg2 := Lib.hid hg2
     have hmn' : (m : Int) < (jn1 : Int) := by omega
     clear hd1 hd2 hn2 hg2 hza hzb
     by_cases hzz : za = zb
     ·have hM2 := Lib.hid (Hg2.out hzz)
      subst hzz
      go_wp2_with fail
      go_quiet (fail)
      have HB5 := Lib.hid (HB4.out.drewN nq)
      go_wp2
      go_round
      case rel => exact ⟨m + 1, by go_num, by omega, hM2, HB5⟩
      case measure => simp [intOf]; omega
     ·have hz := Hf.out (Hn2.out hzz)
      subst hz
      have f7 : (za == zb) = false := by simpa using hzz
      have f8 : (za != zb) = true := by simpa using hzz
      go_wp2_with fail
      go_quiet (fail)
      have HB5 := Lib.hid (HB4.out.drewN nq)
      go_wp2
      go_ret
      exact ⟨rfl, Bel.trans HBf.out (Bel.trans G3.out HB5.out)⟩
    ·have hM2 := Lib.hid (Hg.out (dec_end (l := x.kids) (m := y.kids) (j := m) (by rw [hjn1]; exact hmn) (by rw [hjn2]; exact hmn) HMm.out))
     obtain rfl : m = jn1 := by omega
     have HB6 := Lib.hid (Bel.trans HBr.out (Bel.trans HBZ.out (Bel.trans G3.out HB4.out)))
     go_wp2_with fail
     go_round
     case rel => exact ⟨j + 1, by go_num, by omega, hM2, HB6⟩
     case measure => simp [intOf]; omega
  ·have hz := dec_end (by rw [HL1.out]; exact hjn) (by rw [HL2.out]; exact hjn) HM.out
   subst hz
   obtain rfl : j = n1 := by omega
   have HB7 := HBr
   go_wp2_with fail
   go_loopw [9] (fun iv wr => ∃ m : Nat, iv = .int .i64 (m : Int) ∧ m ≤ k1 ∧ Hid (decide (F1.drop m = F2.drop m) = X3) ∧ Hid (Bel U wr)) (fun iv _ => k1 - (intOf iv).toNat)
   case atStart => exact ⟨0, rfl, Nat.zero_le _, HX3, HB7⟩
   case round =>
    obtain ⟨m, rfl, hm, HMm, HB8⟩ := hrel
    rename World => w8
    have t1 := HB8.out.cell' HT1.out
    have u1 := HB8.out.cell' HU1.out
    rcases Nat.lt_or_ge m k1 with hmk | hmk
    ·have q1 : m < F1.length := by rw [HM1.out]; exact hmk
     have q2 : m < F2.length := by rw [HM2.out]; exact hmk
     obtain ⟨b1, o1, rfl, hc1⟩ := HF1.out.2 (by omega)
     obtain ⟨b2, o2, rfl, hc2⟩ := HF2.out.2 (by omega)
     obtain ⟨va, ha, hca⟩ := hc1 m q1
     obtain ⟨vb, hb, hcb⟩ := hc2 m q2
     have hno := fun h => dec_no q1 q2 HMm.out h
     have hgo := fun h => dec_go q1 q2 HMm.out h
     have hx1 := Hv1.out _ (List.getElem_mem q1)
     have hx2 := Hv2.out _ (List.getElem_mem q2)
     obtain ⟨x, hx⟩ : ∃ x, F1[m] = x := ⟨_, rfl⟩
     obtain ⟨y, hy⟩ : ∃ y, F2[m] = y := ⟨_, rfl⟩
     rw [hx] at ha hx1 hno hgo
     rw [hy] at hb hx2 hno hgo
     have asn := ha.s
     have aj := ha.j
     have aP := karg_at (ha.ps.on HB8.out)
     have bsn := hb.s
     have bj := hb.j
     have bP := karg_at (hb.ps.on HB8.out)
     obtain ⟨s1, po1, pk1, pc1, j1⟩ := va
     obtain ⟨s2, po2, pk2, pc2, j2⟩ := vb
     dsimp only at asn aj aP bsn bj bP
     subst asn aj bsn bj
     have c0 : w8.cell? ⟨b1, o1 + m * 3, none⟩ = some (.string ⟨x.name.toArray⟩) := HB8.out.cell' (by simpa using hca 0 _ rfl)
     have c1 : w8.cell? ⟨b1, o1 + m * 3 + 1, none⟩ = some (.slice po1 pk1 pc1) := HB8.out.cell' (by simpa using hca 1 _ rfl)
     have c2 : w8.cell? ⟨b1, o1 + m * 3 + 2, none⟩ = some (.int .i64 x.body) := HB8.out.cell' (by simpa using hca 2 _ rfl)
     have d0 : w8.cell? ⟨b2, o2 + m * 3, none⟩ = some (.string ⟨y.name.toArray⟩) := HB8.out.cell' (by simpa using hcb 0 _ rfl)
     have d1 : w8.cell? ⟨b2, o2 + m * 3 + 1, none⟩ = some (.slice po2 pk2 pc2) := HB8.out.cell' (by simpa using hcb 1 _ rfl)
     have d2 : w8.cell? ⟨b2, o2 + m * 3 + 2, none⟩ = some (.int .i64 y.body) := HB8.out.cell' (by simpa using hcb 2 _ rfl)
     have HS := Lib.hid (fun W (g : Bel w8 W) => reqS_any po1 po2 pk1 pk2 pc1 pc2 x.params y.params (by rw [← aP.1]; exact hx1) (by rw [← bP.1]; exact hx2) W (SArg.on aP g) (SArg.on bP g))
     have hmk' : (m : Int) < (k1 : Int) := by omega
     have hm0 : (0 : Int) ≤ (m : Int) := by omega
     have Hno := Lib.hid hno
     have Hgo := Lib.hid hgo
     clear hc1 hc2 hca hcb ha hb hno hgo hx1 hx2 hx hy aP bP
     by_cases hs : x.name = y.name
     rotate_left
     ·have hz := Hno.out (fun e => hs (by rw [e]))
      subst hz
      have f1 : (x.name == y.name) = false := by simpa using hs
      have f2 : (x.name != y.name) = true := by simpa using hs
      go_wp2_with fail
      refine wp_region_held_drew (S := fun W => W.cell? ⟨w.heap.size, 1, none⟩ = some (.slice (some ⟨b1, o1, none⟩) k1 fc1) ∧ W.cell? ⟨w.heap.size + 1, 1, none⟩ = some (.slice (some ⟨b2, o2, none⟩) k1 fc2) ∧ W.cell? ⟨b1, o1 + m * 3, none⟩ = some (.string ⟨x.name.toArray⟩) ∧ W.cell? ⟨b1, o1 + m * 3 + 1, none⟩ = some (.slice po1 pk1 pc1) ∧ W.cell? ⟨b1, o1 + m * 3 + 2, none⟩ = some (.int .i64 x.body) ∧ W.cell? ⟨b2, o2 + m * 3, none⟩ = some (.string ⟨y.name.toArray⟩) ∧ W.cell? ⟨b2, o2 + m * 3 + 1, none⟩ = some (.slice po2 pk2 pc2) ∧ W.cell? ⟨b2, o2 + m * 3 + 2, none⟩ = some (.int .i64 y.body) ∧ Bel w8 W) (by kernel_rfl) ⟨t1, u1, c0, c1, c2, d0, d1, d2, Below.drew (Bel.refl _)⟩ (fun hH => ?_)
      refine take_yes (i := 0) (d := 104) (v := ?_) rfl rfl (by kernel_rfl) (by kernel_rfl) (by kernel_rfl) (fun _ _ _ h => h) (by rfl) ?_ (by assumption) ?_
      rotate_left 1
      ·intro w hSw
       obtain ⟨z0, z1, z2, z3, z4, z5, z6, z7, z8⟩ := hSw
       go_simp
       with_reducible rfl
      try simp only [Act.put, List.setIfInBounds_toArray, List.set_cons_zero, List.set_cons_succ]
      refine take_yes (i := 1) (d := 105) (v := ?_) rfl rfl (by kernel_rfl) (by kernel_rfl) (by kernel_rfl) (fun _ _ _ h => h) (by rfl) ?_ (by assumption) ?_
      rotate_left 1
      ·intro w hSw
       obtain ⟨z0, z1, z2, z3, z4, z5, z6, z7, z8⟩ := hSw
       go_simp
       with_reducible rfl
      try simp only [Act.put, List.setIfInBounds_toArray, List.set_cons_zero, List.set_cons_succ]
      refine take_yes (i := 2) (d := 106) (v := ?_) rfl rfl (by kernel_rfl) (by kernel_rfl) (by kernel_rfl) (fun _ _ _ h => h) (by rfl) ?_ (by assumption) ?_
      rotate_left 1
      ·intro w hSw
       obtain ⟨z0, z1, z2, z3, z4, z5, z6, z7, z8⟩ := hSw
       go_simp
       with_reducible rfl
      try simp only [Act.put, List.setIfInBounds_toArray, List.set_cons_zero, List.set_cons_succ]
      refine take_yes (i := 3) (d := 107) (v := ?_) rfl rfl (by kernel_rfl) (by kernel_rfl) (by kernel_rfl) (fun _ _ _ h => h) (by rfl) ?_ (by assumption) ?_
      rotate_left 1
      ·intro w hSw
       obtain ⟨z0, z1, z2, z3, z4, z5, z6, z7, z8⟩ := hSw
       go_simp
       with_reducible rfl
      try simp only [Act.put, List.setIfInBounds_toArray, List.set_cons_zero, List.set_cons_succ]
      refine take_yes (i := 4) (d := 108) (v := ?_) rfl rfl (by kernel_rfl) (by kernel_rfl) (by kernel_rfl) (fun _ _ _ h => h) (by rfl) ?_ (by assumption) ?_
      rotate_left 1
      ·intro w hSw
       obtain ⟨z0, z1, z2, z3, z4, z5, z6, z7, z8⟩ := hSw
       go_simp
       with_reducible rfl
      try simp only [Act.put, List.setIfInBounds_toArray, List.set_cons_zero, List.set_cons_succ]
      refine take_yes (i := 5) (d := 109) (v := ?_) rfl rfl (by kernel_rfl) (by kernel_rfl) (by kernel_rfl) (fun _ _ _ h => h) (by rfl) ?_ (by assumption) ?_
      rotate_left 1
      ·intro w hSw
       obtain ⟨z0, z1, z2, z3, z4, z5, z6, z7, z8⟩ := hSw
       go_simp
       with_reducible rfl
      try simp only [Act.put, List.setIfInBounds_toArray, List.set_cons_zero, List.set_cons_succ]
      refine take_yes (i := 6) (d := 110) (v := ?_) rfl rfl (by kernel_rfl) (by kernel_rfl) (by kernel_rfl) (fun _ _ _ h => h) (by rfl) ?_ (by assumption) ?_
      rotate_left 1
      ·intro w hSw
       obtain ⟨z0, z1, z2, z3, z4, z5, z6, z7, z8⟩ := hSw
       go_simp
       with_reducible rfl
      try simp only [Act.put, List.setIfInBounds_toArray, List.set_cons_zero, List.set_cons_succ]
      refine take_yes (i := 7) (d := 111) (v := ?_) rfl rfl (by kernel_rfl) (by kernel_rfl) (by kernel_rfl) (fun _ _ _ h => h) (by rfl) ?_ (by assumption) ?_
      rotate_left 1
      ·intro w hSw
       obtain ⟨z0, z1, z2, z3, z4, z5, z6, z7, z8⟩ := hSw
       go_simp
       with_reducible rfl
      try simp only [Act.put, List.setIfInBounds_toArray, List.set_cons_zero, List.set_cons_succ]
      refine take_yes (i := 8) (d := 112) (v := ?_) rfl rfl (by kernel_rfl) (by kernel_rfl) (by kernel_rfl) (fun _ _ _ h => h) (by rfl) ?_ (by assumption) ?_
      rotate_left 1
      ·intro w hSw
       obtain ⟨z0, z1, z2, z3, z4, z5, z6, z7, z8⟩ := hSw
       go_simp
       with_reducible rfl
      try simp only [Act.put, List.setIfInBounds_toArray, List.set_cons_zero, List.set_cons_succ]
      refine take_yes (i := 9) (d := 113) (v := ?_) rfl rfl (by kernel_rfl) (by kernel_rfl) (by kernel_rfl) (fun _ _ _ h => h) (by rfl) ?_ (by assumption) ?_
      rotate_left 1
      ·intro w hSw
       obtain ⟨z0, z1, z2, z3, z4, z5, z6, z7, z8⟩ := hSw
       go_simp
       with_reducible rfl
      try simp only [Act.put, List.setIfInBounds_toArray, List.set_cons_zero, List.set_cons_succ]
      refine take_yes (i := 10) (d := 114) (v := ?_) rfl rfl (by kernel_rfl) (by kernel_rfl) (by kernel_rfl) (fun _ _ _ h => h) (by rfl) ?_ (by assumption) ?_
      rotate_left 1
      ·intro w hSw
       obtain ⟨z0, z1, z2, z3, z4, z5, z6, z7, z8⟩ := hSw
       go_simp
       with_reducible rfl
      try simp only [Act.put, List.setIfInBounds_toArray, List.set_cons_zero, List.set_cons_succ]
      refine take_yes (i := 11) (d := 115) (v := ?_) rfl rfl (by kernel_rfl) (by kernel_rfl) (by kernel_rfl) (fun _ _ _ h => h) (by rfl) ?_ (by assumption) ?_
      rotate_left 1
      ·intro w hSw
       obtain ⟨z0, z1, z2, z3, z4, z5, z6, z7, z8⟩ := hSw
       go_simp
       with_reducible rfl
      try simp only [Act.put, List.setIfInBounds_toArray, List.set_cons_zero, List.set_cons_succ]
      refine take_yes (i := 12) (d := 116) (v := .bool true) rfl rfl (by kernel_rfl) (by kernel_rfl) (by kernel_rfl) (fun _ _ _ h => h) (by rfl) ?_ (by assumption) ?_
      ·intro w hSw
       obtain ⟨z0, z1, z2, z3, z4, z5, z6, z7, z8⟩ := hSw
       go_simp
       try simp
      try simp only [Act.put, List.setIfInBounds_toArray, List.set_cons_zero, List.set_cons_succ]
      refine take_yes (i := 13) (d := 117) (v := ?_) rfl rfl (by kernel_rfl) (by kernel_rfl) (by kernel_rfl) (fun _ _ _ h => h) (by rfl) ?_ (by assumption) ?_
      rotate_left 1
      ·intro w hSw
       obtain ⟨z0, z1, z2, z3, z4, z5, z6, z7, z8⟩ := hSw
       go_simp
       with_reducible rfl
      try simp only [Act.put, List.setIfInBounds_toArray, List.set_cons_zero, List.set_cons_succ]
      refine take_not (i := 14) (d := 118) rfl rfl (by kernel_rfl) (by kernel_rfl) (by kernel_rfl) (fun _ _ _ h => h) (by rfl) (by assumption) ?_
      try simp only [Act.put, List.setIfInBounds_toArray, List.set_cons_zero, List.set_cons_succ]
      refine take_not (i := 15) (d := 119) rfl rfl (by kernel_rfl) (by kernel_rfl) (by kernel_rfl) (fun _ _ _ h => h) (by rfl) (by assumption) ?_
      try simp only [Act.put, List.setIfInBounds_toArray, List.set_cons_zero, List.set_cons_succ]
      refine take_not (i := 16) (d := 120) rfl rfl (by kernel_rfl) (by kernel_rfl) (by kernel_rfl) (fun _ _ _ h => h) (by rfl) (by assumption) ?_
      try simp only [Act.put, List.setIfInBounds_toArray, List.set_cons_zero, List.set_cons_succ]
      refine take_not (i := 17) (d := 121) rfl rfl (by kernel_rfl) (by kernel_rfl) (by kernel_rfl) (fun _ _ _ h => h) (by rfl) (by assumption) ?_
      try simp only [Act.put, List.setIfInBounds_toArray, List.set_cons_zero, List.set_cons_succ]
      refine take_not (i := 18) (d := 122) rfl rfl (by kernel_rfl) (by kernel_rfl) (by kernel_rfl) (fun _ _ _ h => h) (by rfl) (by assumption) ?_
      try simp only [Act.put, List.setIfInBounds_toArray, List.set_cons_zero, List.set_cons_succ]
      refine take_not (i := 19) (d := 123) rfl rfl (by kernel_rfl) (by kernel_rfl) (by kernel_rfl) (fun _ _ _ h => h) (by rfl) (by assumption) ?_
      try simp only [Act.put, List.setIfInBounds_toArray, List.set_cons_zero, List.set_cons_succ]
      refine take_not (i := 20) (d := 124) rfl rfl (by kernel_rfl) (by kernel_rfl) (by kernel_rfl) (fun _ _ _ h => h) (by rfl) (by assumption) ?_
      try simp only [Act.put, List.setIfInBounds_toArray, List.set_cons_zero, List.set_cons_succ]
      refine take_not (i := 21) (d := 125) rfl rfl (by kernel_rfl) (by kernel_rfl) (by kernel_rfl) (fun _ _ _ h => h) (by rfl) (by assumption) ?_
      try simp only [Act.put, List.setIfInBounds_toArray, List.set_cons_zero, List.set_cons_succ]
      refine take_not (i := 22) (d := 126) rfl rfl (by kernel_rfl) (by kernel_rfl) (by kernel_rfl) (fun _ _ _ h => h) (by rfl) (by assumption) ?_
      try simp only [Act.put, List.setIfInBounds_toArray, List.set_cons_zero, List.set_cons_succ]
      refine take_not (i := 23) (d := 127) rfl rfl (by kernel_rfl) (by kernel_rfl) (by kernel_rfl) (fun _ _ _ h => h) (by rfl) (by assumption) ?_
      try simp only [Act.put, List.setIfInBounds_toArray, List.set_cons_zero, List.set_cons_succ]
      refine take_not (i := 24) (d := 128) rfl rfl (by kernel_rfl) (by kernel_rfl) (by kernel_rfl) (fun _ _ _ h => h) (by rfl) (by assumption) ?_
      try simp only [Act.put, List.setIfInBounds_toArray, List.set_cons_zero, List.set_cons_succ]
      refine take_not (i := 25) (d := 129) rfl rfl (by kernel_rfl) (by kernel_rfl) (by kernel_rfl) (fun _ _ _ h => h) (by rfl) (by assumption) ?_
      try simp only [Act.put, List.setIfInBounds_toArray, List.set_cons_zero, List.set_cons_succ]
      refine take_not (i := 26) (d := 130) rfl rfl (by kernel_rfl) (by kernel_rfl) (by kernel_rfl) (fun _ _ _ h => h) (by rfl) (by assumption) ?_
      try simp only [Act.put, List.setIfInBounds_toArray, List.set_cons_zero, List.set_cons_succ]
      refine take_yes (i := 27) (d := 131) (v := ?_) rfl rfl (by kernel_rfl) (by kernel_rfl) (by kernel_rfl) (fun _ _ _ h => h) (by rfl) ?_ (by assumption) ?_
      rotate_left 1
      ·intro w hSw
       obtain ⟨z0, z1, z2, z3, z4, z5, z6, z7, z8⟩ := hSw
       go_simp
       with_reducible rfl
      try simp only [Act.put, List.setIfInBounds_toArray, List.set_cons_zero, List.set_cons_succ]
      refine take_yes (i := 28) (d := 132) (v := ?_) rfl rfl (by kernel_rfl) (by kernel_rfl) (by kernel_rfl) (fun _ _ _ h => h) (by rfl) ?_ (by assumption) ?_
      rotate_left 1
      ·intro w hSw
       obtain ⟨z0, z1, z2, z3, z4, z5, z6, z7, z8⟩ := hSw
       go_simp
       with_reducible rfl
      try simp only [Act.put, List.setIfInBounds_toArray, List.set_cons_zero, List.set_cons_succ]
      refine take_not (i := 29) (d := 133) rfl rfl (by kernel_rfl) (by kernel_rfl) (by kernel_rfl) (fun _ _ _ h => h) (by rfl) (by assumption) ?_
      try simp only [Act.put, List.setIfInBounds_toArray, List.set_cons_zero, List.set_cons_succ]
      refine take_not (i := 30) (d := 134) rfl rfl (by kernel_rfl) (by kernel_rfl) (by kernel_rfl) (fun _ _ _ h => h) (by rfl) (by assumption) ?_
      try simp only [Act.put, List.setIfInBounds_toArray, List.set_cons_zero, List.set_cons_succ]
      refine take_not (i := 31) (d := 135) rfl rfl (by kernel_rfl) (by kernel_rfl) (by kernel_rfl) (fun _ _ _ h => h) (by rfl) (by assumption) ?_
      try simp only [Act.put, List.setIfInBounds_toArray, List.set_cons_zero, List.set_cons_succ]
      refine take_not (i := 32) (d := 136) rfl rfl (by kernel_rfl) (by kernel_rfl) (by kernel_rfl) (fun _ _ _ h => h) (by rfl) (by assumption) ?_
      try simp only [Act.put, List.setIfInBounds_toArray, List.set_cons_zero, List.set_cons_succ]
      refine take_not (i := 33) (d := 137) rfl rfl (by kernel_rfl) (by kernel_rfl) (by kernel_rfl) (fun _ _ _ h => h) (by rfl) (by assumption) ?_
      try simp only [Act.put, List.setIfInBounds_toArray, List.set_cons_zero, List.set_cons_succ]
      refine take_not (i := 34) (d := 138) rfl rfl (by kernel_rfl) (by kernel_rfl) (by kernel_rfl) (fun _ _ _ h => h) (by rfl) (by assumption) ?_
      try simp only [Act.put, List.setIfInBounds_toArray, List.set_cons_zero, List.set_cons_succ]
      refine take_not (i := 35) (d := 139) rfl rfl (by kernel_rfl) (by kernel_rfl) (by kernel_rfl) (fun _ _ _ h => h) (by rfl) (by assumption) ?_
      try simp only [Act.put, List.setIfInBounds_toArray, List.set_cons_zero, List.set_cons_succ]
      refine take_not (i := 36) (d := 140) rfl rfl (by kernel_rfl) (by kernel_rfl) (by kernel_rfl) (fun _ _ _ h => h) (by rfl) (by assumption) ?_
      try simp only [Act.put, List.setIfInBounds_toArray, List.set_cons_zero, List.set_cons_succ]
      refine take_not (i := 37) (d := 141) rfl rfl (by kernel_rfl) (by kernel_rfl) (by kernel_rfl) (fun _ _ _ h => h) (by rfl) (by assumption) ?_
      try simp only [Act.put, List.setIfInBounds_toArray, List.set_cons_zero, List.set_cons_succ]
      refine take_not (i := 38) (d := 142) rfl rfl (by kernel_rfl) (by kernel_rfl) (by kernel_rfl) (fun _ _ _ h => h) (by rfl) (by assumption) ?_
      try simp only [Act.put, List.setIfInBounds_toArray, List.set_cons_zero, List.set_cons_succ]
      refine take_not (i := 39) (d := 143) rfl rfl (by kernel_rfl) (by kernel_rfl) (by kernel_rfl) (fun _ _ _ h => h) (by rfl) (by assumption) ?_
      try simp only [Act.put, List.setIfInBounds_toArray, List.set_cons_zero, List.set_cons_succ]
      refine take_not (i := 40) (d := 144) rfl rfl (by kernel_rfl) (by kernel_rfl) (by kernel_rfl) (fun _ _ _ h => h) (by rfl) (by assumption) ?_
      try simp only [Act.put, List.setIfInBounds_toArray, List.set_cons_zero, List.set_cons_succ]
      refine take_not (i := 41) (d := 145) rfl rfl (by kernel_rfl) (by kernel_rfl) (by kernel_rfl) (fun _ _ _ h => h) (by rfl) (by assumption) ?_
      try simp only [Act.put, List.setIfInBounds_toArray, List.set_cons_zero, List.set_cons_succ]
      refine take_not (i := 42) (d := 146) rfl rfl (by kernel_rfl) (by kernel_rfl) (by kernel_rfl) (fun _ _ _ h => h) (by rfl) (by assumption) ?_
      try simp only [Act.put, List.setIfInBounds_toArray, List.set_cons_zero, List.set_cons_succ]
      refine take_yes (i := 43) (d := 147) (v := ?_) rfl rfl (by kernel_rfl) (by kernel_rfl) (by kernel_rfl) (fun _ _ _ h => h) (by rfl) ?_ (by assumption) ?_
      rotate_left 1
      ·intro w hSw
       obtain ⟨z0, z1, z2, z3, z4, z5, z6, z7, z8⟩ := hSw
       go_simp
       with_reducible rfl
      try simp only [Act.put, List.setIfInBounds_toArray, List.set_cons_zero, List.set_cons_succ]
      refine wpAnyH_done (by kernel_rfl) ?_ _
      obtain ⟨a0, a1, a2, a3, a4, a5, a6, a7, a8⟩ := hH
      go_wp2_with fail
      go_ret
      exact ⟨rfl, Bel.trans HB.out (Bel.trans HB8.out a8)⟩
     have f1 : (x.name != y.name) = false := by simpa using hs
     have Hs := Lib.hid hs
     clear hs
     by_cases hj : x.body = y.body
     rotate_left
     ·have hz := Hno.out (fun e => hj (by rw [e]))
      subst hz
      have f2 : (x.body == y.body) = false := by simpa using hj
      have f3 : (x.body != y.body) = true := by simpa using hj
      go_wp2_with fail
      refine wp_region_held_drew (S := fun W => W.cell? ⟨w.heap.size, 1, none⟩ = some (.slice (some ⟨b1, o1, none⟩) k1 fc1) ∧ W.cell? ⟨w.heap.size + 1, 1, none⟩ = some (.slice (some ⟨b2, o2, none⟩) k1 fc2) ∧ W.cell? ⟨b1, o1 + m * 3, none⟩ = some (.string ⟨x.name.toArray⟩) ∧ W.cell? ⟨b1, o1 + m * 3 + 1, none⟩ = some (.slice po1 pk1 pc1) ∧ W.cell? ⟨b1, o1 + m * 3 + 2, none⟩ = some (.int .i64 x.body) ∧ W.cell? ⟨b2, o2 + m * 3, none⟩ = some (.string ⟨y.name.toArray⟩) ∧ W.cell? ⟨b2, o2 + m * 3 + 1, none⟩ = some (.slice po2 pk2 pc2) ∧ W.cell? ⟨b2, o2 + m * 3 + 2, none⟩ = some (.int .i64 y.body) ∧ Bel w8 W) (by kernel_rfl) ⟨t1, u1, c0, c1, c2, d0, d1, d2, Below.drew (Bel.refl _)⟩ (fun hH => ?_)
      refine take_yes (i := 0) (d := 104) (v := ?_) rfl rfl (by kernel_rfl) (by kernel_rfl) (by kernel_rfl) (fun _ _ _ h => h) (by rfl) ?_ (by assumption) ?_
      rotate_left 1
      ·intro w hSw
       obtain ⟨z0, z1, z2, z3, z4, z5, z6, z7, z8⟩ := hSw
       go_simp
       with_reducible rfl
      try simp only [Act.put, List.setIfInBounds_toArray, List.set_cons_zero, List.set_cons_succ]
      refine take_yes (i := 1) (d := 105) (v := ?_) rfl rfl (by kernel_rfl) (by kernel_rfl) (by kernel_rfl) (fun _ _ _ h => h) (by rfl) ?_ (by assumption) ?_
      rotate_left 1
      ·intro w hSw
       obtain ⟨z0, z1, z2, z3, z4, z5, z6, z7, z8⟩ := hSw
       go_simp
       with_reducible rfl
      try simp only [Act.put, List.setIfInBounds_toArray, List.set_cons_zero, List.set_cons_succ]
      refine take_yes (i := 2) (d := 106) (v := ?_) rfl rfl (by kernel_rfl) (by kernel_rfl) (by kernel_rfl) (fun _ _ _ h => h) (by rfl) ?_ (by assumption) ?_
      rotate_left 1
      ·intro w hSw
       obtain ⟨z0, z1, z2, z3, z4, z5, z6, z7, z8⟩ := hSw
       go_simp
       with_reducible rfl
      try simp only [Act.put, List.setIfInBounds_toArray, List.set_cons_zero, List.set_cons_succ]
      refine take_yes (i := 3) (d := 107) (v := ?_) rfl rfl (by kernel_rfl) (by kernel_rfl) (by kernel_rfl) (fun _ _ _ h => h) (by rfl) ?_ (by assumption) ?_
      rotate_left 1
      ·intro w hSw
       obtain ⟨z0, z1, z2, z3, z4, z5, z6, z7, z8⟩ := hSw
       go_simp
       with_reducible rfl
      try simp only [Act.put, List.setIfInBounds_toArray, List.set_cons_zero, List.set_cons_succ]
      refine take_yes (i := 4) (d := 108) (v := ?_) rfl rfl (by kernel_rfl) (by kernel_rfl) (by kernel_rfl) (fun _ _ _ h => h) (by rfl) ?_ (by assumption) ?_
      rotate_left 1
      ·intro w hSw
       obtain ⟨z0, z1, z2, z3, z4, z5, z6, z7, z8⟩ := hSw
       go_simp
       with_reducible rfl
      try simp only [Act.put, List.setIfInBounds_toArray, List.set_cons_zero, List.set_cons_succ]
      refine take_yes (i := 5) (d := 109) (v := ?_) rfl rfl (by kernel_rfl) (by kernel_rfl) (by kernel_rfl) (fun _ _ _ h => h) (by rfl) ?_ (by assumption) ?_
      rotate_left 1
      ·intro w hSw
       obtain ⟨z0, z1, z2, z3, z4, z5, z6, z7, z8⟩ := hSw
       go_simp
       with_reducible rfl
      try simp only [Act.put, List.setIfInBounds_toArray, List.set_cons_zero, List.set_cons_succ]
      refine take_yes (i := 6) (d := 110) (v := ?_) rfl rfl (by kernel_rfl) (by kernel_rfl) (by kernel_rfl) (fun _ _ _ h => h) (by rfl) ?_ (by assumption) ?_
      rotate_left 1
      ·intro w hSw
       obtain ⟨z0, z1, z2, z3, z4, z5, z6, z7, z8⟩ := hSw
       go_simp
       with_reducible rfl
      try simp only [Act.put, List.setIfInBounds_toArray, List.set_cons_zero, List.set_cons_succ]
      refine take_yes (i := 7) (d := 111) (v := ?_) rfl rfl (by kernel_rfl) (by kernel_rfl) (by kernel_rfl) (fun _ _ _ h => h) (by rfl) ?_ (by assumption) ?_
      rotate_left 1
      ·intro w hSw
       obtain ⟨z0, z1, z2, z3, z4, z5, z6, z7, z8⟩ := hSw
       go_simp
       with_reducible rfl
      try simp only [Act.put, List.setIfInBounds_toArray, List.set_cons_zero, List.set_cons_succ]
      refine take_yes (i := 8) (d := 112) (v := ?_) rfl rfl (by kernel_rfl) (by kernel_rfl) (by kernel_rfl) (fun _ _ _ h => h) (by rfl) ?_ (by assumption) ?_
      rotate_left 1
      ·intro w hSw
       obtain ⟨z0, z1, z2, z3, z4, z5, z6, z7, z8⟩ := hSw
       go_simp
       with_reducible rfl
      try simp only [Act.put, List.setIfInBounds_toArray, List.set_cons_zero, List.set_cons_succ]
      refine take_yes (i := 9) (d := 113) (v := ?_) rfl rfl (by kernel_rfl) (by kernel_rfl) (by kernel_rfl) (fun _ _ _ h => h) (by rfl) ?_ (by assumption) ?_
      rotate_left 1
      ·intro w hSw
       obtain ⟨z0, z1, z2, z3, z4, z5, z6, z7, z8⟩ := hSw
       go_simp
       with_reducible rfl
      try simp only [Act.put, List.setIfInBounds_toArray, List.set_cons_zero, List.set_cons_succ]
      refine take_yes (i := 10) (d := 114) (v := ?_) rfl rfl (by kernel_rfl) (by kernel_rfl) (by kernel_rfl) (fun _ _ _ h => h) (by rfl) ?_ (by assumption) ?_
      rotate_left 1
      ·intro w hSw
       obtain ⟨z0, z1, z2, z3, z4, z5, z6, z7, z8⟩ := hSw
       go_simp
       with_reducible rfl
      try simp only [Act.put, List.setIfInBounds_toArray, List.set_cons_zero, List.set_cons_succ]
      refine take_yes (i := 11) (d := 115) (v := ?_) rfl rfl (by kernel_rfl) (by kernel_rfl) (by kernel_rfl) (fun _ _ _ h => h) (by rfl) ?_ (by assumption) ?_
      rotate_left 1
      ·intro w hSw
       obtain ⟨z0, z1, z2, z3, z4, z5, z6, z7, z8⟩ := hSw
       go_simp
       with_reducible rfl
      try simp only [Act.put, List.setIfInBounds_toArray, List.set_cons_zero, List.set_cons_succ]
      refine take_yes (i := 12) (d := 116) (v := .bool false) rfl rfl (by kernel_rfl) (by kernel_rfl) (by kernel_rfl) (fun _ _ _ h => h) (by rfl) ?_ (by assumption) ?_
      ·intro w hSw
       obtain ⟨z0, z1, z2, z3, z4, z5, z6, z7, z8⟩ := hSw
       go_simp
       try simp
       try exact Hs.out
      try simp only [Act.put, List.setIfInBounds_toArray, List.set_cons_zero, List.set_cons_succ]
      refine take_yes (i := 13) (d := 117) (v := ?_) rfl rfl (by kernel_rfl) (by kernel_rfl) (by kernel_rfl) (fun _ _ _ h => h) (by rfl) ?_ (by assumption) ?_
      rotate_left 1
      ·intro w hSw
       obtain ⟨z0, z1, z2, z3, z4, z5, z6, z7, z8⟩ := hSw
       go_simp
       with_reducible rfl
      try simp only [Act.put, List.setIfInBounds_toArray, List.set_cons_zero, List.set_cons_succ]
      refine take_yes (i := 14) (d := 118) (v := ?_) rfl rfl (by kernel_rfl) (by kernel_rfl) (by kernel_rfl) (fun _ _ _ h => h) (by rfl) ?_ (by assumption) ?_
      rotate_left 1
      ·intro w hSw
       obtain ⟨z0, z1, z2, z3, z4, z5, z6, z7, z8⟩ := hSw
       go_simp
       with_reducible rfl
      try simp only [Act.put, List.setIfInBounds_toArray, List.set_cons_zero, List.set_cons_succ]
      refine take_yes (i := 15) (d := 119) (v := ?_) rfl rfl (by kernel_rfl) (by kernel_rfl) (by kernel_rfl) (fun _ _ _ h => h) (by rfl) ?_ (by assumption) ?_
      rotate_left 1
      ·intro w hSw
       obtain ⟨z0, z1, z2, z3, z4, z5, z6, z7, z8⟩ := hSw
       go_simp
       with_reducible rfl
      try simp only [Act.put, List.setIfInBounds_toArray, List.set_cons_zero, List.set_cons_succ]
      refine take_yes (i := 16) (d := 120) (v := ?_) rfl rfl (by kernel_rfl) (by kernel_rfl) (by kernel_rfl) (fun _ _ _ h => h) (by rfl) ?_ (by assumption) ?_
      rotate_left 1
      ·intro w hSw
       obtain ⟨z0, z1, z2, z3, z4, z5, z6, z7, z8⟩ := hSw
       go_simp
       with_reducible rfl
      try simp only [Act.put, List.setIfInBounds_toArray, List.set_cons_zero, List.set_cons_succ]
      refine take_yes (i := 17) (d := 121) (v := ?_) rfl rfl (by kernel_rfl) (by kernel_rfl) (by kernel_rfl) (fun _ _ _ h => h) (by rfl) ?_ (by assumption) ?_
      rotate_left 1
      ·intro w hSw
       obtain ⟨z0, z1, z2, z3, z4, z5, z6, z7, z8⟩ := hSw
       go_simp
       with_reducible rfl
      try simp only [Act.put, List.setIfInBounds_toArray, List.set_cons_zero, List.set_cons_succ]
      refine take_yes (i := 18) (d := 122) (v := ?_) rfl rfl (by kernel_rfl) (by kernel_rfl) (by kernel_rfl) (fun _ _ _ h => h) (by rfl) ?_ (by assumption) ?_
      rotate_left 1
      ·intro w hSw
       obtain ⟨z0, z1, z2, z3, z4, z5, z6, z7, z8⟩ := hSw
       go_simp
       with_reducible rfl
      try simp only [Act.put, List.setIfInBounds_toArray, List.set_cons_zero, List.set_cons_succ]
      refine take_yes (i := 19) (d := 123) (v := ?_) rfl rfl (by kernel_rfl) (by kernel_rfl) (by kernel_rfl) (fun _ _ _ h => h) (by rfl) ?_ (by assumption) ?_
      rotate_left 1
      ·intro w hSw
       obtain ⟨z0, z1, z2, z3, z4, z5, z6, z7, z8⟩ := hSw
       go_simp
       with_reducible rfl
      try simp only [Act.put, List.setIfInBounds_toArray, List.set_cons_zero, List.set_cons_succ]
      refine take_yes (i := 20) (d := 124) (v := ?_) rfl rfl (by kernel_rfl) (by kernel_rfl) (by kernel_rfl) (fun _ _ _ h => h) (by rfl) ?_ (by assumption) ?_
      rotate_left 1
      ·intro w hSw
       obtain ⟨z0, z1, z2, z3, z4, z5, z6, z7, z8⟩ := hSw
       go_simp
       with_reducible rfl
      try simp only [Act.put, List.setIfInBounds_toArray, List.set_cons_zero, List.set_cons_succ]
      refine take_yes (i := 21) (d := 125) (v := ?_) rfl rfl (by kernel_rfl) (by kernel_rfl) (by kernel_rfl) (fun _ _ _ h => h) (by rfl) ?_ (by assumption) ?_
      rotate_left 1
      ·intro w hSw
       obtain ⟨z0, z1, z2, z3, z4, z5, z6, z7, z8⟩ := hSw
       go_simp
       with_reducible rfl
      try simp only [Act.put, List.setIfInBounds_toArray, List.set_cons_zero, List.set_cons_succ]
      refine take_yes (i := 22) (d := 126) (v := ?_) rfl rfl (by kernel_rfl) (by kernel_rfl) (by kernel_rfl) (fun _ _ _ h => h) (by rfl) ?_ (by assumption) ?_
      rotate_left 1
      ·intro w hSw
       obtain ⟨z0, z1, z2, z3, z4, z5, z6, z7, z8⟩ := hSw
       go_simp
       with_reducible rfl
      try simp only [Act.put, List.setIfInBounds_toArray, List.set_cons_zero, List.set_cons_succ]
      refine take_yes (i := 23) (d := 127) (v := ?_) rfl rfl (by kernel_rfl) (by kernel_rfl) (by kernel_rfl) (fun _ _ _ h => h) (by rfl) ?_ (by assumption) ?_
      rotate_left 1
      ·intro w hSw
       obtain ⟨z0, z1, z2, z3, z4, z5, z6, z7, z8⟩ := hSw
       go_simp
       with_reducible rfl
      try simp only [Act.put, List.setIfInBounds_toArray, List.set_cons_zero, List.set_cons_succ]
      refine take_yes (i := 24) (d := 128) (v := ?_) rfl rfl (by kernel_rfl) (by kernel_rfl) (by kernel_rfl) (fun _ _ _ h => h) (by rfl) ?_ (by assumption) ?_
      rotate_left 1
      ·intro w hSw
       obtain ⟨z0, z1, z2, z3, z4, z5, z6, z7, z8⟩ := hSw
       go_simp
       with_reducible rfl
      try simp only [Act.put, List.setIfInBounds_toArray, List.set_cons_zero, List.set_cons_succ]
      refine take_yes (i := 25) (d := 129) (v := ?_) rfl rfl (by kernel_rfl) (by kernel_rfl) (by kernel_rfl) (fun _ _ _ h => h) (by rfl) ?_ (by assumption) ?_
      rotate_left 1
      ·intro w hSw
       obtain ⟨z0, z1, z2, z3, z4, z5, z6, z7, z8⟩ := hSw
       go_simp
       with_reducible rfl
      try simp only [Act.put, List.setIfInBounds_toArray, List.set_cons_zero, List.set_cons_succ]
      refine take_yes (i := 26) (d := 130) (v := .bool true) rfl rfl (by kernel_rfl) (by kernel_rfl) (by kernel_rfl) (fun _ _ _ h => h) (by rfl) ?_ (by assumption) ?_
      ·intro w hSw
       obtain ⟨z0, z1, z2, z3, z4, z5, z6, z7, z8⟩ := hSw
       go_simp
       try simp
      try simp only [Act.put, List.setIfInBounds_toArray, List.set_cons_zero, List.set_cons_succ]
      refine take_yes (i := 27) (d := 131) (v := ?_) rfl rfl (by kernel_rfl) (by kernel_rfl) (by kernel_rfl) (fun _ _ _ h => h) (by rfl) ?_ (by assumption) ?_
      rotate_left 1
      ·intro w hSw
       obtain ⟨z0, z1, z2, z3, z4, z5, z6, z7, z8⟩ := hSw
       go_simp
       with_reducible rfl
      try simp only [Act.put, List.setIfInBounds_toArray, List.set_cons_zero, List.set_cons_succ]
      refine take_yes (i := 28) (d := 132) (v := ?_) rfl rfl (by kernel_rfl) (by kernel_rfl) (by kernel_rfl) (fun _ _ _ h => h) (by rfl) ?_ (by assumption) ?_
      rotate_left 1
      ·intro w hSw
       obtain ⟨z0, z1, z2, z3, z4, z5, z6, z7, z8⟩ := hSw
       go_simp
       with_reducible rfl
      try simp only [Act.put, List.setIfInBounds_toArray, List.set_cons_zero, List.set_cons_succ]
      refine take_not (i := 29) (d := 133) rfl rfl (by kernel_rfl) (by kernel_rfl) (by kernel_rfl) (fun _ _ _ h => h) (by rfl) (by assumption) ?_
      try simp only [Act.put, List.setIfInBounds_toArray, List.set_cons_zero, List.set_cons_succ]
      refine take_not (i := 30) (d := 134) rfl rfl (by kernel_rfl) (by kernel_rfl) (by kernel_rfl) (fun _ _ _ h => h) (by rfl) (by assumption) ?_
      try simp only [Act.put, List.setIfInBounds_toArray, List.set_cons_zero, List.set_cons_succ]
      refine take_not (i := 31) (d := 135) rfl rfl (by kernel_rfl) (by kernel_rfl) (by kernel_rfl) (fun _ _ _ h => h) (by rfl) (by assumption) ?_
      try simp only [Act.put, List.setIfInBounds_toArray, List.set_cons_zero, List.set_cons_succ]
      refine take_not (i := 32) (d := 136) rfl rfl (by kernel_rfl) (by kernel_rfl) (by kernel_rfl) (fun _ _ _ h => h) (by rfl) (by assumption) ?_
      try simp only [Act.put, List.setIfInBounds_toArray, List.set_cons_zero, List.set_cons_succ]
      refine take_not (i := 33) (d := 137) rfl rfl (by kernel_rfl) (by kernel_rfl) (by kernel_rfl) (fun _ _ _ h => h) (by rfl) (by assumption) ?_
      try simp only [Act.put, List.setIfInBounds_toArray, List.set_cons_zero, List.set_cons_succ]
      refine take_not (i := 34) (d := 138) rfl rfl (by kernel_rfl) (by kernel_rfl) (by kernel_rfl) (fun _ _ _ h => h) (by rfl) (by assumption) ?_
      try simp only [Act.put, List.setIfInBounds_toArray, List.set_cons_zero, List.set_cons_succ]
      refine take_not (i := 35) (d := 139) rfl rfl (by kernel_rfl) (by kernel_rfl) (by kernel_rfl) (fun _ _ _ h => h) (by rfl) (by assumption) ?_
      try simp only [Act.put, List.setIfInBounds_toArray, List.set_cons_zero, List.set_cons_succ]
      refine take_not (i := 36) (d := 140) rfl rfl (by kernel_rfl) (by kernel_rfl) (by kernel_rfl) (fun _ _ _ h => h) (by rfl) (by assumption) ?_
      try simp only [Act.put, List.setIfInBounds_toArray, List.set_cons_zero, List.set_cons_succ]
      refine take_not (i := 37) (d := 141) rfl rfl (by kernel_rfl) (by kernel_rfl) (by kernel_rfl) (fun _ _ _ h => h) (by rfl) (by assumption) ?_
      try simp only [Act.put, List.setIfInBounds_toArray, List.set_cons_zero, List.set_cons_succ]
      refine take_not (i := 38) (d := 142) rfl rfl (by kernel_rfl) (by kernel_rfl) (by kernel_rfl) (fun _ _ _ h => h) (by rfl) (by assumption) ?_
      try simp only [Act.put, List.setIfInBounds_toArray, List.set_cons_zero, List.set_cons_succ]
      refine take_not (i := 39) (d := 143) rfl rfl (by kernel_rfl) (by kernel_rfl) (by kernel_rfl) (fun _ _ _ h => h) (by rfl) (by assumption) ?_
      try simp only [Act.put, List.setIfInBounds_toArray, List.set_cons_zero, List.set_cons_succ]
      refine take_not (i := 40) (d := 144) rfl rfl (by kernel_rfl) (by kernel_rfl) (by kernel_rfl) (fun _ _ _ h => h) (by rfl) (by assumption) ?_
      try simp only [Act.put, List.setIfInBounds_toArray, List.set_cons_zero, List.set_cons_succ]
      refine take_not (i := 41) (d := 145) rfl rfl (by kernel_rfl) (by kernel_rfl) (by kernel_rfl) (fun _ _ _ h => h) (by rfl) (by assumption) ?_
      try simp only [Act.put, List.setIfInBounds_toArray, List.set_cons_zero, List.set_cons_succ]
      refine take_not (i := 42) (d := 146) rfl rfl (by kernel_rfl) (by kernel_rfl) (by kernel_rfl) (fun _ _ _ h => h) (by rfl) (by assumption) ?_
      try simp only [Act.put, List.setIfInBounds_toArray, List.set_cons_zero, List.set_cons_succ]
      refine take_yes (i := 43) (d := 147) (v := ?_) rfl rfl (by kernel_rfl) (by kernel_rfl) (by kernel_rfl) (fun _ _ _ h => h) (by rfl) ?_ (by assumption) ?_
      rotate_left 1
      ·intro w hSw
       obtain ⟨z0, z1, z2, z3, z4, z5, z6, z7, z8⟩ := hSw
       go_simp
       with_reducible rfl
      try simp only [Act.put, List.setIfInBounds_toArray, List.set_cons_zero, List.set_cons_succ]
      refine wpAnyH_done (by kernel_rfl) ?_ _
      obtain ⟨a0, a1, a2, a3, a4, a5, a6, a7, a8⟩ := hH
      go_wp2_with fail
      go_ret
      exact ⟨rfl, Bel.trans HB.out (Bel.trans HB8.out a8)⟩
     have f2 : (x.body != y.body) = false := by simpa using hj
     have Hj := Lib.hid hj
     clear hj
     by_cases hp : x.params = y.params
     ·rw [decide_eq_true hp] at HS
      have hM2 := Lib.hid (Hgo.out (by have hs := Hs.out; have hj := Hj.out; cases x; cases y; simp only at hs hj hp; rw [hs, hj, hp]))
      clear hp
      go_wp2_with fail
      have HS2 := Lib.hid (show ∀ W, W.cell? ⟨w.heap.size, 1, none⟩ = some (.slice (some ⟨b1, o1, none⟩) k1 fc1) ∧ W.cell? ⟨w.heap.size + 1, 1, none⟩ = some (.slice (some ⟨b2, o2, none⟩) k1 fc2) ∧ W.cell? ⟨b1, o1 + m * 3, none⟩ = some (.string ⟨x.name.toArray⟩) ∧ W.cell? ⟨b1, o1 + m * 3 + 1, none⟩ = some (.slice po1 pk1 pc1) ∧ W.cell? ⟨b1, o1 + m * 3 + 2, none⟩ = some (.int .i64 x.body) ∧ W.cell? ⟨b2, o2 + m * 3, none⟩ = some (.string ⟨y.name.toArray⟩) ∧ W.cell? ⟨b2, o2 + m * 3 + 1, none⟩ = some (.slice po2 pk2 pc2) ∧ W.cell? ⟨b2, o2 + m * 3 + 2, none⟩ = some (.int .i64 y.body) ∧ Bel w8 W → Calls Tryz.prog 53 #[.slice po1 pk1 pc1, .slice po2 pk2 pc2] W fun e w' => e = .returned (.bool true) ∧ w'.cell? ⟨w.heap.size, 1, none⟩ = some (.slice (some ⟨b1, o1, none⟩) k1 fc1) ∧ w'.cell? ⟨w.heap.size + 1, 1, none⟩ = some (.slice (some ⟨b2, o2, none⟩) k1 fc2) ∧ w'.cell? ⟨b1, o1 + m * 3, none⟩ = some (.string ⟨x.name.toArray⟩) ∧ w'.cell? ⟨b1, o1 + m * 3 + 1, none⟩ = some (.slice po1 pk1 pc1) ∧ w'.cell? ⟨b1, o1 + m * 3 + 2, none⟩ = some (.int .i64 x.body) ∧ w'.cell? ⟨b2, o2 + m * 3, none⟩ = some (.string ⟨y.name.toArray⟩) ∧ w'.cell? ⟨b2, o2 + m * 3 + 1, none⟩ = some (.slice po2 pk2 pc2) ∧ w'.cell? ⟨b2, o2 + m * 3 + 2, none⟩ = some (.int .i64 y.body) ∧ Bel w8 w' from fun W hS => (HS.out W hS.2.2.2.2.2.2.2.2).mono fun e w' k => ⟨k.1, k.2.cell' hS.1, k.2.cell' hS.2.1, k.2.cell' hS.2.2.1, k.2.cell' hS.2.2.2.1, k.2.cell' hS.2.2.2.2.1, k.2.cell' hS.2.2.2.2.2.1, k.2.cell' hS.2.2.2.2.2.2.1, k.2.cell' hS.2.2.2.2.2.2.2.1, Bel.trans hS.2.2.2.2.2.2.2.2 k.2⟩)
      refine wp_region_held_drew (S := fun W => W.cell? ⟨w.heap.size, 1, none⟩ = some (.slice (some ⟨b1, o1, none⟩) k1 fc1) ∧ W.cell? ⟨w.heap.size + 1, 1, none⟩ = some (.slice (some ⟨b2, o2, none⟩) k1 fc2) ∧ W.cell? ⟨b1, o1 + m * 3, none⟩ = some (.string ⟨x.name.toArray⟩) ∧ W.cell? ⟨b1, o1 + m * 3 + 1, none⟩ = some (.slice po1 pk1 pc1) ∧ W.cell? ⟨b1, o1 + m * 3 + 2, none⟩ = some (.int .i64 x.body) ∧ W.cell? ⟨b2, o2 + m * 3, none⟩ = some (.string ⟨y.name.toArray⟩) ∧ W.cell? ⟨b2, o2 + m * 3 + 1, none⟩ = some (.slice po2 pk2 pc2) ∧ W.cell? ⟨b2, o2 + m * 3 + 2, none⟩ = some (.int .i64 y.body) ∧ Bel w8 W) (by kernel_rfl) ⟨t1, u1, c0, c1, c2, d0, d1, d2, Below.drew (Bel.refl _)⟩ (fun hH => ?_)
      refine take_yes (i := 0) (d := 104) (v := ?_) rfl rfl (by kernel_rfl) (by kernel_rfl) (by kernel_rfl) (fun _ _ _ h => h) (by rfl) ?_ (by assumption) ?_
      rotate_left 1
      ·intro w hSw
       obtain ⟨z0, z1, z2, z3, z4, z5, z6, z7, z8⟩ := hSw
       go_simp
       with_reducible rfl
      try simp only [Act.put, List.setIfInBounds_toArray, List.set_cons_zero, List.set_cons_succ]
      refine take_yes (i := 1) (d := 105) (v := ?_) rfl rfl (by kernel_rfl) (by kernel_rfl) (by kernel_rfl) (fun _ _ _ h => h) (by rfl) ?_ (by assumption) ?_
      rotate_left 1
      ·intro w hSw
       obtain ⟨z0, z1, z2, z3, z4, z5, z6, z7, z8⟩ := hSw
       go_simp
       with_reducible rfl
      try simp only [Act.put, List.setIfInBounds_toArray, List.set_cons_zero, List.set_cons_succ]
      refine take_yes (i := 2) (d := 106) (v := ?_) rfl rfl (by kernel_rfl) (by kernel_rfl) (by kernel_rfl) (fun _ _ _ h => h) (by rfl) ?_ (by assumption) ?_
      rotate_left 1
      ·intro w hSw
       obtain ⟨z0, z1, z2, z3, z4, z5, z6, z7, z8⟩ := hSw
       go_simp
       with_reducible rfl
      try simp only [Act.put, List.setIfInBounds_toArray, List.set_cons_zero, List.set_cons_succ]
      refine take_yes (i := 3) (d := 107) (v := ?_) rfl rfl (by kernel_rfl) (by kernel_rfl) (by kernel_rfl) (fun _ _ _ h => h) (by rfl) ?_ (by assumption) ?_
      rotate_left 1
      ·intro w hSw
       obtain ⟨z0, z1, z2, z3, z4, z5, z6, z7, z8⟩ := hSw
       go_simp
       with_reducible rfl
      try simp only [Act.put, List.setIfInBounds_toArray, List.set_cons_zero, List.set_cons_succ]
      refine take_yes (i := 4) (d := 108) (v := ?_) rfl rfl (by kernel_rfl) (by kernel_rfl) (by kernel_rfl) (fun _ _ _ h => h) (by rfl) ?_ (by assumption) ?_
      rotate_left 1
      ·intro w hSw
       obtain ⟨z0, z1, z2, z3, z4, z5, z6, z7, z8⟩ := hSw
       go_simp
       with_reducible rfl
      try simp only [Act.put, List.setIfInBounds_toArray, List.set_cons_zero, List.set_cons_succ]
      refine take_yes (i := 5) (d := 109) (v := ?_) rfl rfl (by kernel_rfl) (by kernel_rfl) (by kernel_rfl) (fun _ _ _ h => h) (by rfl) ?_ (by assumption) ?_
      rotate_left 1
      ·intro w hSw
       obtain ⟨z0, z1, z2, z3, z4, z5, z6, z7, z8⟩ := hSw
       go_simp
       with_reducible rfl
      try simp only [Act.put, List.setIfInBounds_toArray, List.set_cons_zero, List.set_cons_succ]
      refine take_yes (i := 6) (d := 110) (v := ?_) rfl rfl (by kernel_rfl) (by kernel_rfl) (by kernel_rfl) (fun _ _ _ h => h) (by rfl) ?_ (by assumption) ?_
      rotate_left 1
      ·intro w hSw
       obtain ⟨z0, z1, z2, z3, z4, z5, z6, z7, z8⟩ := hSw
       go_simp
       with_reducible rfl
      try simp only [Act.put, List.setIfInBounds_toArray, List.set_cons_zero, List.set_cons_succ]
      refine take_yes (i := 7) (d := 111) (v := ?_) rfl rfl (by kernel_rfl) (by kernel_rfl) (by kernel_rfl) (fun _ _ _ h => h) (by rfl) ?_ (by assumption) ?_
      rotate_left 1
      ·intro w hSw
       obtain ⟨z0, z1, z2, z3, z4, z5, z6, z7, z8⟩ := hSw
       go_simp
       with_reducible rfl
      try simp only [Act.put, List.setIfInBounds_toArray, List.set_cons_zero, List.set_cons_succ]
      refine take_yes (i := 8) (d := 112) (v := ?_) rfl rfl (by kernel_rfl) (by kernel_rfl) (by kernel_rfl) (fun _ _ _ h => h) (by rfl) ?_ (by assumption) ?_
      rotate_left 1
      ·intro w hSw
       obtain ⟨z0, z1, z2, z3, z4, z5, z6, z7, z8⟩ := hSw
       go_simp
       with_reducible rfl
      try simp only [Act.put, List.setIfInBounds_toArray, List.set_cons_zero, List.set_cons_succ]
      refine take_yes (i := 9) (d := 113) (v := ?_) rfl rfl (by kernel_rfl) (by kernel_rfl) (by kernel_rfl) (fun _ _ _ h => h) (by rfl) ?_ (by assumption) ?_
      rotate_left 1
      ·intro w hSw
       obtain ⟨z0, z1, z2, z3, z4, z5, z6, z7, z8⟩ := hSw
       go_simp
       with_reducible rfl
      try simp only [Act.put, List.setIfInBounds_toArray, List.set_cons_zero, List.set_cons_succ]
      refine take_yes (i := 10) (d := 114) (v := ?_) rfl rfl (by kernel_rfl) (by kernel_rfl) (by kernel_rfl) (fun _ _ _ h => h) (by rfl) ?_ (by assumption) ?_
      rotate_left 1
      ·intro w hSw
       obtain ⟨z0, z1, z2, z3, z4, z5, z6, z7, z8⟩ := hSw
       go_simp
       with_reducible rfl
      try simp only [Act.put, List.setIfInBounds_toArray, List.set_cons_zero, List.set_cons_succ]
      refine take_yes (i := 11) (d := 115) (v := ?_) rfl rfl (by kernel_rfl) (by kernel_rfl) (by kernel_rfl) (fun _ _ _ h => h) (by rfl) ?_ (by assumption) ?_
      rotate_left 1
      ·intro w hSw
       obtain ⟨z0, z1, z2, z3, z4, z5, z6, z7, z8⟩ := hSw
       go_simp
       with_reducible rfl
      try simp only [Act.put, List.setIfInBounds_toArray, List.set_cons_zero, List.set_cons_succ]
      refine take_yes (i := 12) (d := 116) (v := .bool false) rfl rfl (by kernel_rfl) (by kernel_rfl) (by kernel_rfl) (fun _ _ _ h => h) (by rfl) ?_ (by assumption) ?_
      ·intro w hSw
       obtain ⟨z0, z1, z2, z3, z4, z5, z6, z7, z8⟩ := hSw
       go_simp
       try simp
       try exact Hs.out
      try simp only [Act.put, List.setIfInBounds_toArray, List.set_cons_zero, List.set_cons_succ]
      refine take_yes (i := 13) (d := 117) (v := ?_) rfl rfl (by kernel_rfl) (by kernel_rfl) (by kernel_rfl) (fun _ _ _ h => h) (by rfl) ?_ (by assumption) ?_
      rotate_left 1
      ·intro w hSw
       obtain ⟨z0, z1, z2, z3, z4, z5, z6, z7, z8⟩ := hSw
       go_simp
       with_reducible rfl
      try simp only [Act.put, List.setIfInBounds_toArray, List.set_cons_zero, List.set_cons_succ]
      refine take_yes (i := 14) (d := 118) (v := ?_) rfl rfl (by kernel_rfl) (by kernel_rfl) (by kernel_rfl) (fun _ _ _ h => h) (by rfl) ?_ (by assumption) ?_
      rotate_left 1
      ·intro w hSw
       obtain ⟨z0, z1, z2, z3, z4, z5, z6, z7, z8⟩ := hSw
       go_simp
       with_reducible rfl
      try simp only [Act.put, List.setIfInBounds_toArray, List.set_cons_zero, List.set_cons_succ]
      refine take_yes (i := 15) (d := 119) (v := ?_) rfl rfl (by kernel_rfl) (by kernel_rfl) (by kernel_rfl) (fun _ _ _ h => h) (by rfl) ?_ (by assumption) ?_
      rotate_left 1
      ·intro w hSw
       obtain ⟨z0, z1, z2, z3, z4, z5, z6, z7, z8⟩ := hSw
       go_simp
       with_reducible rfl
      try simp only [Act.put, List.setIfInBounds_toArray, List.set_cons_zero, List.set_cons_succ]
      refine take_yes (i := 16) (d := 120) (v := ?_) rfl rfl (by kernel_rfl) (by kernel_rfl) (by kernel_rfl) (fun _ _ _ h => h) (by rfl) ?_ (by assumption) ?_
      rotate_left 1
      ·intro w hSw
       obtain ⟨z0, z1, z2, z3, z4, z5, z6, z7, z8⟩ := hSw
       go_simp
       with_reducible rfl
      try simp only [Act.put, List.setIfInBounds_toArray, List.set_cons_zero, List.set_cons_succ]
      refine take_yes (i := 17) (d := 121) (v := ?_) rfl rfl (by kernel_rfl) (by kernel_rfl) (by kernel_rfl) (fun _ _ _ h => h) (by rfl) ?_ (by assumption) ?_
      rotate_left 1
      ·intro w hSw
       obtain ⟨z0, z1, z2, z3, z4, z5, z6, z7, z8⟩ := hSw
       go_simp
       with_reducible rfl
      try simp only [Act.put, List.setIfInBounds_toArray, List.set_cons_zero, List.set_cons_succ]
      refine take_yes (i := 18) (d := 122) (v := ?_) rfl rfl (by kernel_rfl) (by kernel_rfl) (by kernel_rfl) (fun _ _ _ h => h) (by rfl) ?_ (by assumption) ?_
      rotate_left 1
      ·intro w hSw
       obtain ⟨z0, z1, z2, z3, z4, z5, z6, z7, z8⟩ := hSw
       go_simp
       with_reducible rfl
      try simp only [Act.put, List.setIfInBounds_toArray, List.set_cons_zero, List.set_cons_succ]
      refine take_yes (i := 19) (d := 123) (v := ?_) rfl rfl (by kernel_rfl) (by kernel_rfl) (by kernel_rfl) (fun _ _ _ h => h) (by rfl) ?_ (by assumption) ?_
      rotate_left 1
      ·intro w hSw
       obtain ⟨z0, z1, z2, z3, z4, z5, z6, z7, z8⟩ := hSw
       go_simp
       with_reducible rfl
      try simp only [Act.put, List.setIfInBounds_toArray, List.set_cons_zero, List.set_cons_succ]
      refine take_yes (i := 20) (d := 124) (v := ?_) rfl rfl (by kernel_rfl) (by kernel_rfl) (by kernel_rfl) (fun _ _ _ h => h) (by rfl) ?_ (by assumption) ?_
      rotate_left 1
      ·intro w hSw
       obtain ⟨z0, z1, z2, z3, z4, z5, z6, z7, z8⟩ := hSw
       go_simp
       with_reducible rfl
      try simp only [Act.put, List.setIfInBounds_toArray, List.set_cons_zero, List.set_cons_succ]
      refine take_yes (i := 21) (d := 125) (v := ?_) rfl rfl (by kernel_rfl) (by kernel_rfl) (by kernel_rfl) (fun _ _ _ h => h) (by rfl) ?_ (by assumption) ?_
      rotate_left 1
      ·intro w hSw
       obtain ⟨z0, z1, z2, z3, z4, z5, z6, z7, z8⟩ := hSw
       go_simp
       with_reducible rfl
      try simp only [Act.put, List.setIfInBounds_toArray, List.set_cons_zero, List.set_cons_succ]
      refine take_yes (i := 22) (d := 126) (v := ?_) rfl rfl (by kernel_rfl) (by kernel_rfl) (by kernel_rfl) (fun _ _ _ h => h) (by rfl) ?_ (by assumption) ?_
      rotate_left 1
      ·intro w hSw
       obtain ⟨z0, z1, z2, z3, z4, z5, z6, z7, z8⟩ := hSw
       go_simp
       with_reducible rfl
      try simp only [Act.put, List.setIfInBounds_toArray, List.set_cons_zero, List.set_cons_succ]
      refine take_yes (i := 23) (d := 127) (v := ?_) rfl rfl (by kernel_rfl) (by kernel_rfl) (by kernel_rfl) (fun _ _ _ h => h) (by rfl) ?_ (by assumption) ?_
      rotate_left 1
      ·intro w hSw
       obtain ⟨z0, z1, z2, z3, z4, z5, z6, z7, z8⟩ := hSw
       go_simp
       with_reducible rfl
      try simp only [Act.put, List.setIfInBounds_toArray, List.set_cons_zero, List.set_cons_succ]
      refine take_yes (i := 24) (d := 128) (v := ?_) rfl rfl (by kernel_rfl) (by kernel_rfl) (by kernel_rfl) (fun _ _ _ h => h) (by rfl) ?_ (by assumption) ?_
      rotate_left 1
      ·intro w hSw
       obtain ⟨z0, z1, z2, z3, z4, z5, z6, z7, z8⟩ := hSw
       go_simp
       with_reducible rfl
      try simp only [Act.put, List.setIfInBounds_toArray, List.set_cons_zero, List.set_cons_succ]
      refine take_yes (i := 25) (d := 129) (v := ?_) rfl rfl (by kernel_rfl) (by kernel_rfl) (by kernel_rfl) (fun _ _ _ h => h) (by rfl) ?_ (by assumption) ?_
      rotate_left 1
      ·intro w hSw
       obtain ⟨z0, z1, z2, z3, z4, z5, z6, z7, z8⟩ := hSw
       go_simp
       with_reducible rfl
      try simp only [Act.put, List.setIfInBounds_toArray, List.set_cons_zero, List.set_cons_succ]
      refine take_yes (i := 26) (d := 130) (v := .bool false) rfl rfl (by kernel_rfl) (by kernel_rfl) (by kernel_rfl) (fun _ _ _ h => h) (by rfl) ?_ (by assumption) ?_
      ·intro w hSw
       obtain ⟨z0, z1, z2, z3, z4, z5, z6, z7, z8⟩ := hSw
       go_simp
       try simp
       try exact Hj.out
      try simp only [Act.put, List.setIfInBounds_toArray, List.set_cons_zero, List.set_cons_succ]
      refine take_yes (i := 27) (d := 131) (v := ?_) rfl rfl (by kernel_rfl) (by kernel_rfl) (by kernel_rfl) (fun _ _ _ h => h) (by rfl) ?_ (by assumption) ?_
      rotate_left 1
      ·intro w hSw
       obtain ⟨z0, z1, z2, z3, z4, z5, z6, z7, z8⟩ := hSw
       go_simp
       with_reducible rfl
      try simp only [Act.put, List.setIfInBounds_toArray, List.set_cons_zero, List.set_cons_succ]
      refine take_yes (i := 28) (d := 132) (v := ?_) rfl rfl (by kernel_rfl) (by kernel_rfl) (by kernel_rfl) (fun _ _ _ h => h) (by rfl) ?_ (by assumption) ?_
      rotate_left 1
      ·intro w hSw
       obtain ⟨z0, z1, z2, z3, z4, z5, z6, z7, z8⟩ := hSw
       go_simp
       with_reducible rfl
      try simp only [Act.put, List.setIfInBounds_toArray, List.set_cons_zero, List.set_cons_succ]
      refine take_yes (i := 29) (d := 133) (v := ?_) rfl rfl (by kernel_rfl) (by kernel_rfl) (by kernel_rfl) (fun _ _ _ h => h) (by rfl) ?_ (by assumption) ?_
      rotate_left 1
      ·intro w hSw
       obtain ⟨z0, z1, z2, z3, z4, z5, z6, z7, z8⟩ := hSw
       go_simp
       with_reducible rfl
      try simp only [Act.put, List.setIfInBounds_toArray, List.set_cons_zero, List.set_cons_succ]
      refine take_yes (i := 30) (d := 134) (v := ?_) rfl rfl (by kernel_rfl) (by kernel_rfl) (by kernel_rfl) (fun _ _ _ h => h) (by rfl) ?_ (by assumption) ?_
      rotate_left 1
      ·intro w hSw
       obtain ⟨z0, z1, z2, z3, z4, z5, z6, z7, z8⟩ := hSw
       go_simp
       with_reducible rfl
      try simp only [Act.put, List.setIfInBounds_toArray, List.set_cons_zero, List.set_cons_succ]
      refine take_yes (i := 31) (d := 135) (v := ?_) rfl rfl (by kernel_rfl) (by kernel_rfl) (by kernel_rfl) (fun _ _ _ h => h) (by rfl) ?_ (by assumption) ?_
      rotate_left 1
      ·intro w hSw
       obtain ⟨z0, z1, z2, z3, z4, z5, z6, z7, z8⟩ := hSw
       go_simp
       with_reducible rfl
      try simp only [Act.put, List.setIfInBounds_toArray, List.set_cons_zero, List.set_cons_succ]
      refine take_yes (i := 32) (d := 136) (v := ?_) rfl rfl (by kernel_rfl) (by kernel_rfl) (by kernel_rfl) (fun _ _ _ h => h) (by rfl) ?_ (by assumption) ?_
      rotate_left 1
      ·intro w hSw
       obtain ⟨z0, z1, z2, z3, z4, z5, z6, z7, z8⟩ := hSw
       go_simp
       with_reducible rfl
      try simp only [Act.put, List.setIfInBounds_toArray, List.set_cons_zero, List.set_cons_succ]
      refine take_yes (i := 33) (d := 137) (v := ?_) rfl rfl (by kernel_rfl) (by kernel_rfl) (by kernel_rfl) (fun _ _ _ h => h) (by rfl) ?_ (by assumption) ?_
      rotate_left 1
      ·intro w hSw
       obtain ⟨z0, z1, z2, z3, z4, z5, z6, z7, z8⟩ := hSw
       go_simp
       with_reducible rfl
      try simp only [Act.put, List.setIfInBounds_toArray, List.set_cons_zero, List.set_cons_succ]
      refine take_yes (i := 34) (d := 138) (v := ?_) rfl rfl (by kernel_rfl) (by kernel_rfl) (by kernel_rfl) (fun _ _ _ h => h) (by rfl) ?_ (by assumption) ?_
      rotate_left 1
      ·intro w hSw
       obtain ⟨z0, z1, z2, z3, z4, z5, z6, z7, z8⟩ := hSw
       go_simp
       with_reducible rfl
      try simp only [Act.put, List.setIfInBounds_toArray, List.set_cons_zero, List.set_cons_succ]
      refine take_yes (i := 35) (d := 139) (v := ?_) rfl rfl (by kernel_rfl) (by kernel_rfl) (by kernel_rfl) (fun _ _ _ h => h) (by rfl) ?_ (by assumption) ?_
      rotate_left 1
      ·intro w hSw
       obtain ⟨z0, z1, z2, z3, z4, z5, z6, z7, z8⟩ := hSw
       go_simp
       with_reducible rfl
      try simp only [Act.put, List.setIfInBounds_toArray, List.set_cons_zero, List.set_cons_succ]
      refine take_yes (i := 36) (d := 140) (v := ?_) rfl rfl (by kernel_rfl) (by kernel_rfl) (by kernel_rfl) (fun _ _ _ h => h) (by rfl) ?_ (by assumption) ?_
      rotate_left 1
      ·intro w hSw
       obtain ⟨z0, z1, z2, z3, z4, z5, z6, z7, z8⟩ := hSw
       go_simp
       with_reducible rfl
      try simp only [Act.put, List.setIfInBounds_toArray, List.set_cons_zero, List.set_cons_succ]
      refine take_yes (i := 37) (d := 141) (v := ?_) rfl rfl (by kernel_rfl) (by kernel_rfl) (by kernel_rfl) (fun _ _ _ h => h) (by rfl) ?_ (by assumption) ?_
      rotate_left 1
      ·intro w hSw
       obtain ⟨z0, z1, z2, z3, z4, z5, z6, z7, z8⟩ := hSw
       go_simp
       with_reducible rfl
      try simp only [Act.put, List.setIfInBounds_toArray, List.set_cons_zero, List.set_cons_succ]
      refine take_yes (i := 38) (d := 142) (v := ?_) rfl rfl (by kernel_rfl) (by kernel_rfl) (by kernel_rfl) (fun _ _ _ h => h) (by rfl) ?_ (by assumption) ?_
      rotate_left 1
      ·intro w hSw
       obtain ⟨z0, z1, z2, z3, z4, z5, z6, z7, z8⟩ := hSw
       go_simp
       with_reducible rfl
      try simp only [Act.put, List.setIfInBounds_toArray, List.set_cons_zero, List.set_cons_succ]
      refine take_yes (i := 39) (d := 143) (v := ?_) rfl rfl (by kernel_rfl) (by kernel_rfl) (by kernel_rfl) (fun _ _ _ h => h) (by rfl) ?_ (by assumption) ?_
      rotate_left 1
      ·intro w hSw
       obtain ⟨z0, z1, z2, z3, z4, z5, z6, z7, z8⟩ := hSw
       go_simp
       with_reducible rfl
      try simp only [Act.put, List.setIfInBounds_toArray, List.set_cons_zero, List.set_cons_succ]
      refine take_yes (i := 40) (d := 144) (v := ?_) rfl rfl (by kernel_rfl) (by kernel_rfl) (by kernel_rfl) (fun _ _ _ h => h) (by rfl) ?_ (by assumption) ?_
      rotate_left 1
      ·intro w hSw
       obtain ⟨z0, z1, z2, z3, z4, z5, z6, z7, z8⟩ := hSw
       go_simp
       with_reducible rfl
      try simp only [Act.put, List.setIfInBounds_toArray, List.set_cons_zero, List.set_cons_succ]
      refine wpAnyH_ready (rs := [41]) (by kernel_rfl) (by simp) ?_
      refine AllReadyH.cons rfl (fun K hK => ?_) AllReadyH.nil
      go_simp
      refine (HS2.out _ hH).mono ?_
      rintro e w8 ⟨rfl, hG⟩
      clear hH
      refine hK.out _ _ hG (fun hH => ?_)
      clear hK K hG
      try simp only [Act.put, List.setIfInBounds_toArray, List.set_cons_zero, List.set_cons_succ]
      refine take_yes (i := 42) (d := 146) (v := ?_) rfl rfl (by kernel_rfl) (by kernel_rfl) (by kernel_rfl) (fun _ _ _ h => h) (by rfl) ?_ (by assumption) ?_
      rotate_left 1
      ·intro w hSw
       obtain ⟨z0, z1, z2, z3, z4, z5, z6, z7, z8⟩ := hSw
       go_simp
       with_reducible rfl
      try simp only [Act.put, List.setIfInBounds_toArray, List.set_cons_zero, List.set_cons_succ]
      refine take_yes (i := 43) (d := 147) (v := ?_) rfl rfl (by kernel_rfl) (by kernel_rfl) (by kernel_rfl) (fun _ _ _ h => h) (by rfl) ?_ (by assumption) ?_
      rotate_left 1
      ·intro w hSw
       obtain ⟨z0, z1, z2, z3, z4, z5, z6, z7, z8⟩ := hSw
       go_simp
       with_reducible rfl
      try simp only [Act.put, List.setIfInBounds_toArray, List.set_cons_zero, List.set_cons_succ]
      refine wpAnyH_done (by kernel_rfl) ?_ _
      obtain ⟨a0, a1, a2, a3, a4, a5, a6, a7, a8⟩ := hH
      go_wp2_with fail
      have HB9 := Lib.hid (Bel.trans HB8.out a8)
      go_round
      case rel => exact ⟨m + 1, by go_num, by omega, hM2, HB9⟩
      case measure => simp [intOf]; omega
     ·have hz := Hno.out (fun e => hp (by rw [e]))
      subst hz
      rw [decide_eq_false hp] at HS
      clear hp
      go_wp2_with fail
      have HS2 := Lib.hid (show ∀ W, W.cell? ⟨w.heap.size, 1, none⟩ = some (.slice (some ⟨b1, o1, none⟩) k1 fc1) ∧ W.cell? ⟨w.heap.size + 1, 1, none⟩ = some (.slice (some ⟨b2, o2, none⟩) k1 fc2) ∧ W.cell? ⟨b1, o1 + m * 3, none⟩ = some (.string ⟨x.name.toArray⟩) ∧ W.cell? ⟨b1, o1 + m * 3 + 1, none⟩ = some (.slice po1 pk1 pc1) ∧ W.cell? ⟨b1, o1 + m * 3 + 2, none⟩ = some (.int .i64 x.body) ∧ W.cell? ⟨b2, o2 + m * 3, none⟩ = some (.string ⟨y.name.toArray⟩) ∧ W.cell? ⟨b2, o2 + m * 3 + 1, none⟩ = some (.slice po2 pk2 pc2) ∧ W.cell? ⟨b2, o2 + m * 3 + 2, none⟩ = some (.int .i64 y.body) ∧ Bel w8 W → Calls Tryz.prog 53 #[.slice po1 pk1 pc1, .slice po2 pk2 pc2] W fun e w' => e = .returned (.bool false) ∧ w'.cell? ⟨w.heap.size, 1, none⟩ = some (.slice (some ⟨b1, o1, none⟩) k1 fc1) ∧ w'.cell? ⟨w.heap.size + 1, 1, none⟩ = some (.slice (some ⟨b2, o2, none⟩) k1 fc2) ∧ w'.cell? ⟨b1, o1 + m * 3, none⟩ = some (.string ⟨x.name.toArray⟩) ∧ w'.cell? ⟨b1, o1 + m * 3 + 1, none⟩ = some (.slice po1 pk1 pc1) ∧ w'.cell? ⟨b1, o1 + m * 3 + 2, none⟩ = some (.int .i64 x.body) ∧ w'.cell? ⟨b2, o2 + m * 3, none⟩ = some (.string ⟨y.name.toArray⟩) ∧ w'.cell? ⟨b2, o2 + m * 3 + 1, none⟩ = some (.slice po2 pk2 pc2) ∧ w'.cell? ⟨b2, o2 + m * 3 + 2, none⟩ = some (.int .i64 y.body) ∧ Bel w8 w' from fun W hS => (HS.out W hS.2.2.2.2.2.2.2.2).mono fun e w' k => ⟨k.1, k.2.cell' hS.1, k.2.cell' hS.2.1, k.2.cell' hS.2.2.1, k.2.cell' hS.2.2.2.1, k.2.cell' hS.2.2.2.2.1, k.2.cell' hS.2.2.2.2.2.1, k.2.cell' hS.2.2.2.2.2.2.1, k.2.cell' hS.2.2.2.2.2.2.2.1, Bel.trans hS.2.2.2.2.2.2.2.2 k.2⟩)
      refine wp_region_held_drew (S := fun W => W.cell? ⟨w.heap.size, 1, none⟩ = some (.slice (some ⟨b1, o1, none⟩) k1 fc1) ∧ W.cell? ⟨w.heap.size + 1, 1, none⟩ = some (.slice (some ⟨b2, o2, none⟩) k1 fc2) ∧ W.cell? ⟨b1, o1 + m * 3, none⟩ = some (.string ⟨x.name.toArray⟩) ∧ W.cell? ⟨b1, o1 + m * 3 + 1, none⟩ = some (.slice po1 pk1 pc1) ∧ W.cell? ⟨b1, o1 + m * 3 + 2, none⟩ = some (.int .i64 x.body) ∧ W.cell? ⟨b2, o2 + m * 3, none⟩ = some (.string ⟨y.name.toArray⟩) ∧ W.cell? ⟨b2, o2 + m * 3 + 1, none⟩ = some (.slice po2 pk2 pc2) ∧ W.cell? ⟨b2, o2 + m * 3 + 2, none⟩ = some (.int .i64 y.body) ∧ Bel w8 W) (by kernel_rfl) ⟨t1, u1, c0, c1, c2, d0, d1, d2, Below.drew (Bel.refl _)⟩ (fun hH => ?_)
      refine take_yes (i := 0) (d := 104) (v := ?_) rfl rfl (by kernel_rfl) (by kernel_rfl) (by kernel_rfl) (fun _ _ _ h => h) (by rfl) ?_ (by assumption) ?_
      rotate_left 1
      ·intro w hSw
       obtain ⟨z0, z1, z2, z3, z4, z5, z6, z7, z8⟩ := hSw
       go_simp
       with_reducible rfl
      try simp only [Act.put, List.setIfInBounds_toArray, List.set_cons_zero, List.set_cons_succ]
      refine take_yes (i := 1) (d := 105) (v := ?_) rfl rfl (by kernel_rfl) (by kernel_rfl) (by kernel_rfl) (fun _ _ _ h => h) (by rfl) ?_ (by assumption) ?_
      rotate_left 1
      ·intro w hSw
       obtain ⟨z0, z1, z2, z3, z4, z5, z6, z7, z8⟩ := hSw
       go_simp
       with_reducible rfl
      try simp only [Act.put, List.setIfInBounds_toArray, List.set_cons_zero, List.set_cons_succ]
      refine take_yes (i := 2) (d := 106) (v := ?_) rfl rfl (by kernel_rfl) (by kernel_rfl) (by kernel_rfl) (fun _ _ _ h => h) (by rfl) ?_ (by assumption) ?_
      rotate_left 1
      ·intro w hSw
       obtain ⟨z0, z1, z2, z3, z4, z5, z6, z7, z8⟩ := hSw
       go_simp
       with_reducible rfl
      try simp only [Act.put, List.setIfInBounds_toArray, List.set_cons_zero, List.set_cons_succ]
      refine take_yes (i := 3) (d := 107) (v := ?_) rfl rfl (by kernel_rfl) (by kernel_rfl) (by kernel_rfl) (fun _ _ _ h => h) (by rfl) ?_ (by assumption) ?_
      rotate_left 1
      ·intro w hSw
       obtain ⟨z0, z1, z2, z3, z4, z5, z6, z7, z8⟩ := hSw
       go_simp
       with_reducible rfl
      try simp only [Act.put, List.setIfInBounds_toArray, List.set_cons_zero, List.set_cons_succ]
      refine take_yes (i := 4) (d := 108) (v := ?_) rfl rfl (by kernel_rfl) (by kernel_rfl) (by kernel_rfl) (fun _ _ _ h => h) (by rfl) ?_ (by assumption) ?_
      rotate_left 1
      ·intro w hSw
       obtain ⟨z0, z1, z2, z3, z4, z5, z6, z7, z8⟩ := hSw
       go_simp
       with_reducible rfl
      try simp only [Act.put, List.setIfInBounds_toArray, List.set_cons_zero, List.set_cons_succ]
      refine take_yes (i := 5) (d := 109) (v := ?_) rfl rfl (by kernel_rfl) (by kernel_rfl) (by kernel_rfl) (fun _ _ _ h => h) (by rfl) ?_ (by assumption) ?_
      rotate_left 1
      ·intro w hSw
       obtain ⟨z0, z1, z2, z3, z4, z5, z6, z7, z8⟩ := hSw
       go_simp
       with_reducible rfl
      try simp only [Act.put, List.setIfInBounds_toArray, List.set_cons_zero, List.set_cons_succ]
      refine take_yes (i := 6) (d := 110) (v := ?_) rfl rfl (by kernel_rfl) (by kernel_rfl) (by kernel_rfl) (fun _ _ _ h => h) (by rfl) ?_ (by assumption) ?_
      rotate_left 1
      ·intro w hSw
       obtain ⟨z0, z1, z2, z3, z4, z5, z6, z7, z8⟩ := hSw
       go_simp
       with_reducible rfl
      try simp only [Act.put, List.setIfInBounds_toArray, List.set_cons_zero, List.set_cons_succ]
      refine take_yes (i := 7) (d := 111) (v := ?_) rfl rfl (by kernel_rfl) (by kernel_rfl) (by kernel_rfl) (fun _ _ _ h => h) (by rfl) ?_ (by assumption) ?_
      rotate_left 1
      ·intro w hSw
       obtain ⟨z0, z1, z2, z3, z4, z5, z6, z7, z8⟩ := hSw
       go_simp
       with_reducible rfl
      try simp only [Act.put, List.setIfInBounds_toArray, List.set_cons_zero, List.set_cons_succ]
      refine take_yes (i := 8) (d := 112) (v := ?_) rfl rfl (by kernel_rfl) (by kernel_rfl) (by kernel_rfl) (fun _ _ _ h => h) (by rfl) ?_ (by assumption) ?_
      rotate_left 1
      ·intro w hSw
       obtain ⟨z0, z1, z2, z3, z4, z5, z6, z7, z8⟩ := hSw
       go_simp
       with_reducible rfl
      try simp only [Act.put, List.setIfInBounds_toArray, List.set_cons_zero, List.set_cons_succ]
      refine take_yes (i := 9) (d := 113) (v := ?_) rfl rfl (by kernel_rfl) (by kernel_rfl) (by kernel_rfl) (fun _ _ _ h => h) (by rfl) ?_ (by assumption) ?_
      rotate_left 1
      ·intro w hSw
       obtain ⟨z0, z1, z2, z3, z4, z5, z6, z7, z8⟩ := hSw
       go_simp
       with_reducible rfl
      try simp only [Act.put, List.setIfInBounds_toArray, List.set_cons_zero, List.set_cons_succ]
      refine take_yes (i := 10) (d := 114) (v := ?_) rfl rfl (by kernel_rfl) (by kernel_rfl) (by kernel_rfl) (fun _ _ _ h => h) (by rfl) ?_ (by assumption) ?_
      rotate_left 1
      ·intro w hSw
       obtain ⟨z0, z1, z2, z3, z4, z5, z6, z7, z8⟩ := hSw
       go_simp
       with_reducible rfl
      try simp only [Act.put, List.setIfInBounds_toArray, List.set_cons_zero, List.set_cons_succ]
      refine take_yes (i := 11) (d := 115) (v := ?_) rfl rfl (by kernel_rfl) (by kernel_rfl) (by kernel_rfl) (fun _ _ _ h => h) (by rfl) ?_ (by assumption) ?_
      rotate_left 1
      ·intro w hSw
       obtain ⟨z0, z1, z2, z3, z4, z5, z6, z7, z8⟩ := hSw
       go_simp
       with_reducible rfl
      try simp only [Act.put, List.setIfInBounds_toArray, List.set_cons_zero, List.set_cons_succ]
      refine take_yes (i := 12) (d := 116) (v := .bool false) rfl rfl (by kernel_rfl) (by kernel_rfl) (by kernel_rfl) (fun _ _ _ h => h) (by rfl) ?_ (by assumption) ?_
      ·intro w hSw
       obtain ⟨z0, z1, z2, z3, z4, z5, z6, z7, z8⟩ := hSw
       go_simp
       try simp
       try exact Hs.out
      try simp only [Act.put, List.setIfInBounds_toArray, List.set_cons_zero, List.set_cons_succ]
      refine take_yes (i := 13) (d := 117) (v := ?_) rfl rfl (by kernel_rfl) (by kernel_rfl) (by kernel_rfl) (fun _ _ _ h => h) (by rfl) ?_ (by assumption) ?_
      rotate_left 1
      ·intro w hSw
       obtain ⟨z0, z1, z2, z3, z4, z5, z6, z7, z8⟩ := hSw
       go_simp
       with_reducible rfl
      try simp only [Act.put, List.setIfInBounds_toArray, List.set_cons_zero, List.set_cons_succ]
      refine take_yes (i := 14) (d := 118) (v := ?_) rfl rfl (by kernel_rfl) (by kernel_rfl) (by kernel_rfl) (fun _ _ _ h => h) (by rfl) ?_ (by assumption) ?_
      rotate_left 1
      ·intro w hSw
       obtain ⟨z0, z1, z2, z3, z4, z5, z6, z7, z8⟩ := hSw
       go_simp
       with_reducible rfl
      try simp only [Act.put, List.setIfInBounds_toArray, List.set_cons_zero, List.set_cons_succ]
      refine take_yes (i := 15) (d := 119) (v := ?_) rfl rfl (by kernel_rfl) (by kernel_rfl) (by kernel_rfl) (fun _ _ _ h => h) (by rfl) ?_ (by assumption) ?_
      rotate_left 1
      ·intro w hSw
       obtain ⟨z0, z1, z2, z3, z4, z5, z6, z7, z8⟩ := hSw
       go_simp
       with_reducible rfl
      try simp only [Act.put, List.setIfInBounds_toArray, List.set_cons_zero, List.set_cons_succ]
      refine take_yes (i := 16) (d := 120) (v := ?_) rfl rfl (by kernel_rfl) (by kernel_rfl) (by kernel_rfl) (fun _ _ _ h => h) (by rfl) ?_ (by assumption) ?_
      rotate_left 1
      ·intro w hSw
       obtain ⟨z0, z1, z2, z3, z4, z5, z6, z7, z8⟩ := hSw
       go_simp
       with_reducible rfl
      try simp only [Act.put, List.setIfInBounds_toArray, List.set_cons_zero, List.set_cons_succ]
      refine take_yes (i := 17) (d := 121) (v := ?_) rfl rfl (by kernel_rfl) (by kernel_rfl) (by kernel_rfl) (fun _ _ _ h => h) (by rfl) ?_ (by assumption) ?_
      rotate_left 1
      ·intro w hSw
       obtain ⟨z0, z1, z2, z3, z4, z5, z6, z7, z8⟩ := hSw
       go_simp
       with_reducible rfl
      try simp only [Act.put, List.setIfInBounds_toArray, List.set_cons_zero, List.set_cons_succ]
      refine take_yes (i := 18) (d := 122) (v := ?_) rfl rfl (by kernel_rfl) (by kernel_rfl) (by kernel_rfl) (fun _ _ _ h => h) (by rfl) ?_ (by assumption) ?_
      rotate_left 1
      ·intro w hSw
       obtain ⟨z0, z1, z2, z3, z4, z5, z6, z7, z8⟩ := hSw
       go_simp
       with_reducible rfl
      try simp only [Act.put, List.setIfInBounds_toArray, List.set_cons_zero, List.set_cons_succ]
      refine take_yes (i := 19) (d := 123) (v := ?_) rfl rfl (by kernel_rfl) (by kernel_rfl) (by kernel_rfl) (fun _ _ _ h => h) (by rfl) ?_ (by assumption) ?_
      rotate_left 1
      ·intro w hSw
       obtain ⟨z0, z1, z2, z3, z4, z5, z6, z7, z8⟩ := hSw
       go_simp
       with_reducible rfl
      try simp only [Act.put, List.setIfInBounds_toArray, List.set_cons_zero, List.set_cons_succ]
      refine take_yes (i := 20) (d := 124) (v := ?_) rfl rfl (by kernel_rfl) (by kernel_rfl) (by kernel_rfl) (fun _ _ _ h => h) (by rfl) ?_ (by assumption) ?_
      rotate_left 1
      ·intro w hSw
       obtain ⟨z0, z1, z2, z3, z4, z5, z6, z7, z8⟩ := hSw
       go_simp
       with_reducible rfl
      try simp only [Act.put, List.setIfInBounds_toArray, List.set_cons_zero, List.set_cons_succ]
      refine take_yes (i := 21) (d := 125) (v := ?_) rfl rfl (by kernel_rfl) (by kernel_rfl) (by kernel_rfl) (fun _ _ _ h => h) (by rfl) ?_ (by assumption) ?_
      rotate_left 1
      ·intro w hSw
       obtain ⟨z0, z1, z2, z3, z4, z5, z6, z7, z8⟩ := hSw
       go_simp
       with_reducible rfl
      try simp only [Act.put, List.setIfInBounds_toArray, List.set_cons_zero, List.set_cons_succ]
      refine take_yes (i := 22) (d := 126) (v := ?_) rfl rfl (by kernel_rfl) (by kernel_rfl) (by kernel_rfl) (fun _ _ _ h => h) (by rfl) ?_ (by assumption) ?_
      rotate_left 1
      ·intro w hSw
       obtain ⟨z0, z1, z2, z3, z4, z5, z6, z7, z8⟩ := hSw
       go_simp
       with_reducible rfl
      try simp only [Act.put, List.setIfInBounds_toArray, List.set_cons_zero, List.set_cons_succ]
      refine take_yes (i := 23) (d := 127) (v := ?_) rfl rfl (by kernel_rfl) (by kernel_rfl) (by kernel_rfl) (fun _ _ _ h => h) (by rfl) ?_ (by assumption) ?_
      rotate_left 1
      ·intro w hSw
       obtain ⟨z0, z1, z2, z3, z4, z5, z6, z7, z8⟩ := hSw
       go_simp
       with_reducible rfl
      try simp only [Act.put, List.setIfInBounds_toArray, List.set_cons_zero, List.set_cons_succ]
      refine take_yes (i := 24) (d := 128) (v := ?_) rfl rfl (by kernel_rfl) (by kernel_rfl) (by kernel_rfl) (fun _ _ _ h => h) (by rfl) ?_ (by assumption) ?_
      rotate_left 1
      ·intro w hSw
       obtain ⟨z0, z1, z2, z3, z4, z5, z6, z7, z8⟩ := hSw
       go_simp
       with_reducible rfl
      try simp only [Act.put, List.setIfInBounds_toArray, List.set_cons_zero, List.set_cons_succ]
      refine take_yes (i := 25) (d := 129) (v := ?_) rfl rfl (by kernel_rfl) (by kernel_rfl) (by kernel_rfl) (fun _ _ _ h => h) (by rfl) ?_ (by assumption) ?_
      rotate_left 1
      ·intro w hSw
       obtain ⟨z0, z1, z2, z3, z4, z5, z6, z7, z8⟩ := hSw
       go_simp
       with_reducible rfl
      try simp only [Act.put, List.setIfInBounds_toArray, List.set_cons_zero, List.set_cons_succ]
      refine take_yes (i := 26) (d := 130) (v := .bool false) rfl rfl (by kernel_rfl) (by kernel_rfl) (by kernel_rfl) (fun _ _ _ h => h) (by rfl) ?_ (by assumption) ?_
      ·intro w hSw
       obtain ⟨z0, z1, z2, z3, z4, z5, z6, z7, z8⟩ := hSw
       go_simp
       try simp
       try exact Hj.out
      try simp only [Act.put, List.setIfInBounds_toArray, List.set_cons_zero, List.set_cons_succ]
      refine take_yes (i := 27) (d := 131) (v := ?_) rfl rfl (by kernel_rfl) (by kernel_rfl) (by kernel_rfl) (fun _ _ _ h => h) (by rfl) ?_ (by assumption) ?_
      rotate_left 1
      ·intro w hSw
       obtain ⟨z0, z1, z2, z3, z4, z5, z6, z7, z8⟩ := hSw
       go_simp
       with_reducible rfl
      try simp only [Act.put, List.setIfInBounds_toArray, List.set_cons_zero, List.set_cons_succ]
      refine take_yes (i := 28) (d := 132) (v := ?_) rfl rfl (by kernel_rfl) (by kernel_rfl) (by kernel_rfl) (fun _ _ _ h => h) (by rfl) ?_ (by assumption) ?_
      rotate_left 1
      ·intro w hSw
       obtain ⟨z0, z1, z2, z3, z4, z5, z6, z7, z8⟩ := hSw
       go_simp
       with_reducible rfl
      try simp only [Act.put, List.setIfInBounds_toArray, List.set_cons_zero, List.set_cons_succ]
      refine take_yes (i := 29) (d := 133) (v := ?_) rfl rfl (by kernel_rfl) (by kernel_rfl) (by kernel_rfl) (fun _ _ _ h => h) (by rfl) ?_ (by assumption) ?_
      rotate_left 1
      ·intro w hSw
       obtain ⟨z0, z1, z2, z3, z4, z5, z6, z7, z8⟩ := hSw
       go_simp
       with_reducible rfl
      try simp only [Act.put, List.setIfInBounds_toArray, List.set_cons_zero, List.set_cons_succ]
      refine take_yes (i := 30) (d := 134) (v := ?_) rfl rfl (by kernel_rfl) (by kernel_rfl) (by kernel_rfl) (fun _ _ _ h => h) (by rfl) ?_ (by assumption) ?_
      rotate_left 1
      ·intro w hSw
       obtain ⟨z0, z1, z2, z3, z4, z5, z6, z7, z8⟩ := hSw
       go_simp
       with_reducible rfl
      try simp only [Act.put, List.setIfInBounds_toArray, List.set_cons_zero, List.set_cons_succ]
      refine take_yes (i := 31) (d := 135) (v := ?_) rfl rfl (by kernel_rfl) (by kernel_rfl) (by kernel_rfl) (fun _ _ _ h => h) (by rfl) ?_ (by assumption) ?_
      rotate_left 1
      ·intro w hSw
       obtain ⟨z0, z1, z2, z3, z4, z5, z6, z7, z8⟩ := hSw
       go_simp
       with_reducible rfl
      try simp only [Act.put, List.setIfInBounds_toArray, List.set_cons_zero, List.set_cons_succ]
      refine take_yes (i := 32) (d := 136) (v := ?_) rfl rfl (by kernel_rfl) (by kernel_rfl) (by kernel_rfl) (fun _ _ _ h => h) (by rfl) ?_ (by assumption) ?_
      rotate_left 1
      ·intro w hSw
       obtain ⟨z0, z1, z2, z3, z4, z5, z6, z7, z8⟩ := hSw
       go_simp
       with_reducible rfl
      try simp only [Act.put, List.setIfInBounds_toArray, List.set_cons_zero, List.set_cons_succ]
      refine take_yes (i := 33) (d := 137) (v := ?_) rfl rfl (by kernel_rfl) (by kernel_rfl) (by kernel_rfl) (fun _ _ _ h => h) (by rfl) ?_ (by assumption) ?_
      rotate_left 1
      ·intro w hSw
       obtain ⟨z0, z1, z2, z3, z4, z5, z6, z7, z8⟩ := hSw
       go_simp
       with_reducible rfl
      try simp only [Act.put, List.setIfInBounds_toArray, List.set_cons_zero, List.set_cons_succ]
      refine take_yes (i := 34) (d := 138) (v := ?_) rfl rfl (by kernel_rfl) (by kernel_rfl) (by kernel_rfl) (fun _ _ _ h => h) (by rfl) ?_ (by assumption) ?_
      rotate_left 1
      ·intro w hSw
       obtain ⟨z0, z1, z2, z3, z4, z5, z6, z7, z8⟩ := hSw
       go_simp
       with_reducible rfl
      try simp only [Act.put, List.setIfInBounds_toArray, List.set_cons_zero, List.set_cons_succ]
      refine take_yes (i := 35) (d := 139) (v := ?_) rfl rfl (by kernel_rfl) (by kernel_rfl) (by kernel_rfl) (fun _ _ _ h => h) (by rfl) ?_ (by assumption) ?_
      rotate_left 1
      ·intro w hSw
       obtain ⟨z0, z1, z2, z3, z4, z5, z6, z7, z8⟩ := hSw
       go_simp
       with_reducible rfl
      try simp only [Act.put, List.setIfInBounds_toArray, List.set_cons_zero, List.set_cons_succ]
      refine take_yes (i := 36) (d := 140) (v := ?_) rfl rfl (by kernel_rfl) (by kernel_rfl) (by kernel_rfl) (fun _ _ _ h => h) (by rfl) ?_ (by assumption) ?_
      rotate_left 1
      ·intro w hSw
       obtain ⟨z0, z1, z2, z3, z4, z5, z6, z7, z8⟩ := hSw
       go_simp
       with_reducible rfl
      try simp only [Act.put, List.setIfInBounds_toArray, List.set_cons_zero, List.set_cons_succ]
      refine take_yes (i := 37) (d := 141) (v := ?_) rfl rfl (by kernel_rfl) (by kernel_rfl) (by kernel_rfl) (fun _ _ _ h => h) (by rfl) ?_ (by assumption) ?_
      rotate_left 1
      ·intro w hSw
       obtain ⟨z0, z1, z2, z3, z4, z5, z6, z7, z8⟩ := hSw
       go_simp
       with_reducible rfl
      try simp only [Act.put, List.setIfInBounds_toArray, List.set_cons_zero, List.set_cons_succ]
      refine take_yes (i := 38) (d := 142) (v := ?_) rfl rfl (by kernel_rfl) (by kernel_rfl) (by kernel_rfl) (fun _ _ _ h => h) (by rfl) ?_ (by assumption) ?_
      rotate_left 1
      ·intro w hSw
       obtain ⟨z0, z1, z2, z3, z4, z5, z6, z7, z8⟩ := hSw
       go_simp
       with_reducible rfl
      try simp only [Act.put, List.setIfInBounds_toArray, List.set_cons_zero, List.set_cons_succ]
      refine take_yes (i := 39) (d := 143) (v := ?_) rfl rfl (by kernel_rfl) (by kernel_rfl) (by kernel_rfl) (fun _ _ _ h => h) (by rfl) ?_ (by assumption) ?_
      rotate_left 1
      ·intro w hSw
       obtain ⟨z0, z1, z2, z3, z4, z5, z6, z7, z8⟩ := hSw
       go_simp
       with_reducible rfl
      try simp only [Act.put, List.setIfInBounds_toArray, List.set_cons_zero, List.set_cons_succ]
      refine take_yes (i := 40) (d := 144) (v := ?_) rfl rfl (by kernel_rfl) (by kernel_rfl) (by kernel_rfl) (fun _ _ _ h => h) (by rfl) ?_ (by assumption) ?_
      rotate_left 1
      ·intro w hSw
       obtain ⟨z0, z1, z2, z3, z4, z5, z6, z7, z8⟩ := hSw
       go_simp
       with_reducible rfl
      try simp only [Act.put, List.setIfInBounds_toArray, List.set_cons_zero, List.set_cons_succ]
      refine wpAnyH_ready (rs := [41]) (by kernel_rfl) (by simp) ?_
      refine AllReadyH.cons rfl (fun K hK => ?_) AllReadyH.nil
      go_simp
      refine (HS2.out _ hH).mono ?_
      rintro e w8 ⟨rfl, hG⟩
      clear hH
      refine hK.out _ _ hG (fun hH => ?_)
      clear hK K hG
      try simp only [Act.put, List.setIfInBounds_toArray, List.set_cons_zero, List.set_cons_succ]
      refine take_yes (i := 42) (d := 146) (v := ?_) rfl rfl (by kernel_rfl) (by kernel_rfl) (by kernel_rfl) (fun _ _ _ h => h) (by rfl) ?_ (by assumption) ?_
      rotate_left 1
      ·intro w hSw
       obtain ⟨z0, z1, z2, z3, z4, z5, z6, z7, z8⟩ := hSw
       go_simp
       with_reducible rfl
      try simp only [Act.put, List.setIfInBounds_toArray, List.set_cons_zero, List.set_cons_succ]
      refine take_yes (i := 43) (d := 147) (v := ?_) rfl rfl (by kernel_rfl) (by kernel_rfl) (by kernel_rfl) (fun _ _ _ h => h) (by rfl) ?_ (by assumption) ?_
      rotate_left 1
      ·intro w hSw
       obtain ⟨z0, z1, z2, z3, z4, z5, z6, z7, z8⟩ := hSw
       go_simp
       with_reducible rfl
      try simp only [Act.put, List.setIfInBounds_toArray, List.set_cons_zero, List.set_cons_succ]
      refine wpAnyH_done (by kernel_rfl) ?_ _
      obtain ⟨a0, a1, a2, a3, a4, a5, a6, a7, a8⟩ := hH
      go_wp2_with fail
      go_ret
      exact ⟨rfl, Bel.trans HB.out (Bel.trans HB8.out a8)⟩
    ·have hz := dec_end (by rw [HM1.out]; exact hmk) (by rw [HM2.out]; exact hmk) HMm.out
     subst hz
     obtain rfl : m = k1 := by omega
     go_wp2_with fail
     go_ret
     exact ⟨rfl, Bel.trans HB.out HB8.out⟩
end Syn
end Go.Proofs.YtmifookckpelaaaGreatDoor
