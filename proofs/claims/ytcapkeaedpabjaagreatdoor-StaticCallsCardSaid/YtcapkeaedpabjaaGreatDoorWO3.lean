/-
  Layer 8, texts merged: SvG. For every argument within the bounds that each theorem names.
-/
import Derived.Test.YtcapkeaedpabjaaGreatDoorWO1
import Derived.Test.YtcapkeaedpabjaaGreatDoorWO2

/-
 Layer 9, the reference: visit.
-/
namespace Go.Proofs.YtcapkeaedpabjaaGreatDoor
open Go.RowKit Go.ChangeShapes Go.WideShapes
namespace Syn
/-- What a visit says. -/
def VPost (w : World) (wb G base : Nat) (no fo : Option Addr) (n nc k fc : Nat) (K : Wk) (a1 a2 : Option Addr) (e : Ending) (w' : World) : Prop :=
 ∃ b1 d1 b2 d2, e = .returned (.tuple #[]) ∧ (WkAt w' wb G base no fo n nc k fc K b1 d1 b2 d2 ∧ (∀ b, OB b1 b → OB a1 b ∨ w.heap.size ≤ b) ∧ ∀ b, OB b2 b → OB a2 b ∨ w.heap.size ≤ b) ∧ Mod (WkO wb G a1 a2) w w'
/-- What the walk knows of its program. -/
structure VEnv (w0 : World) (wb G base : Nat) (no fo : Option Addr) (n k : Nat) (L : List Nd) (F : List Fw) : Prop where
 nodes : NArg w0 no n L
 funcs : FArg w0 fo k F
 wb : w0.heap.size ≤ wb
 G : w0.heap.size ≤ G
 base : w0.heap.size ≤ base
 hn : n ≤ 1000
 hk : k ≤ 1000
 kids : ∀ x ∈ L, x.kids.length ≤ 100000
 par : ∀ x ∈ F, x.params.length ≤ 1000
def Vis (w0 : World) (wb G base : Nat) (no fo : Option Addr) (n nc k fc : Nat) (L : List Nd) (F : List Fw) (t : T) : Prop :=
 ∀ (b : Nat) (K : Wk) (a1 : Option Addr) (c1 : Nat) (a2 : Option Addr) (c2 : Nat) (w : World) (A B : List Nd), L = A ++ flat b t ++ B → A.length = b → K.sls.length = K.nms.length → K.nms.length + size t ≤ 50000 → K.nx + size t ≤ 50000 → base ≤ w.heap.size → Bel w0 w → WkAt w wb G base no fo n nc k fc K a1 c1 a2 c2 →
  Calls Tryz.prog 102 #[.pointer (some ⟨wb, 0, none⟩), .int .i64 ((b + size t - 1 : Nat) : Int)] w (VPost w wb G base no fo n nc k fc (visT (wantI F) b t K) a1 a2)
def allV (P : T → Prop) : Ts → Prop
 | .nil => True
 | .cons t r => P t ∧ allV P r
mutual
theorem t_ind {P : T → Prop} (h : ∀ k s i keys ts, allV P ts → P (.node k s i keys ts)) : ∀ t, P t
 | .node k s i keys ts => h k s i keys ts (ts_ind h ts)
theorem ts_ind {P : T → Prop} (h : ∀ k s i keys ts, allV P ts → P (.node k s i keys ts)) : ∀ ts, allV P ts
 | .nil => trivial
 | .cons t r => ⟨t_ind h t, ts_ind h r⟩
end
theorem roots_le : ∀ (b : Nat) (ts : Ts), (roots b ts).length ≤ sizes ts
 | _, .nil => Nat.le_refl _
 | b, .cons t r => by
  have := roots_le (b + size t) r
  have h2 := size_pos t
  rw [roots, sizes, List.length_cons]
  omega
theorem wk_far {w : World} {wb G base : Nat} {no fo : Option Addr} {n nc k fc : Nat} {K : Wk} {a1 a2 : Option Addr} {c1 c2 : Nat} (h : WkAt w wb G base no fo n nc k fc K a1 c1 a2 c2) (hb : base ≤ w.heap.size) : ∀ i, WkO wb G a1 a2 i → i < w.heap.size := fun i hi => by
 rcases hi with q | q | q | q
 ·have := h.wlt; omega
 ·have := h.glt; omega
 ·exact (h.nm.lt i (own_ob q)).2
 ·exact (h.sl.lt i (own_ob q)).2
theorem wk_old {w w0 : World} {wb G base : Nat} {no fo : Option Addr} {n nc k fc k' n' : Nat} {L : List Nd} {F : List Fw} {K : Wk} {a1 a2 : Option Addr} {c1 c2 : Nat} (E : VEnv w0 wb G base no fo n' k' L F) (h : WkAt w wb G base no fo n nc k fc K a1 c1 a2 c2) : ∀ i, WkO wb G a1 a2 i → w0.heap.size ≤ i := fun i hi => by
 rcases hi with q | q | q | q
 ·rw [q]; exact E.wb
 ·rw [q]; exact E.G
 ·exact Nat.le_trans E.base (h.nm.lt i (own_ob q)).1
 ·exact Nat.le_trans E.base (h.sl.lt i (own_ob q)).1
theorem und_strs : Tryz.prog.underlying 44 = some (.slice (Tryz.prog.elem 44)) := by kernel_rfl
theorem siz_strs (w : World) : (sizeOf (Tryz.prog.elem 44)).run Tryz.prog w = .ok 1 w := by kernel_rfl
theorem und_ints : Tryz.prog.underlying 38 = some (.slice (Tryz.prog.elem 38)) := by kernel_rfl
theorem siz_ints (w : World) : (sizeOf (Tryz.prog.elem 38)).run Tryz.prog w = .ok 1 w := by kernel_rfl
theorem cut_toT (o : Option Addr) (n c k : Nat) (h : k ≤ c) (W : World) : (Instr.slice 44 (.slice o n c) none (some (.int .i64 (k : Int))) none).run Tryz.prog W = .ok (.slice o k c) W := by
 rw [run_slice_h W 44 _ n c und_strs .i64 (k : Int) (by omega) (by omega), siz_strs]
 simp only [Result.andThen, sliced, Int.toNat_natCast, Nat.zero_mul, Nat.sub_zero]
 cases o <;> simp [Addr.add_zero']
theorem cut_toI (o : Option Addr) (n c k : Nat) (h : k ≤ c) (W : World) : (Instr.slice 38 (.slice o n c) none (some (.int .i64 (k : Int))) none).run Tryz.prog W = .ok (.slice o k c) W := by
 rw [run_slice_h W 38 _ n c und_ints .i64 (k : Int) (by omega) (by omega), siz_ints]
 simp only [Result.andThen, sliced, Int.toNat_natCast, Nat.zero_mul, Nat.sub_zero]
 cases o <;> simp [Addr.add_zero']
theorem wcall_any (wb G base : Nat) (nb nf : Nat) (fo : Option Addr) (n nc k fc : Nat) (F : List Fw) (K : Wk) (a1 a2 : Option Addr) (c1 c2 : Nat) (i : Nat) (s : Txt) (vi : Int) (ko jo : Option Addr) (kn kc jn jc : Nat) (hin : i < n) (hk : k ≤ 1000) (hjn : jn ≤ 100000) (w : World) (hW : WkAt w wb G base (some ⟨nb, nf, none⟩) fo n nc k fc K a1 c1 a2 c2) (hF : FArg w fo k F)
  (g1 : w.cell? ⟨nb, nf + i * 5 + 1, none⟩ = some (.string ⟨s.toArray⟩)) (g2 : w.cell? ⟨nb, nf + i * 5 + 2, none⟩ = some (.int .i64 vi)) (g3 : w.cell? ⟨nb, nf + i * 5 + 3, none⟩ = some (.slice ko kn kc)) (g4 : w.cell? ⟨nb, nf + i * 5 + 4, none⟩ = some (.slice jo jn jc)) (kd : Int) (hkd : kd = 11 ∨ kd = 12) (g0 : w.cell? ⟨nb, nf + i * 5, none⟩ = some (.int .i64 kd)) (x : Nd) (hxk : x.k = kd) (hxs : x.s = s) :
  Calls Tryz.prog 159 #[.pointer (some ⟨wb, 0, none⟩), .int .i64 (i : Int)] w fun e w' => e = .returned (.tuple #[]) ∧ WkAt w' wb G base (some ⟨nb, nf, none⟩) fo n nc k fc (if argE jn (wantI F x) = 0 then K else K.fail i (argE jn (wantI F x))) a1 c1 a2 c2 ∧ Mod (fun b => b = wb) w w' := by
 obtain ⟨f1, f2⟩ := find_lt F s
 by_cases hfi : 0 ≤ findI F s
 ·obtain ⟨q, hq⟩ : ∃ q : Nat, findI F s = (q : Int) := ⟨(findI F s).toNat, by omega⟩
  have hql : q < F.length := by omega
  have hFk := hF.1
  obtain ⟨b, off, hfo, hcf⟩ := hF.2 (by omega)
  obtain ⟨⟨fs, po, pk, pc, fj⟩, hfv, hfc⟩ := hcf q hql
  have hKA := hfv.ps
  dsimp only at hKA
  have hpk := (karg_at hKA).1
  have hfn : ∃ fb ff po pk pc, fo = some ⟨fb, ff, none⟩ ∧ pk = F[q].params.length ∧ w.cell? ⟨fb, ff + q * 3 + 1, none⟩ = some (.slice po pk pc) := ⟨b, off, po, pk, pc, hfo, hpk.symm, by simpa using hfc 1 _ rfl⟩
  have hp : parI F s = (F[q].params.length : Int) := by
   unfold parI
   rw [if_pos hfi, hq, Int.toNat_natCast, List.getElem?_eq_getElem hql]
  rcases hkd with rfl | rfl
  ·have hw : wantI F x = (F[q].params.length : Int) := by unfold wantI; rw [hxk, if_neg (by decide), hxs, hp]
   rw [hw]
   exact wcall_cf wb G base nb nf fo n nc k fc F K a1 a2 c1 c2 i s vi ko jo kn kc jn jc hin hk hjn w hW hF g1 g2 g3 g4 g0 q (by omega) hq _ hfn
  ·have hw : wantI F x = hstI s := by unfold wantI; rw [hxk, if_pos rfl, hxs]
   rw [hw]
   exact wcall_hf wb G base nb nf fo n nc k fc F K a1 a2 c1 c2 i s vi ko jo kn kc jn jc hin hk hjn w hW hF g1 g2 g3 g4 g0 q (by omega) hq _ hfn
 ·have hp : parI F s = bltI s := by unfold parI; rw [if_neg hfi]
  rcases hkd with rfl | rfl
  ·have hw : wantI F x = bltI s := by unfold wantI; rw [hxk, if_neg (by decide), hxs, hp]
   rw [hw]
   exact wcall_cn wb G base nb nf fo n nc k fc F K a1 a2 c1 c2 i s vi ko jo kn kc jn jc hin hk hjn w hW hF g1 g2 g3 g4 g0 (by omega)
  ·have hw : wantI F x = hstI s := by unfold wantI; rw [hxk, if_pos rfl, hxs]
   rw [hw]
   exact wcall_hn wb G base nb nf fo n nc k fc F K a1 a2 c1 c2 i s vi ko jo kn kc jn jc hin hk hjn w hW hF g1 g2 g3 g4 g0 (by omega)
set_option maxRecDepth 100000 in
set_option maxHeartbeats 16000000 in
theorem wvisit_any (w0 : World) (wb G base : Nat) (no fo : Option Addr) (n nc k fc : Nat) (L : List Nd) (F : List Fw) (E : VEnv w0 wb G base no fo n k L F) : ∀ t, Vis w0 wb G base no fo n nc k fc L F t := by
 refine t_ind fun kd s vi0 keys ts hts => ?_
 intro b K a1 c1 a2 c2 w A B hL hAl hln hM1 hM2 hbs hB0 hW
 have hL2 : L = A ++ flats b ts ++ (⟨kd, s, vi0, keys, roots b ts⟩ :: B) := by rw [hL, flat]; simp
 have hLn := E.nodes.1
 have hfl : (flats b ts).length = sizes ts := flats_len ts b
 obtain ⟨ix, hix⟩ : ∃ ix, b + sizes ts = ix := ⟨_, rfl⟩
 have hx : L[ix]? = some ⟨kd, s, vi0, keys, roots b ts⟩ := by
  rw [hL2, List.getElem?_append_right (by rw [List.length_append, hfl]; omega), List.length_append, hfl, show ix - (A.length + sizes ts) = 0 by omega]
  rfl
 obtain ⟨hixl, hxe⟩ := List.getElem?_eq_some_iff.1 hx
 have hin : ix < n := by omega
 rw [size] at hM1 hM2 ⊢
 rw [show b + (sizes ts + 1) - 1 = ix by omega]
 rw [visT, hix]
 obtain ⟨nb, nf, hno, hcs⟩ := E.nodes.2 (by omega)
 obtain ⟨v, hv, hcc⟩ := hcs ix hixl
 rw [hxe] at hv
 have hvk := hv.k
 have hvs := hv.s
 have hvZ := hv.kids
 dsimp only at hvk hvs hvZ
 obtain ⟨vk, vs, vi, ko, kn, kc, jo, jn, jc⟩ := v
 dsimp only at hvk hvs hvZ
 subst hvk hvs
 have hjn : (roots b ts).length = jn := hvZ.1
 have hjn2 : jn ≤ 50000 := by have := roots_le b ts; omega
 have q0 : w.cell? ⟨nb, nf + ix * 5, none⟩ = some (.int .i64 vk) := hB0.cell' (by simpa using hcc 0 _ rfl)
 have q1 : w.cell? ⟨nb, nf + ix * 5 + 1, none⟩ = some (.string ⟨vs.toArray⟩) := hB0.cell' (by simpa using hcc 1 _ rfl)
 have q2 : w.cell? ⟨nb, nf + ix * 5 + 2, none⟩ = some (.int .i64 vi) := hB0.cell' (by simpa using hcc 2 _ rfl)
 have q3 : w.cell? ⟨nb, nf + ix * 5 + 3, none⟩ = some (.slice ko kn kc) := hB0.cell' (by simpa using hcc 3 _ rfl)
 have q4 : w.cell? ⟨nb, nf + ix * 5 + 4, none⟩ = some (.slice jo jn jc) := hB0.cell' (by simpa using hcc 4 _ rfl)
 have HQ := Lib.hid (show ∀ W, Bel w0 W → W.cell? ⟨nb, nf + ix * 5, none⟩ = some (.int .i64 vk) ∧ W.cell? ⟨nb, nf + ix * 5 + 1, none⟩ = some (.string ⟨vs.toArray⟩) ∧ W.cell? ⟨nb, nf + ix * 5 + 2, none⟩ = some (.int .i64 vi) ∧ W.cell? ⟨nb, nf + ix * 5 + 3, none⟩ = some (.slice ko kn kc) ∧ W.cell? ⟨nb, nf + ix * 5 + 4, none⟩ = some (.slice jo jn jc) from fun W g => ⟨g.cell' (by simpa using hcc 0 _ rfl), g.cell' (by simpa using hcc 1 _ rfl), g.cell' (by simpa using hcc 2 _ rfl), g.cell' (by simpa using hcc 3 _ rfl), g.cell' (by simpa using hcc 4 _ rfl)⟩)
 have p0 := hW.p0
 have p1 := hW.p1
 have p2 := hW.e2
 rw [hno] at p0
 obtain ⟨V, hV⟩ : ∃ V, w.alloc (.cells #[.int .i64 vk, .string ⟨vs.toArray⟩, .int .i64 vi, .slice ko kn kc, .slice jo jn jc] 65) = V := ⟨_, rfl⟩
 have BV : Bel w V := by rw [← hV]; exact Bel.alloc (Bel.refl _) _
 obtain ⟨y0, y1, -, -, y4⟩ := box5 w (.int .i64 vk) (.string ⟨vs.toArray⟩) (.int .i64 vi) (.slice ko kn kc) (.slice jo jn jc) 65
 rw [hV] at y0 y1 y4
 have hz : V.heap.size = w.heap.size + 1 := by rw [← hV, alloc_szs]
 have hfar := wk_far hW hbs
 have hxb : ¬ WkO wb G a1 a2 w.heap.size := fun h => Nat.lt_irrefl _ (hfar _ h)
 have HY := Lib.hid (show ∀ W, Mod (WkO wb G a1 a2) V W → W.cell? ⟨w.heap.size, 0, none⟩ = some (.int .i64 vk) ∧ W.cell? ⟨w.heap.size, 1, none⟩ = some (.string ⟨vs.toArray⟩) ∧ W.cell? ⟨w.heap.size, 4, none⟩ = some (.slice jo jn jc) from fun W g => ⟨g.cell y0 hxb, g.cell y1 hxb, g.cell y4 hxb⟩)
 have HZ := Lib.hid hvZ
 have HVe := Lib.hid hV
 have HBV := Lib.hid BV
 have HB0 := Lib.hid (Bel.trans hB0 BV)
 have HWV := Lib.hid (hW.bel BV)
 have Hz := Lib.hid hz
 have hold := wk_old E hW
 have Hold := Lib.hid hold
 obtain ⟨m0, hm0⟩ : ∃ m0, K.nms.length = m0 := ⟨_, rfl⟩
 rw [hm0] at p2 ⊢
 have p2l := (Bel.alloc (Bel.refl w) (.cells #[.int .i64 vk, .string ⟨vs.toArray⟩, .int .i64 vi, .slice ko kn kc, .slice jo jn jc] 65)).cell' p2
 obtain ⟨K1, hK1⟩ : ∃ K1, visTs (wantI F) b ts K = K1 := ⟨_, rfl⟩
 have hgr := visTs_grows (wantI F) ts b K
 rw [hK1] at hgr ⊢
 have HS := Lib.hid (show (roots b ts).drop 0 = roots b ts ∧ visTs (wantI F) b ts K = K1 ∧ allV (Vis w0 wb G base no fo n nc k fc L F) ts ∧ (∃ A' B', L = A' ++ flats b ts ++ B' ∧ A'.length = b) ∧ K.sls.length = K.nms.length ∧ K.nms.length + sizes ts ≤ 50000 ∧ K.nx + sizes ts ≤ 50000 from ⟨rfl, hK1, hts, ⟨A, _, hL2, hAl⟩, hln, by omega, by omega⟩)
 have Hgr := Lib.hid hgr
 have Hln := Lib.hid hln
 have Hm0 := Lib.hid hm0
 have Hix := Lib.hid (show L[ix]? = some ⟨vk, vs, vi0, keys, roots b ts⟩ from hx)
 have hi1 : (ix : Int) < (n : Int) := by omega
 have hi0 : (0 : Int) ≤ (ix : Int) := by omega
 generalize hrr : roots b ts = rts at *
 have Hno := Lib.hid hno
 clear hno
 clear hcs hcc hv hvZ hW hV BV hts hL hL2 hx hxe hB0 hgr hK1 y0 y1 y4 hln
 go_enter Tryz.func102, Tryz.ntmps102
 go_wp2_with fail
 rw [HVe.out]
 have HE := Lib.hid E
 go_loopw [6] (fun iv wr => ∃ (j b' : Nat) (r : Ts) (Kj : Wk) (b1 : Option Addr) (d1 : Nat) (b2 : Option Addr) (d2 : Nat), iv = .int .i64 (j : Int) ∧ j ≤ jn ∧ Hid (WkAt wr wb G base no fo n nc k fc Kj b1 d1 b2 d2) ∧ Hid (Mod (WkO wb G a1 a2) V wr) ∧ Hid ((∀ i, OB b1 i → OB a1 i ∨ V.heap.size ≤ i) ∧ ∀ i, OB b2 i → OB a2 i ∨ V.heap.size ≤ i) ∧ Hid (rts.drop j = roots b' r ∧ visTs (wantI F) b' r Kj = K1 ∧ allV (Vis w0 wb G base no fo n nc k fc L F) r ∧ (∃ A' B', L = A' ++ flats b' r ++ B' ∧ A'.length = b') ∧ Kj.sls.length = Kj.nms.length ∧ Kj.nms.length + sizes r ≤ 50000 ∧ Kj.nx + sizes r ≤ 50000)) (fun iv _ => jn - (intOf iv).toNat)
 case atStart => exact ⟨0, b, ts, K, a1, c1, a2, c2, rfl, Nat.zero_le _, HWV, Lib.hid (Mod.refl _ _), Lib.hid ⟨fun i h => Or.inl h, fun i h => Or.inl h⟩, Lib.hid ⟨hrr.symm, HS.out.2⟩⟩
 case round =>
  obtain ⟨j, b', r, Kj, b1, d1, b2, d2, rfl, hj, HWj, HMj, HFj, HSj⟩ := hrel
  rename World => wr
  obtain ⟨x0, x1, x4⟩ := HY.out wr HMj.out
  obtain ⟨s1, s2, s3, ⟨A', B', s4, s5⟩, s6, s7, s8⟩ := HSj.out
  have hbj : base ≤ wr.heap.size := by have := HMj.out.size; have := Hz.out; omega
  have B0j := Mod.bel_of HB0.out HMj.out Hold.out
  rcases Nat.lt_or_ge j jn with hjn1 | hjn1
  ·have hjl : j < rts.length := by omega
   cases r with
   | nil =>
    rw [List.drop_eq_getElem_cons hjl, roots] at s1
    cases s1
   | cons t r =>
    rw [List.drop_eq_getElem_cons hjl, roots] at s1
    obtain ⟨s11, s12⟩ := List.cons.inj s1
    obtain ⟨s31, s32⟩ := s3
    rw [visTs] at s2
    rw [sizes] at s7 s8
    rw [flats] at s4
    obtain ⟨zb, zo, rfl, hzc⟩ := za_addr HZ.out (by omega)
    have c0 := B0j.cell' (hzc j hjl)
    rw [s11] at c0
    have HC := Lib.hid (s31 b' Kj b1 d1 b2 d2 wr A' (flats (b' + size t) r ++ B') (by rw [s4]; simp) s5 s6 (by omega) (by omega) hbj B0j HWj.out)
    have g := visT_grows (wantI F) t b' Kj
    have HS2 := Lib.hid (show rts.drop (j + 1) = roots (b' + size t) r ∧ visTs (wantI F) (b' + size t) r (visT (wantI F) b' t Kj) = K1 ∧ allV (Vis w0 wb G base no fo n nc k fc L F) r ∧ (∃ A' B', L = A' ++ flats (b' + size t) r ++ B' ∧ A'.length = b' + size t) ∧ (visT (wantI F) b' t Kj).sls.length = (visT (wantI F) b' t Kj).nms.length ∧ (visT (wantI F) b' t Kj).nms.length + sizes r ≤ 50000 ∧ (visT (wantI F) b' t Kj).nx + sizes r ≤ 50000 from ⟨s12, s2, s32, ⟨A' ++ flat b' t, B', by rw [s4]; simp, by rw [List.length_append, flat_len t b', s5]⟩, g.ln s6, by have := g.nm; omega, by have := g.nx; omega⟩)
    have hj1 : (j : Int) < (jn : Int) := by omega
    have hj0 : (0 : Int) ≤ (j : Int) := by omega
    obtain ⟨kz, hkz⟩ : ∃ kz : Nat, b' + size t - 1 = kz := ⟨_, rfl⟩
    rw [hkz] at c0 HC
    clear hzc s1 s2 s4 s5 s6 s7 s8 s11 s12 s31 s32 g hkz HSj
    go_wp2_with fail
    refine HC.out.mono ?_
    rintro e w5 ⟨f1, g1, f2, g2, rfl, ⟨hW5, hf1, hf2⟩, hM5⟩
    have HW5 := Lib.hid hW5
    have hVr := HMj.out.size
    have HM5 := Lib.hid (HMj.out.trans hM5 (fun i hi => by
     rcases hi with q | q | q | q
     ·exact Or.inl (Or.inl q)
     ·exact Or.inl (Or.inr (Or.inl q))
     ·exact (HFj.out.1 i q).imp (fun h => Or.inr (Or.inr (Or.inl h))) (fun h => h)
     ·exact (HFj.out.2 i q).imp (fun h => Or.inr (Or.inr (Or.inr h))) (fun h => h)))
    have HF5 := Lib.hid (show (∀ i, OB f1 i → OB a1 i ∨ V.heap.size ≤ i) ∧ ∀ i, OB f2 i → OB a2 i ∨ V.heap.size ≤ i from ⟨fun i h => (hf1 i h).elim (fun h => HFj.out.1 i h) (fun h => Or.inr (Nat.le_trans hVr h)), fun i h => (hf2 i h).elim (fun h => HFj.out.2 i h) (fun h => Or.inr (Nat.le_trans hVr h))⟩)
    clear hW5 hf1 hf2 hM5 hVr
    go_wp2_with fail
    go_round
    case rel => exact ⟨j + 1, b' + size t, r, _, f1, g1, f2, g2, by go_num, by omega, HW5, HM5, HF5, HS2⟩
    case measure => first | (simp [intOf]; done) | (simp [intOf]; omega)
  ·obtain rfl : j = jn := by omega
   rw [List.drop_eq_nil_of_le (by omega)] at s1
   cases r with
   | cons t r => rw [roots] at s1; cases s1
   | nil =>
    rw [visTs] at s2
    subst s2
    have Hl := Lib.hid s6
    clear s1 s3 s4 s5 s6 s7 s8 HSj
    have HBs := Lib.hid hbs
    have Hend := Lib.hid (fun (W' : World) (K' : Wk) (e1 : Option Addr) (f1 : Nat) (e2 : Option Addr) (f2 : Nat) (h : WkAt W' wb G base no fo n nc k fc K' e1 f1 e2 f2) (g : Mod (WkO wb G a1 a2) V W') (h1 : ∀ i, OB e1 i → OB a1 i ∨ V.heap.size ≤ i) (h2 : ∀ i, OB e2 i → OB a2 i ∨ V.heap.size ≤ i) => show VPost w wb G base no fo n nc k fc K' a1 a2 (.returned (.tuple #[])) W' from ⟨e1, f1, e2, f2, rfl, ⟨h, fun i q => (h1 i q).imp (fun h => h) (fun h => by have := Hz.out; omega), fun i q => (h2 i q).imp (fun h => h) (fun h => by have := Hz.out; omega)⟩, (Mod.of_bel HBV.out).trans g (fun i h => Or.inl h)⟩)
    by_cases h11 : vk = 11 ∨ vk = 12
    ·have hk2 : atR (wantI F) m0 Kj ix ⟨vk, vs, vi0, keys, rts⟩ = if argE (j : Int) (wantI F ⟨vk, vs, vi0, keys, rts⟩) = 0 then Kj else Kj.fail ix (argE (j : Int) (wantI F ⟨vk, vs, vi0, keys, rts⟩)) := by
      unfold atR
      rw [if_neg (by show ¬ vk = 19; omega), if_neg (by show ¬ (vk = 5 ∨ vk = 14); omega), if_neg (by show ¬ vk = 13; omega), if_pos h11]
      simp only [hjn]
     have g9 := Bel.trans (Bel.refl w) HBV.out
     have BW : Bel w0 wr := B0j
     have hq := HQ.out wr BW
     have hWj2 := HWj.out
     rw [Hno.out] at hWj2
     have HCl := Lib.hid (wcall_any wb G base nb nf fo n nc k fc F Kj b1 b2 d1 d2 ix vs vi ko jo kn kc j jc hin HE.out.hk (by omega) wr hWj2 (HE.out.funcs.on BW) hq.2.1 hq.2.2.1 hq.2.2.2.1 hq.2.2.2.2 vk h11 hq.1 ⟨vk, vs, vi0, keys, rts⟩ rfl rfl)
     have b19 : (vk == 19) = false := by rcases h11 with h | h <;> subst h <;> rfl
     have b5 : (vk == 5) = false := by rcases h11 with h | h <;> subst h <;> rfl
     have b14 : (vk == 14) = false := by rcases h11 with h | h <;> subst h <;> rfl
     have b13 : (vk == 13) = false := by rcases h11 with h | h <;> subst h <;> rfl
     have Hk2 := Lib.hid hk2
     clear hq hWj2 g9 hk2
     rcases h11 with h | h
     ·subst h
      go_wp2_with fail
      refine HCl.out.mono ?_
      rintro e w5 ⟨rfl, k1, k2⟩
      rw [← Hno.out] at k1
      go_wp2_with fail
      go_end0
      rw [Hk2.out]
      exact Hend.out w5 _ b1 d1 b2 d2 k1 (HMj.out.trans k2 (fun i h => Or.inl (Or.inl h))) HFj.out.1 HFj.out.2
     ·subst h
      go_wp2_with fail
      refine HCl.out.mono ?_
      rintro e w5 ⟨rfl, k1, k2⟩
      rw [← Hno.out] at k1
      go_wp2_with fail
      go_end0
      rw [Hk2.out]
      exact Hend.out w5 _ b1 d1 b2 d2 k1 (HMj.out.trans k2 (fun i h => Or.inl (Or.inl h))) HFj.out.1 HFj.out.2
    ·by_cases h19 : vk = 19
     ·have hk2 : atR (wantI F) m0 Kj ix ⟨vk, vs, vi0, keys, rts⟩ = Kj.cut m0 := by
       unfold atR
       rw [if_pos h19]
      have Hk2 := Lib.hid hk2
      have hm1 : m0 ≤ Kj.nms.length := by have := Hgr.out.low; rw [Hm0.out] at this; exact this
      have e2 := HWj.out.e2
      have e3 := HWj.out.e3
      have f2 := HWj.out.fz 2 (by omega) (by omega)
      have f3 := HWj.out.fz 3 (by omega) (by omega)
      have hC1 := HWj.out.cut1 m0 hm1
      have hC2 := Lib.hid (hC1.cut2 m0 (by show m0 ≤ Kj.sls.length; rw [Hl.out]; exact hm1))
      have g3 := hC1.e3
      have k3 := hC1.fz 3 (by omega) (by omega)
      have HM2 := Lib.hid ((HMj.out.trans (wk_mod wr wb 2 (.slice b1 m0 d1)) (fun i h => Or.inl (Or.inl h))).trans (wk_mod (wr.setCell ⟨wb, 2, none⟩ (.slice b1 m0 d1)) wb 3 (.slice b2 m0 d2)) (fun i h => Or.inl (Or.inl h)))
      have hcA := Lib.hid (own_cap HWj.out.nm)
      have hcB := Lib.hid (own_cap HWj.out.sl)
      dsimp only at g3
      subst h19
      have hl1 : (m0 : Int) ≤ (d1 : Int) := by have := hcA.out; omega
      have hl2 : (m0 : Int) ≤ (d2 : Int) := by have := hcB.out; rw [Hl.out] at this; omega
      have hcu1 := fun W => cut_toT b1 Kj.nms.length d1 m0 (by omega) W
      have hcu2 := fun W => cut_toI b2 Kj.sls.length d2 m0 (by omega) W
      clear hC1 hk2
      go_wp2_with fail
      go_end0
      rw [Hk2.out]
      exact Hend.out _ _ b1 d1 b2 d2 hC2.out HM2.out HFj.out.1 HFj.out.2
     ·by_cases h5 : vk = 5 ∨ vk = 14
      ·have hgn := Hgr.out.nm
       have hsl : ix < Kj.sl.length := by rw [HWj.out.len]; exact hin
       have HVi := Lib.hid (wvisible_any wb G base no fo n nc k fc Kj b1 b2 d1 d2 vs (by omega) Hl.out wr.drew (HWj.out.bel (Below.drew (Bel.refl _))))
       have e5 := HWj.out.e5
       obtain ⟨r0, r1⟩ := HWj.out.row ix hsl
       obtain ⟨ov, hov⟩ : ∃ ov, Kj.sl[ix] = ov := ⟨_, rfl⟩
       rw [hov] at r0
       obtain ⟨vis, hvis⟩ : ∃ vis, visI Kj.nms Kj.sls vs = vis := ⟨_, rfl⟩
       rw [hvis] at HVi
       have hGx : ¬ G = w.heap.size := by have := HWj.out.glt; have := HBs.out; omega
       have HPu := Lib.hid ((HWj.out.put ix vis).bel (Below.drew (Bel.refl _)))
       have HMp := Lib.hid ((HMj.out.trans ((Mod.refl (fun i => i = G) wr).setCell (p := ⟨G, ix, none⟩) (Or.inl rfl) (.int .i64 vis)) (fun i h => Or.inl (Or.inr (Or.inl h)))).drew)
       obtain ⟨Ux, hUx⟩ : ∃ Ux, (wr.setCell ⟨G, ix, none⟩ (.int .i64 vis)).drew = Ux := ⟨_, rfl⟩
       have z0 : (wr.setCell ⟨G, ix, none⟩ (.int .i64 vis)).drew.cell? ⟨G, ix, none⟩ = some (.int .i64 vis) := World.cell?_setCell_same _ _ _ r0
       rw [hUx] at HPu HMp z0
       have z5 := HPu.out.e5
       have HUx := Lib.hid hUx
       clear hUx
       have hk2 : atR (wantI F) m0 Kj ix ⟨vk, vs, vi0, keys, rts⟩ = if vis < 0 then (Kj.put ix vis).fail ix 4 else Kj.put ix vis := by
        unfold atR
        rw [if_neg (by show ¬ vk = 19; omega), if_pos h5]
        simp only [hvis]
       have Hk2 := Lib.hid hk2
       have HFl := Lib.hid (wfail_any wb G base no fo n nc k fc (Kj.put ix vis) b1 b2 d1 d2 ix 4 _ HPu.out)
       clear hk2 hov hvis
       by_cases hv0 : vis < 0
       ·rcases h5 with h | h
        ·subst h
         go_wp2_with fail
         refine wp_region_held_drew (S := fun W => W.cell? ⟨wb, 5, none⟩ = some (.slice (some ⟨G, 0, none⟩) n n) ∧ W.cell? ⟨w.heap.size, 1, none⟩ = some (.string ⟨vs.toArray⟩)) (by kernel_rfl) ⟨e5, x1⟩ (fun hH => ?_)
         refine take_yes (i := 0) (d := 59) (v := ?_) rfl rfl (by kernel_rfl) (by kernel_rfl) (by kernel_rfl) (fun _ _ _ h => h) (by rfl) ?_ (by assumption) ?_
         rotate_left 1
         ·intro w hSw
          obtain ⟨z0, z1⟩ := hSw
          go_simp
          with_reducible rfl
         try simp only [Act.put, List.setIfInBounds_toArray, List.set_cons_zero, List.set_cons_succ]
         refine take_yes (i := 1) (d := 60) (v := ?_) rfl rfl (by kernel_rfl) (by kernel_rfl) (by kernel_rfl) (fun _ _ _ h => h) (by rfl) ?_ (by assumption) ?_
         rotate_left 1
         ·intro w hSw
          obtain ⟨z0, z1⟩ := hSw
          go_simp
          with_reducible rfl
         try simp only [Act.put, List.setIfInBounds_toArray, List.set_cons_zero, List.set_cons_succ]
         refine take_yes (i := 2) (d := 61) (v := ?_) rfl rfl (by kernel_rfl) (by kernel_rfl) (by kernel_rfl) (fun _ _ _ h => h) (by rfl) ?_ (by assumption) ?_
         rotate_left 1
         ·intro w hSw
          obtain ⟨z0, z1⟩ := hSw
          go_simp
          with_reducible rfl
         try simp only [Act.put, List.setIfInBounds_toArray, List.set_cons_zero, List.set_cons_succ]
         refine take_yes (i := 3) (d := 62) (v := ?_) rfl rfl (by kernel_rfl) (by kernel_rfl) (by kernel_rfl) (fun _ _ _ h => h) (by rfl) ?_ (by assumption) ?_
         rotate_left 1
         ·intro w hSw
          obtain ⟨z0, z1⟩ := hSw
          go_simp
          with_reducible rfl
         try simp only [Act.put, List.setIfInBounds_toArray, List.set_cons_zero, List.set_cons_succ]
         refine take_yes (i := 4) (d := 63) (v := ?_) rfl rfl (by kernel_rfl) (by kernel_rfl) (by kernel_rfl) (fun _ _ _ h => h) (by rfl) ?_ (by assumption) ?_
         rotate_left 1
         ·intro w hSw
          obtain ⟨z0, z1⟩ := hSw
          go_simp
          with_reducible rfl
         try simp only [Act.put, List.setIfInBounds_toArray, List.set_cons_zero, List.set_cons_succ]
         refine take_yes (i := 5) (d := 64) (v := ?_) rfl rfl (by kernel_rfl) (by kernel_rfl) (by kernel_rfl) (fun _ _ _ h => h) (by rfl) ?_ (by assumption) ?_
         rotate_left 1
         ·intro w hSw
          obtain ⟨z0, z1⟩ := hSw
          go_simp
          with_reducible rfl
         try simp only [Act.put, List.setIfInBounds_toArray, List.set_cons_zero, List.set_cons_succ]
         refine take_yes (i := 6) (d := 65) (v := ?_) rfl rfl (by kernel_rfl) (by kernel_rfl) (by kernel_rfl) (fun _ _ _ h => h) (by rfl) ?_ (by assumption) ?_
         rotate_left 1
         ·intro w hSw
          obtain ⟨z0, z1⟩ := hSw
          go_simp
          with_reducible rfl
         try simp only [Act.put, List.setIfInBounds_toArray, List.set_cons_zero, List.set_cons_succ]
         refine take_yes (i := 7) (d := 66) (v := ?_) rfl rfl (by kernel_rfl) (by kernel_rfl) (by kernel_rfl) (fun _ _ _ h => h) (by rfl) ?_ (by assumption) ?_
         rotate_left 1
         ·intro w hSw
          obtain ⟨z0, z1⟩ := hSw
          go_simp
          with_reducible rfl
         try simp only [Act.put, List.setIfInBounds_toArray, List.set_cons_zero, List.set_cons_succ]
         refine wpAnyH_ready (rs := [8]) (by kernel_rfl) (by simp) ?_
         refine AllReadyH.cons rfl (fun K hK => ?_) AllReadyH.nil
         go_simp
         refine HVi.out.mono ?_
         rintro e w8 ⟨rfl, rfl⟩
         clear hH
         refine hK.out _ _ ⟨show wr.drew.cell? _ = _ from e5, show wr.drew.cell? _ = _ from x1⟩ (fun hH => ?_)
         clear hK K
         try simp only [Act.put, List.setIfInBounds_toArray, List.set_cons_zero, List.set_cons_succ]
         refine take_yes (i := 9) (d := 68) (v := ?_) rfl rfl (by kernel_rfl) (by kernel_rfl) (by kernel_rfl) (fun _ _ _ h => h) (by rfl) ?_ (by assumption) ?_
         rotate_left 1
         ·intro w hSw
          obtain ⟨z0, z1⟩ := hSw
          go_simp
          with_reducible rfl
         try simp only [Act.put, List.setIfInBounds_toArray, List.set_cons_zero, List.set_cons_succ]
         refine wpAnyH_ready (rs := [10]) (by kernel_rfl) (by simp) ?_
         refine AllReadyH.cons rfl (fun K hK => ?_) AllReadyH.nil
         have r0d : wr.drew.cell? ⟨G, ix, none⟩ = some (.int .i64 ov) := r0
         have r1d : wr.drew.frozen? ⟨G, ix, none⟩ = false := r1
         go_simp
         refine hK.out _ _ ⟨(World.cell?_setCell_other _ _ _ _ (by intro e; exact HWj.out.wg (congrArg Addr.block e).symm)).trans (show wr.drew.cell? _ = _ from e5), (World.cell?_setCell_other _ _ _ _ (by intro e; exact hGx (congrArg Addr.block e))).trans (show wr.drew.cell? _ = _ from x1)⟩ (fun hH2 => ?_)
         clear hK K hH hH2 r0d r1d
         try simp only [Act.put, List.setIfInBounds_toArray, List.set_cons_zero, List.set_cons_succ]
         refine wpAnyH_done (by kernel_rfl) ?_ _
         rw [HUx.out]
         go_wp2_with fail
         refine HFl.out.mono ?_
         rintro e w9 ⟨rfl, k1, k2⟩
         go_wp2_with fail
         go_end0
         rw [Hk2.out, if_pos (by omega)]
         exact Hend.out w9 _ b1 d1 b2 d2 k1 (HMp.out.trans k2 (fun i h => Or.inl (Or.inl h))) HFj.out.1 HFj.out.2
        ·subst h
         go_wp2_with fail
         refine wp_region_held_drew (S := fun W => W.cell? ⟨wb, 5, none⟩ = some (.slice (some ⟨G, 0, none⟩) n n) ∧ W.cell? ⟨w.heap.size, 1, none⟩ = some (.string ⟨vs.toArray⟩)) (by kernel_rfl) ⟨e5, x1⟩ (fun hH => ?_)
         refine take_yes (i := 0) (d := 59) (v := ?_) rfl rfl (by kernel_rfl) (by kernel_rfl) (by kernel_rfl) (fun _ _ _ h => h) (by rfl) ?_ (by assumption) ?_
         rotate_left 1
         ·intro w hSw
          obtain ⟨z0, z1⟩ := hSw
          go_simp
          with_reducible rfl
         try simp only [Act.put, List.setIfInBounds_toArray, List.set_cons_zero, List.set_cons_succ]
         refine take_yes (i := 1) (d := 60) (v := ?_) rfl rfl (by kernel_rfl) (by kernel_rfl) (by kernel_rfl) (fun _ _ _ h => h) (by rfl) ?_ (by assumption) ?_
         rotate_left 1
         ·intro w hSw
          obtain ⟨z0, z1⟩ := hSw
          go_simp
          with_reducible rfl
         try simp only [Act.put, List.setIfInBounds_toArray, List.set_cons_zero, List.set_cons_succ]
         refine take_yes (i := 2) (d := 61) (v := ?_) rfl rfl (by kernel_rfl) (by kernel_rfl) (by kernel_rfl) (fun _ _ _ h => h) (by rfl) ?_ (by assumption) ?_
         rotate_left 1
         ·intro w hSw
          obtain ⟨z0, z1⟩ := hSw
          go_simp
          with_reducible rfl
         try simp only [Act.put, List.setIfInBounds_toArray, List.set_cons_zero, List.set_cons_succ]
         refine take_yes (i := 3) (d := 62) (v := ?_) rfl rfl (by kernel_rfl) (by kernel_rfl) (by kernel_rfl) (fun _ _ _ h => h) (by rfl) ?_ (by assumption) ?_
         rotate_left 1
         ·intro w hSw
          obtain ⟨z0, z1⟩ := hSw
          go_simp
          with_reducible rfl
         try simp only [Act.put, List.setIfInBounds_toArray, List.set_cons_zero, List.set_cons_succ]
         refine take_yes (i := 4) (d := 63) (v := ?_) rfl rfl (by kernel_rfl) (by kernel_rfl) (by kernel_rfl) (fun _ _ _ h => h) (by rfl) ?_ (by assumption) ?_
         rotate_left 1
         ·intro w hSw
          obtain ⟨z0, z1⟩ := hSw
          go_simp
          with_reducible rfl
         try simp only [Act.put, List.setIfInBounds_toArray, List.set_cons_zero, List.set_cons_succ]
         refine take_yes (i := 5) (d := 64) (v := ?_) rfl rfl (by kernel_rfl) (by kernel_rfl) (by kernel_rfl) (fun _ _ _ h => h) (by rfl) ?_ (by assumption) ?_
         rotate_left 1
         ·intro w hSw
          obtain ⟨z0, z1⟩ := hSw
          go_simp
          with_reducible rfl
         try simp only [Act.put, List.setIfInBounds_toArray, List.set_cons_zero, List.set_cons_succ]
         refine take_yes (i := 6) (d := 65) (v := ?_) rfl rfl (by kernel_rfl) (by kernel_rfl) (by kernel_rfl) (fun _ _ _ h => h) (by rfl) ?_ (by assumption) ?_
         rotate_left 1
         ·intro w hSw
          obtain ⟨z0, z1⟩ := hSw
          go_simp
          with_reducible rfl
         try simp only [Act.put, List.setIfInBounds_toArray, List.set_cons_zero, List.set_cons_succ]
         refine take_yes (i := 7) (d := 66) (v := ?_) rfl rfl (by kernel_rfl) (by kernel_rfl) (by kernel_rfl) (fun _ _ _ h => h) (by rfl) ?_ (by assumption) ?_
         rotate_left 1
         ·intro w hSw
          obtain ⟨z0, z1⟩ := hSw
          go_simp
          with_reducible rfl
         try simp only [Act.put, List.setIfInBounds_toArray, List.set_cons_zero, List.set_cons_succ]
         refine wpAnyH_ready (rs := [8]) (by kernel_rfl) (by simp) ?_
         refine AllReadyH.cons rfl (fun K hK => ?_) AllReadyH.nil
         go_simp
         refine HVi.out.mono ?_
         rintro e w8 ⟨rfl, rfl⟩
         clear hH
         refine hK.out _ _ ⟨show wr.drew.cell? _ = _ from e5, show wr.drew.cell? _ = _ from x1⟩ (fun hH => ?_)
         clear hK K
         try simp only [Act.put, List.setIfInBounds_toArray, List.set_cons_zero, List.set_cons_succ]
         refine take_yes (i := 9) (d := 68) (v := ?_) rfl rfl (by kernel_rfl) (by kernel_rfl) (by kernel_rfl) (fun _ _ _ h => h) (by rfl) ?_ (by assumption) ?_
         rotate_left 1
         ·intro w hSw
          obtain ⟨z0, z1⟩ := hSw
          go_simp
          with_reducible rfl
         try simp only [Act.put, List.setIfInBounds_toArray, List.set_cons_zero, List.set_cons_succ]
         refine wpAnyH_ready (rs := [10]) (by kernel_rfl) (by simp) ?_
         refine AllReadyH.cons rfl (fun K hK => ?_) AllReadyH.nil
         have r0d : wr.drew.cell? ⟨G, ix, none⟩ = some (.int .i64 ov) := r0
         have r1d : wr.drew.frozen? ⟨G, ix, none⟩ = false := r1
         go_simp
         refine hK.out _ _ ⟨(World.cell?_setCell_other _ _ _ _ (by intro e; exact HWj.out.wg (congrArg Addr.block e).symm)).trans (show wr.drew.cell? _ = _ from e5), (World.cell?_setCell_other _ _ _ _ (by intro e; exact hGx (congrArg Addr.block e))).trans (show wr.drew.cell? _ = _ from x1)⟩ (fun hH2 => ?_)
         clear hK K hH hH2 r0d r1d
         try simp only [Act.put, List.setIfInBounds_toArray, List.set_cons_zero, List.set_cons_succ]
         refine wpAnyH_done (by kernel_rfl) ?_ _
         rw [HUx.out]
         go_wp2_with fail
         refine HFl.out.mono ?_
         rintro e w9 ⟨rfl, k1, k2⟩
         go_wp2_with fail
         go_end0
         rw [Hk2.out, if_pos (by omega)]
         exact Hend.out w9 _ b1 d1 b2 d2 k1 (HMp.out.trans k2 (fun i h => Or.inl (Or.inl h))) HFj.out.1 HFj.out.2
       ·rcases h5 with h | h
        ·subst h
         go_wp2_with fail
         refine wp_region_held_drew (S := fun W => W.cell? ⟨wb, 5, none⟩ = some (.slice (some ⟨G, 0, none⟩) n n) ∧ W.cell? ⟨w.heap.size, 1, none⟩ = some (.string ⟨vs.toArray⟩)) (by kernel_rfl) ⟨e5, x1⟩ (fun hH => ?_)
         refine take_yes (i := 0) (d := 59) (v := ?_) rfl rfl (by kernel_rfl) (by kernel_rfl) (by kernel_rfl) (fun _ _ _ h => h) (by rfl) ?_ (by assumption) ?_
         rotate_left 1
         ·intro w hSw
          obtain ⟨z0, z1⟩ := hSw
          go_simp
          with_reducible rfl
         try simp only [Act.put, List.setIfInBounds_toArray, List.set_cons_zero, List.set_cons_succ]
         refine take_yes (i := 1) (d := 60) (v := ?_) rfl rfl (by kernel_rfl) (by kernel_rfl) (by kernel_rfl) (fun _ _ _ h => h) (by rfl) ?_ (by assumption) ?_
         rotate_left 1
         ·intro w hSw
          obtain ⟨z0, z1⟩ := hSw
          go_simp
          with_reducible rfl
         try simp only [Act.put, List.setIfInBounds_toArray, List.set_cons_zero, List.set_cons_succ]
         refine take_yes (i := 2) (d := 61) (v := ?_) rfl rfl (by kernel_rfl) (by kernel_rfl) (by kernel_rfl) (fun _ _ _ h => h) (by rfl) ?_ (by assumption) ?_
         rotate_left 1
         ·intro w hSw
          obtain ⟨z0, z1⟩ := hSw
          go_simp
          with_reducible rfl
         try simp only [Act.put, List.setIfInBounds_toArray, List.set_cons_zero, List.set_cons_succ]
         refine take_yes (i := 3) (d := 62) (v := ?_) rfl rfl (by kernel_rfl) (by kernel_rfl) (by kernel_rfl) (fun _ _ _ h => h) (by rfl) ?_ (by assumption) ?_
         rotate_left 1
         ·intro w hSw
          obtain ⟨z0, z1⟩ := hSw
          go_simp
          with_reducible rfl
         try simp only [Act.put, List.setIfInBounds_toArray, List.set_cons_zero, List.set_cons_succ]
         refine take_yes (i := 4) (d := 63) (v := ?_) rfl rfl (by kernel_rfl) (by kernel_rfl) (by kernel_rfl) (fun _ _ _ h => h) (by rfl) ?_ (by assumption) ?_
         rotate_left 1
         ·intro w hSw
          obtain ⟨z0, z1⟩ := hSw
          go_simp
          with_reducible rfl
         try simp only [Act.put, List.setIfInBounds_toArray, List.set_cons_zero, List.set_cons_succ]
         refine take_yes (i := 5) (d := 64) (v := ?_) rfl rfl (by kernel_rfl) (by kernel_rfl) (by kernel_rfl) (fun _ _ _ h => h) (by rfl) ?_ (by assumption) ?_
         rotate_left 1
         ·intro w hSw
          obtain ⟨z0, z1⟩ := hSw
          go_simp
          with_reducible rfl
         try simp only [Act.put, List.setIfInBounds_toArray, List.set_cons_zero, List.set_cons_succ]
         refine take_yes (i := 6) (d := 65) (v := ?_) rfl rfl (by kernel_rfl) (by kernel_rfl) (by kernel_rfl) (fun _ _ _ h => h) (by rfl) ?_ (by assumption) ?_
         rotate_left 1
         ·intro w hSw
          obtain ⟨z0, z1⟩ := hSw
          go_simp
          with_reducible rfl
         try simp only [Act.put, List.setIfInBounds_toArray, List.set_cons_zero, List.set_cons_succ]
         refine take_yes (i := 7) (d := 66) (v := ?_) rfl rfl (by kernel_rfl) (by kernel_rfl) (by kernel_rfl) (fun _ _ _ h => h) (by rfl) ?_ (by assumption) ?_
         rotate_left 1
         ·intro w hSw
          obtain ⟨z0, z1⟩ := hSw
          go_simp
          with_reducible rfl
         try simp only [Act.put, List.setIfInBounds_toArray, List.set_cons_zero, List.set_cons_succ]
         refine wpAnyH_ready (rs := [8]) (by kernel_rfl) (by simp) ?_
         refine AllReadyH.cons rfl (fun K hK => ?_) AllReadyH.nil
         go_simp
         refine HVi.out.mono ?_
         rintro e w8 ⟨rfl, rfl⟩
         clear hH
         refine hK.out _ _ ⟨show wr.drew.cell? _ = _ from e5, show wr.drew.cell? _ = _ from x1⟩ (fun hH => ?_)
         clear hK K
         try simp only [Act.put, List.setIfInBounds_toArray, List.set_cons_zero, List.set_cons_succ]
         refine take_yes (i := 9) (d := 68) (v := ?_) rfl rfl (by kernel_rfl) (by kernel_rfl) (by kernel_rfl) (fun _ _ _ h => h) (by rfl) ?_ (by assumption) ?_
         rotate_left 1
         ·intro w hSw
          obtain ⟨z0, z1⟩ := hSw
          go_simp
          with_reducible rfl
         try simp only [Act.put, List.setIfInBounds_toArray, List.set_cons_zero, List.set_cons_succ]
         refine wpAnyH_ready (rs := [10]) (by kernel_rfl) (by simp) ?_
         refine AllReadyH.cons rfl (fun K hK => ?_) AllReadyH.nil
         have r0d : wr.drew.cell? ⟨G, ix, none⟩ = some (.int .i64 ov) := r0
         have r1d : wr.drew.frozen? ⟨G, ix, none⟩ = false := r1
         go_simp
         refine hK.out _ _ ⟨(World.cell?_setCell_other _ _ _ _ (by intro e; exact HWj.out.wg (congrArg Addr.block e).symm)).trans (show wr.drew.cell? _ = _ from e5), (World.cell?_setCell_other _ _ _ _ (by intro e; exact hGx (congrArg Addr.block e))).trans (show wr.drew.cell? _ = _ from x1)⟩ (fun hH2 => ?_)
         clear hK K hH hH2 r0d r1d
         try simp only [Act.put, List.setIfInBounds_toArray, List.set_cons_zero, List.set_cons_succ]
         refine wpAnyH_done (by kernel_rfl) ?_ _
         rw [HUx.out]
         go_wp2_with fail
         go_end0
         rw [Hk2.out, if_neg (by omega)]
         exact Hend.out _ _ b1 d1 b2 d2 HPu.out HMp.out HFj.out.1 HFj.out.2
        ·subst h
         go_wp2_with fail
         refine wp_region_held_drew (S := fun W => W.cell? ⟨wb, 5, none⟩ = some (.slice (some ⟨G, 0, none⟩) n n) ∧ W.cell? ⟨w.heap.size, 1, none⟩ = some (.string ⟨vs.toArray⟩)) (by kernel_rfl) ⟨e5, x1⟩ (fun hH => ?_)
         refine take_yes (i := 0) (d := 59) (v := ?_) rfl rfl (by kernel_rfl) (by kernel_rfl) (by kernel_rfl) (fun _ _ _ h => h) (by rfl) ?_ (by assumption) ?_
         rotate_left 1
         ·intro w hSw
          obtain ⟨z0, z1⟩ := hSw
          go_simp
          with_reducible rfl
         try simp only [Act.put, List.setIfInBounds_toArray, List.set_cons_zero, List.set_cons_succ]
         refine take_yes (i := 1) (d := 60) (v := ?_) rfl rfl (by kernel_rfl) (by kernel_rfl) (by kernel_rfl) (fun _ _ _ h => h) (by rfl) ?_ (by assumption) ?_
         rotate_left 1
         ·intro w hSw
          obtain ⟨z0, z1⟩ := hSw
          go_simp
          with_reducible rfl
         try simp only [Act.put, List.setIfInBounds_toArray, List.set_cons_zero, List.set_cons_succ]
         refine take_yes (i := 2) (d := 61) (v := ?_) rfl rfl (by kernel_rfl) (by kernel_rfl) (by kernel_rfl) (fun _ _ _ h => h) (by rfl) ?_ (by assumption) ?_
         rotate_left 1
         ·intro w hSw
          obtain ⟨z0, z1⟩ := hSw
          go_simp
          with_reducible rfl
         try simp only [Act.put, List.setIfInBounds_toArray, List.set_cons_zero, List.set_cons_succ]
         refine take_yes (i := 3) (d := 62) (v := ?_) rfl rfl (by kernel_rfl) (by kernel_rfl) (by kernel_rfl) (fun _ _ _ h => h) (by rfl) ?_ (by assumption) ?_
         rotate_left 1
         ·intro w hSw
          obtain ⟨z0, z1⟩ := hSw
          go_simp
          with_reducible rfl
         try simp only [Act.put, List.setIfInBounds_toArray, List.set_cons_zero, List.set_cons_succ]
         refine take_yes (i := 4) (d := 63) (v := ?_) rfl rfl (by kernel_rfl) (by kernel_rfl) (by kernel_rfl) (fun _ _ _ h => h) (by rfl) ?_ (by assumption) ?_
         rotate_left 1
         ·intro w hSw
          obtain ⟨z0, z1⟩ := hSw
          go_simp
          with_reducible rfl
         try simp only [Act.put, List.setIfInBounds_toArray, List.set_cons_zero, List.set_cons_succ]
         refine take_yes (i := 5) (d := 64) (v := ?_) rfl rfl (by kernel_rfl) (by kernel_rfl) (by kernel_rfl) (fun _ _ _ h => h) (by rfl) ?_ (by assumption) ?_
         rotate_left 1
         ·intro w hSw
          obtain ⟨z0, z1⟩ := hSw
          go_simp
          with_reducible rfl
         try simp only [Act.put, List.setIfInBounds_toArray, List.set_cons_zero, List.set_cons_succ]
         refine take_yes (i := 6) (d := 65) (v := ?_) rfl rfl (by kernel_rfl) (by kernel_rfl) (by kernel_rfl) (fun _ _ _ h => h) (by rfl) ?_ (by assumption) ?_
         rotate_left 1
         ·intro w hSw
          obtain ⟨z0, z1⟩ := hSw
          go_simp
          with_reducible rfl
         try simp only [Act.put, List.setIfInBounds_toArray, List.set_cons_zero, List.set_cons_succ]
         refine take_yes (i := 7) (d := 66) (v := ?_) rfl rfl (by kernel_rfl) (by kernel_rfl) (by kernel_rfl) (fun _ _ _ h => h) (by rfl) ?_ (by assumption) ?_
         rotate_left 1
         ·intro w hSw
          obtain ⟨z0, z1⟩ := hSw
          go_simp
          with_reducible rfl
         try simp only [Act.put, List.setIfInBounds_toArray, List.set_cons_zero, List.set_cons_succ]
         refine wpAnyH_ready (rs := [8]) (by kernel_rfl) (by simp) ?_
         refine AllReadyH.cons rfl (fun K hK => ?_) AllReadyH.nil
         go_simp
         refine HVi.out.mono ?_
         rintro e w8 ⟨rfl, rfl⟩
         clear hH
         refine hK.out _ _ ⟨show wr.drew.cell? _ = _ from e5, show wr.drew.cell? _ = _ from x1⟩ (fun hH => ?_)
         clear hK K
         try simp only [Act.put, List.setIfInBounds_toArray, List.set_cons_zero, List.set_cons_succ]
         refine take_yes (i := 9) (d := 68) (v := ?_) rfl rfl (by kernel_rfl) (by kernel_rfl) (by kernel_rfl) (fun _ _ _ h => h) (by rfl) ?_ (by assumption) ?_
         rotate_left 1
         ·intro w hSw
          obtain ⟨z0, z1⟩ := hSw
          go_simp
          with_reducible rfl
         try simp only [Act.put, List.setIfInBounds_toArray, List.set_cons_zero, List.set_cons_succ]
         refine wpAnyH_ready (rs := [10]) (by kernel_rfl) (by simp) ?_
         refine AllReadyH.cons rfl (fun K hK => ?_) AllReadyH.nil
         have r0d : wr.drew.cell? ⟨G, ix, none⟩ = some (.int .i64 ov) := r0
         have r1d : wr.drew.frozen? ⟨G, ix, none⟩ = false := r1
         go_simp
         refine hK.out _ _ ⟨(World.cell?_setCell_other _ _ _ _ (by intro e; exact HWj.out.wg (congrArg Addr.block e).symm)).trans (show wr.drew.cell? _ = _ from e5), (World.cell?_setCell_other _ _ _ _ (by intro e; exact hGx (congrArg Addr.block e))).trans (show wr.drew.cell? _ = _ from x1)⟩ (fun hH2 => ?_)
         clear hK K hH hH2 r0d r1d
         try simp only [Act.put, List.setIfInBounds_toArray, List.set_cons_zero, List.set_cons_succ]
         refine wpAnyH_done (by kernel_rfl) ?_ _
         rw [HUx.out]
         go_wp2_with fail
         go_end0
         rw [Hk2.out, if_neg (by omega)]
         exact Hend.out _ _ b1 d1 b2 d2 HPu.out HMp.out HFj.out.1 HFj.out.2
      ·by_cases h13 : vk = 13
       ·have hgn0 := Hgr.out.nm
        have HVi := Lib.hid (wvisible_any wb G base no fo n nc k fc Kj b1 b2 d1 d2 vs (by omega) Hl.out wr HWj.out)
        obtain ⟨vis, hvis⟩ : ∃ vis, visI Kj.nms Kj.sls vs = vis := ⟨_, rfl⟩
        rw [hvis] at HVi
        have e4 := HWj.out.e4
        have HFl := Lib.hid (fun (er : Int) => wfail_any wb G base no fo n nc k fc Kj b1 b2 d1 d2 ix er wr HWj.out)
        have b19 : (vk == 19) = false := by rw [h13]; rfl
        by_cases hv0 : 0 ≤ vis
        ·subst h13
         go_wp2_with fail
         refine HVi.out.mono ?_
         rintro e w7 ⟨rfl, rfl⟩
         go_wp2_with fail
         refine (HFl.out 6).mono ?_
         rintro e w8 ⟨rfl, k1f, k2f⟩
         obtain ⟨W2, hW2e⟩ : ∃ W2, w8 = W2 := ⟨_, rfl⟩
         obtain ⟨K2, hK2e⟩ : ∃ K2, (Kj.fail ix 6) = K2 := ⟨_, rfl⟩
         have HW2 := Lib.hid (show WkAt W2 wb G base no fo n nc k fc K2 b1 d1 b2 d2 by rw [← hW2e, ← hK2e]; exact k1f)
         have HM2 := Lib.hid (show Mod (WkO wb G a1 a2) V W2 by rw [← hW2e]; exact HMj.out.trans k2f (fun i h => Or.inl (Or.inl h)))
         have hparts : K2.nms = Kj.nms ∧ K2.sls = Kj.sls ∧ K2.nx = Kj.nx := by rw [← hK2e]; exact fail_parts Kj ix 6
         have Hk2 := Lib.hid (show atR (wantI F) m0 Kj ix ⟨13, vs, vi0, keys, rts⟩ = (K2.decl vs).put ix (Kj.nx : Int) by
          rw [← hK2e]
          unfold atR
          rw [if_neg (by show ¬ (13 : Int) = 19; omega), if_neg (by show ¬ ((13 : Int) = 5 ∨ (13 : Int) = 14); omega), if_pos (by first | rfl | exact h13)]
          simp only [hvis]
          rw [if_pos hv0]
          rfl)
         have hnx2 := hparts.2.2
         have hgn := Hgr.out.nm
         have hgx := Hgr.out.nx
         have z5 := HW2.out.e5
         have z1 := (HY.out W2 HM2.out).2.1
         have hbW2 : base ≤ W2.drew.heap.size := by have h1 : V.heap.size ≤ W2.heap.size := HM2.out.size; have h2 := Hz.out; have h3 := HBs.out; show base ≤ W2.heap.size; omega
         have HDc := Lib.hid (wdeclare_any wb G base no fo n nc k fc K2 b1 b2 d1 d2 vs (by rw [hparts.1]; omega) (by rw [hparts.2.1, Hl.out]; omega) (by rw [hnx2]; omega) W2.drew hbW2 (HW2.out.bel (Below.drew (Bel.refl _))))
         unfold DPost at HDc
         rw [hnx2] at HDc
         have hGx : ¬ G = w.heap.size := by have := HW2.out.glt; have := HBs.out; omega
         have hxw : ¬ WkO wb G b1 b2 w.heap.size := fun h => by
          have h3 := HBs.out
          rcases h with q | q | q | q
          ·have := HW2.out.wlt; omega
          ·omega
          ·rcases HFj.out.1 _ q with q | q
           ·exact hxb (Or.inr (Or.inr (Or.inl q)))
           ·have := Hz.out; omega
          ·rcases HFj.out.2 _ q with q | q
           ·exact hxb (Or.inr (Or.inr (Or.inr q)))
           ·have := Hz.out; omega
         have hW2q := hW2e.symm
         clear hW2e
         subst hW2q
         clear hK2e hparts hvis
         go_wp2_with fail
         refine wp_region_held_drew (S := fun W => W.cell? ⟨wb, 5, none⟩ = some (.slice (some ⟨G, 0, none⟩) n n) ∧ W.cell? ⟨w.heap.size, 1, none⟩ = some (.string ⟨vs.toArray⟩)) (by kernel_rfl) ⟨z5, z1⟩ (fun hH => ?_)
         refine take_yes (i := 0) (d := 98) (v := ?_) rfl rfl (by kernel_rfl) (by kernel_rfl) (by kernel_rfl) (fun _ _ _ h => h) (by rfl) ?_ (by assumption) ?_
         rotate_left 1
         ·intro w hSw
          obtain ⟨z0, z1⟩ := hSw
          go_simp
          with_reducible rfl
         try simp only [Act.put, List.setIfInBounds_toArray, List.set_cons_zero, List.set_cons_succ]
         refine take_yes (i := 1) (d := 99) (v := ?_) rfl rfl (by kernel_rfl) (by kernel_rfl) (by kernel_rfl) (fun _ _ _ h => h) (by rfl) ?_ (by assumption) ?_
         rotate_left 1
         ·intro w hSw
          obtain ⟨z0, z1⟩ := hSw
          go_simp
          with_reducible rfl
         try simp only [Act.put, List.setIfInBounds_toArray, List.set_cons_zero, List.set_cons_succ]
         refine take_yes (i := 2) (d := 100) (v := ?_) rfl rfl (by kernel_rfl) (by kernel_rfl) (by kernel_rfl) (fun _ _ _ h => h) (by rfl) ?_ (by assumption) ?_
         rotate_left 1
         ·intro w hSw
          obtain ⟨z0, z1⟩ := hSw
          go_simp
          with_reducible rfl
         try simp only [Act.put, List.setIfInBounds_toArray, List.set_cons_zero, List.set_cons_succ]
         refine take_yes (i := 3) (d := 101) (v := ?_) rfl rfl (by kernel_rfl) (by kernel_rfl) (by kernel_rfl) (fun _ _ _ h => h) (by rfl) ?_ (by assumption) ?_
         rotate_left 1
         ·intro w hSw
          obtain ⟨z0, z1⟩ := hSw
          go_simp
          with_reducible rfl
         try simp only [Act.put, List.setIfInBounds_toArray, List.set_cons_zero, List.set_cons_succ]
         refine take_yes (i := 4) (d := 102) (v := ?_) rfl rfl (by kernel_rfl) (by kernel_rfl) (by kernel_rfl) (fun _ _ _ h => h) (by rfl) ?_ (by assumption) ?_
         rotate_left 1
         ·intro w hSw
          obtain ⟨z0, z1⟩ := hSw
          go_simp
          with_reducible rfl
         try simp only [Act.put, List.setIfInBounds_toArray, List.set_cons_zero, List.set_cons_succ]
         refine take_yes (i := 5) (d := 103) (v := ?_) rfl rfl (by kernel_rfl) (by kernel_rfl) (by kernel_rfl) (fun _ _ _ h => h) (by rfl) ?_ (by assumption) ?_
         rotate_left 1
         ·intro w hSw
          obtain ⟨z0, z1⟩ := hSw
          go_simp
          with_reducible rfl
         try simp only [Act.put, List.setIfInBounds_toArray, List.set_cons_zero, List.set_cons_succ]
         refine take_yes (i := 6) (d := 104) (v := ?_) rfl rfl (by kernel_rfl) (by kernel_rfl) (by kernel_rfl) (fun _ _ _ h => h) (by rfl) ?_ (by assumption) ?_
         rotate_left 1
         ·intro w hSw
          obtain ⟨z0, z1⟩ := hSw
          go_simp
          with_reducible rfl
         try simp only [Act.put, List.setIfInBounds_toArray, List.set_cons_zero, List.set_cons_succ]
         refine take_yes (i := 7) (d := 105) (v := ?_) rfl rfl (by kernel_rfl) (by kernel_rfl) (by kernel_rfl) (fun _ _ _ h => h) (by rfl) ?_ (by assumption) ?_
         rotate_left 1
         ·intro w hSw
          obtain ⟨z0, z1⟩ := hSw
          go_simp
          with_reducible rfl
         try simp only [Act.put, List.setIfInBounds_toArray, List.set_cons_zero, List.set_cons_succ]
         refine wpAnyH_ready (rs := [8]) (by kernel_rfl) (by simp) ?_
         refine AllReadyH.cons rfl (fun K hK => ?_) AllReadyH.nil
         go_simp
         refine HDc.out.mono ?_
         rintro e w9 ⟨e1, f1, e2, f2, rfl, ⟨k1, kf1, kf2⟩, k2⟩
         rw [hnx2] at *
         have k5 := k1.e5
         have kx := k2.cell (show W2.drew.cell? _ = _ from z1) hxw
         have K1 := Lib.hid (k1.put ix (Kj.nx : Int))
         have KF := Lib.hid (And.intro kf1 kf2)
         have K2m := Lib.hid k2
         obtain ⟨r0, r1⟩ := k1.row ix (by rw [k1.len]; exact hin)
         obtain ⟨ov, hov⟩ : ∃ ov, (K2.decl vs).sl[ix]'(by rw [k1.len]; exact hin) = ov := ⟨_, rfl⟩
         rw [hov] at r0
         have kwg := k1.wg
         clear hH k1 kf1 kf2 k2 hov
         refine hK.out _ _ ⟨k5, kx⟩ (fun hH => ?_)
         clear hK K
         try simp only [Act.put, List.setIfInBounds_toArray, List.set_cons_zero, List.set_cons_succ]
         refine take_yes (i := 9) (d := 107) (v := ?_) rfl rfl (by kernel_rfl) (by kernel_rfl) (by kernel_rfl) (fun _ _ _ h => h) (by rfl) ?_ (by assumption) ?_
         rotate_left 1
         ·intro w hSw
          obtain ⟨z0, z1⟩ := hSw
          go_simp
          with_reducible rfl
         try simp only [Act.put, List.setIfInBounds_toArray, List.set_cons_zero, List.set_cons_succ]
         refine wpAnyH_ready (rs := [10]) (by kernel_rfl) (by simp) ?_
         refine AllReadyH.cons rfl (fun K hK => ?_) AllReadyH.nil
         go_simp
         refine hK.out _ _ ⟨(World.cell?_setCell_other _ _ _ _ (by intro e; exact kwg (congrArg Addr.block e).symm)).trans k5, (World.cell?_setCell_other _ _ _ _ (by intro e; exact hGx (congrArg Addr.block e))).trans kx⟩ (fun hH2 => ?_)
         clear hK K hH hH2
         try simp only [Act.put, List.setIfInBounds_toArray, List.set_cons_zero, List.set_cons_succ]
         refine wpAnyH_done (by kernel_rfl) ?_ _
         go_wp2_with fail
         go_end0
         rw [Hk2.out]
         have hW2 := HM2.out.size
         refine Hend.out _ _ e1 f1 e2 f2 K1.out ((HM2.out.drew.trans K2m.out (fun i hi => ?_)).trans ((Mod.refl (fun i => i = G) w9).setCell (p := ⟨G, ix, none⟩) (Or.inl rfl) _) (fun i h => Or.inl (Or.inr (Or.inl h)))) (fun i h => ?_) (fun i h => ?_)
         ·rcases hi with q | q | q | q
          ·exact Or.inl (Or.inl q)
          ·exact Or.inl (Or.inr (Or.inl q))
          ·exact (HFj.out.1 i q).imp (fun h => Or.inr (Or.inr (Or.inl h))) (fun h => h)
          ·exact (HFj.out.2 i q).imp (fun h => Or.inr (Or.inr (Or.inr h))) (fun h => h)
         ·exact (KF.out.1 i h).elim (fun h => HFj.out.1 i h) (fun h => Or.inr (Nat.le_trans hW2 h))
         ·exact (KF.out.2 i h).elim (fun h => HFj.out.2 i h) (fun h => Or.inr (Nat.le_trans hW2 h))
        ·by_cases hx0 : 32 ≤ Kj.nx
         ·have hx1 : (32 : Int) ≤ (Kj.nx : Int) := by omega
          subst h13
          go_wp2_with fail
          refine HVi.out.mono ?_
          rintro e w7 ⟨rfl, rfl⟩
          go_wp2_with fail
          refine (HFl.out 3).mono ?_
          rintro e w8 ⟨rfl, k1f, k2f⟩
          obtain ⟨W2, hW2e⟩ : ∃ W2, w8 = W2 := ⟨_, rfl⟩
          obtain ⟨K2, hK2e⟩ : ∃ K2, (Kj.fail ix 3) = K2 := ⟨_, rfl⟩
          have HW2 := Lib.hid (show WkAt W2 wb G base no fo n nc k fc K2 b1 d1 b2 d2 by rw [← hW2e, ← hK2e]; exact k1f)
          have HM2 := Lib.hid (show Mod (WkO wb G a1 a2) V W2 by rw [← hW2e]; exact HMj.out.trans k2f (fun i h => Or.inl (Or.inl h)))
          have hparts : K2.nms = Kj.nms ∧ K2.sls = Kj.sls ∧ K2.nx = Kj.nx := by rw [← hK2e]; exact fail_parts Kj ix 3
          have Hk2 := Lib.hid (show atR (wantI F) m0 Kj ix ⟨13, vs, vi0, keys, rts⟩ = (K2.decl vs).put ix (Kj.nx : Int) by
           rw [← hK2e]
           unfold atR
           rw [if_neg (by show ¬ (13 : Int) = 19; omega), if_neg (by show ¬ ((13 : Int) = 5 ∨ (13 : Int) = 14); omega), if_pos (by first | rfl | exact h13)]
           simp only [hvis]
           rw [if_neg (by omega), if_pos hx0]
           rfl)
          have hnx2 := hparts.2.2
          have hgn := Hgr.out.nm
          have hgx := Hgr.out.nx
          have z5 := HW2.out.e5
          have z1 := (HY.out W2 HM2.out).2.1
          have hbW2 : base ≤ W2.drew.heap.size := by have h1 : V.heap.size ≤ W2.heap.size := HM2.out.size; have h2 := Hz.out; have h3 := HBs.out; show base ≤ W2.heap.size; omega
          have HDc := Lib.hid (wdeclare_any wb G base no fo n nc k fc K2 b1 b2 d1 d2 vs (by rw [hparts.1]; omega) (by rw [hparts.2.1, Hl.out]; omega) (by rw [hnx2]; omega) W2.drew hbW2 (HW2.out.bel (Below.drew (Bel.refl _))))
          unfold DPost at HDc
          rw [hnx2] at HDc
          have hGx : ¬ G = w.heap.size := by have := HW2.out.glt; have := HBs.out; omega
          have hxw : ¬ WkO wb G b1 b2 w.heap.size := fun h => by
           have h3 := HBs.out
           rcases h with q | q | q | q
           ·have := HW2.out.wlt; omega
           ·omega
           ·rcases HFj.out.1 _ q with q | q
            ·exact hxb (Or.inr (Or.inr (Or.inl q)))
            ·have := Hz.out; omega
           ·rcases HFj.out.2 _ q with q | q
            ·exact hxb (Or.inr (Or.inr (Or.inr q)))
            ·have := Hz.out; omega
          have hW2q := hW2e.symm
          clear hW2e
          subst hW2q
          clear hK2e hparts hvis
          go_wp2_with fail
          refine wp_region_held_drew (S := fun W => W.cell? ⟨wb, 5, none⟩ = some (.slice (some ⟨G, 0, none⟩) n n) ∧ W.cell? ⟨w.heap.size, 1, none⟩ = some (.string ⟨vs.toArray⟩)) (by kernel_rfl) ⟨z5, z1⟩ (fun hH => ?_)
          refine take_yes (i := 0) (d := 98) (v := ?_) rfl rfl (by kernel_rfl) (by kernel_rfl) (by kernel_rfl) (fun _ _ _ h => h) (by rfl) ?_ (by assumption) ?_
          rotate_left 1
          ·intro w hSw
           obtain ⟨z0, z1⟩ := hSw
           go_simp
           with_reducible rfl
          try simp only [Act.put, List.setIfInBounds_toArray, List.set_cons_zero, List.set_cons_succ]
          refine take_yes (i := 1) (d := 99) (v := ?_) rfl rfl (by kernel_rfl) (by kernel_rfl) (by kernel_rfl) (fun _ _ _ h => h) (by rfl) ?_ (by assumption) ?_
          rotate_left 1
          ·intro w hSw
           obtain ⟨z0, z1⟩ := hSw
           go_simp
           with_reducible rfl
          try simp only [Act.put, List.setIfInBounds_toArray, List.set_cons_zero, List.set_cons_succ]
          refine take_yes (i := 2) (d := 100) (v := ?_) rfl rfl (by kernel_rfl) (by kernel_rfl) (by kernel_rfl) (fun _ _ _ h => h) (by rfl) ?_ (by assumption) ?_
          rotate_left 1
          ·intro w hSw
           obtain ⟨z0, z1⟩ := hSw
           go_simp
           with_reducible rfl
          try simp only [Act.put, List.setIfInBounds_toArray, List.set_cons_zero, List.set_cons_succ]
          refine take_yes (i := 3) (d := 101) (v := ?_) rfl rfl (by kernel_rfl) (by kernel_rfl) (by kernel_rfl) (fun _ _ _ h => h) (by rfl) ?_ (by assumption) ?_
          rotate_left 1
          ·intro w hSw
           obtain ⟨z0, z1⟩ := hSw
           go_simp
           with_reducible rfl
          try simp only [Act.put, List.setIfInBounds_toArray, List.set_cons_zero, List.set_cons_succ]
          refine take_yes (i := 4) (d := 102) (v := ?_) rfl rfl (by kernel_rfl) (by kernel_rfl) (by kernel_rfl) (fun _ _ _ h => h) (by rfl) ?_ (by assumption) ?_
          rotate_left 1
          ·intro w hSw
           obtain ⟨z0, z1⟩ := hSw
           go_simp
           with_reducible rfl
          try simp only [Act.put, List.setIfInBounds_toArray, List.set_cons_zero, List.set_cons_succ]
          refine take_yes (i := 5) (d := 103) (v := ?_) rfl rfl (by kernel_rfl) (by kernel_rfl) (by kernel_rfl) (fun _ _ _ h => h) (by rfl) ?_ (by assumption) ?_
          rotate_left 1
          ·intro w hSw
           obtain ⟨z0, z1⟩ := hSw
           go_simp
           with_reducible rfl
          try simp only [Act.put, List.setIfInBounds_toArray, List.set_cons_zero, List.set_cons_succ]
          refine take_yes (i := 6) (d := 104) (v := ?_) rfl rfl (by kernel_rfl) (by kernel_rfl) (by kernel_rfl) (fun _ _ _ h => h) (by rfl) ?_ (by assumption) ?_
          rotate_left 1
          ·intro w hSw
           obtain ⟨z0, z1⟩ := hSw
           go_simp
           with_reducible rfl
          try simp only [Act.put, List.setIfInBounds_toArray, List.set_cons_zero, List.set_cons_succ]
          refine take_yes (i := 7) (d := 105) (v := ?_) rfl rfl (by kernel_rfl) (by kernel_rfl) (by kernel_rfl) (fun _ _ _ h => h) (by rfl) ?_ (by assumption) ?_
          rotate_left 1
          ·intro w hSw
           obtain ⟨z0, z1⟩ := hSw
           go_simp
           with_reducible rfl
          try simp only [Act.put, List.setIfInBounds_toArray, List.set_cons_zero, List.set_cons_succ]
          refine wpAnyH_ready (rs := [8]) (by kernel_rfl) (by simp) ?_
          refine AllReadyH.cons rfl (fun K hK => ?_) AllReadyH.nil
          go_simp
          refine HDc.out.mono ?_
          rintro e w9 ⟨e1, f1, e2, f2, rfl, ⟨k1, kf1, kf2⟩, k2⟩
          rw [hnx2] at *
          have k5 := k1.e5
          have kx := k2.cell (show W2.drew.cell? _ = _ from z1) hxw
          have K1 := Lib.hid (k1.put ix (Kj.nx : Int))
          have KF := Lib.hid (And.intro kf1 kf2)
          have K2m := Lib.hid k2
          obtain ⟨r0, r1⟩ := k1.row ix (by rw [k1.len]; exact hin)
          obtain ⟨ov, hov⟩ : ∃ ov, (K2.decl vs).sl[ix]'(by rw [k1.len]; exact hin) = ov := ⟨_, rfl⟩
          rw [hov] at r0
          have kwg := k1.wg
          clear hH k1 kf1 kf2 k2 hov
          refine hK.out _ _ ⟨k5, kx⟩ (fun hH => ?_)
          clear hK K
          try simp only [Act.put, List.setIfInBounds_toArray, List.set_cons_zero, List.set_cons_succ]
          refine take_yes (i := 9) (d := 107) (v := ?_) rfl rfl (by kernel_rfl) (by kernel_rfl) (by kernel_rfl) (fun _ _ _ h => h) (by rfl) ?_ (by assumption) ?_
          rotate_left 1
          ·intro w hSw
           obtain ⟨z0, z1⟩ := hSw
           go_simp
           with_reducible rfl
          try simp only [Act.put, List.setIfInBounds_toArray, List.set_cons_zero, List.set_cons_succ]
          refine wpAnyH_ready (rs := [10]) (by kernel_rfl) (by simp) ?_
          refine AllReadyH.cons rfl (fun K hK => ?_) AllReadyH.nil
          go_simp
          refine hK.out _ _ ⟨(World.cell?_setCell_other _ _ _ _ (by intro e; exact kwg (congrArg Addr.block e).symm)).trans k5, (World.cell?_setCell_other _ _ _ _ (by intro e; exact hGx (congrArg Addr.block e))).trans kx⟩ (fun hH2 => ?_)
          clear hK K hH hH2
          try simp only [Act.put, List.setIfInBounds_toArray, List.set_cons_zero, List.set_cons_succ]
          refine wpAnyH_done (by kernel_rfl) ?_ _
          go_wp2_with fail
          go_end0
          rw [Hk2.out]
          have hW2 := HM2.out.size
          refine Hend.out _ _ e1 f1 e2 f2 K1.out ((HM2.out.drew.trans K2m.out (fun i hi => ?_)).trans ((Mod.refl (fun i => i = G) w9).setCell (p := ⟨G, ix, none⟩) (Or.inl rfl) _) (fun i h => Or.inl (Or.inr (Or.inl h)))) (fun i h => ?_) (fun i h => ?_)
          ·rcases hi with q | q | q | q
           ·exact Or.inl (Or.inl q)
           ·exact Or.inl (Or.inr (Or.inl q))
           ·exact (HFj.out.1 i q).imp (fun h => Or.inr (Or.inr (Or.inl h))) (fun h => h)
           ·exact (HFj.out.2 i q).imp (fun h => Or.inr (Or.inr (Or.inr h))) (fun h => h)
          ·exact (KF.out.1 i h).elim (fun h => HFj.out.1 i h) (fun h => Or.inr (Nat.le_trans hW2 h))
          ·exact (KF.out.2 i h).elim (fun h => HFj.out.2 i h) (fun h => Or.inr (Nat.le_trans hW2 h))
         ·have hx1 : ¬ (32 : Int) ≤ (Kj.nx : Int) := by omega
          obtain ⟨W2, hW2e⟩ : ∃ W2, wr = W2 := ⟨_, rfl⟩
          obtain ⟨K2, hK2e⟩ : ∃ K2, Kj = K2 := ⟨_, rfl⟩
          have HW2 := Lib.hid (show WkAt W2 wb G base no fo n nc k fc K2 b1 d1 b2 d2 by rw [← hW2e, ← hK2e]; exact HWj.out)
          have HM2 := Lib.hid (show Mod (WkO wb G a1 a2) V W2 by rw [← hW2e]; exact HMj.out)
          have hparts : K2.nms = Kj.nms ∧ K2.sls = Kj.sls ∧ K2.nx = Kj.nx := by rw [← hK2e]; exact ⟨rfl, rfl, rfl⟩
          have Hk2 := Lib.hid (show atR (wantI F) m0 Kj ix ⟨vk, vs, vi0, keys, rts⟩ = (K2.decl vs).put ix (Kj.nx : Int) by
           rw [← hK2e]
           unfold atR
           rw [if_neg (by show ¬ vk = 19; omega), if_neg (by show ¬ (vk = 5 ∨ vk = 14); omega), if_pos (by first | rfl | exact h13)]
           simp only [hvis]
           rw [if_neg hv0, if_neg hx0]
           rfl)
          have hnx2 := hparts.2.2
          have hgn := Hgr.out.nm
          have hgx := Hgr.out.nx
          have z5 := HW2.out.e5
          have z1 := (HY.out W2 HM2.out).2.1
          have hbW2 : base ≤ W2.drew.heap.size := by have h1 : V.heap.size ≤ W2.heap.size := HM2.out.size; have h2 := Hz.out; have h3 := HBs.out; show base ≤ W2.heap.size; omega
          have HDc := Lib.hid (wdeclare_any wb G base no fo n nc k fc K2 b1 b2 d1 d2 vs (by rw [hparts.1]; omega) (by rw [hparts.2.1, Hl.out]; omega) (by rw [hnx2]; omega) W2.drew hbW2 (HW2.out.bel (Below.drew (Bel.refl _))))
          unfold DPost at HDc
          rw [hnx2] at HDc
          have hGx : ¬ G = w.heap.size := by have := HW2.out.glt; have := HBs.out; omega
          have hxw : ¬ WkO wb G b1 b2 w.heap.size := fun h => by
           have h3 := HBs.out
           rcases h with q | q | q | q
           ·have := HW2.out.wlt; omega
           ·omega
           ·rcases HFj.out.1 _ q with q | q
            ·exact hxb (Or.inr (Or.inr (Or.inl q)))
            ·have := Hz.out; omega
           ·rcases HFj.out.2 _ q with q | q
            ·exact hxb (Or.inr (Or.inr (Or.inr q)))
            ·have := Hz.out; omega
          have hW2q := hW2e.symm
          clear hW2e
          subst hW2q
          clear hK2e hparts hvis
          subst h13
          go_wp2_with fail
          refine HVi.out.mono ?_
          rintro e w7 ⟨rfl, hw7⟩
          have hw8 := hw7.symm
          clear hw7
          subst hw8
          go_wp2_with fail
          refine wp_region_held_drew (S := fun W => W.cell? ⟨wb, 5, none⟩ = some (.slice (some ⟨G, 0, none⟩) n n) ∧ W.cell? ⟨w.heap.size, 1, none⟩ = some (.string ⟨vs.toArray⟩)) (by kernel_rfl) ⟨z5, z1⟩ (fun hH => ?_)
          refine take_yes (i := 0) (d := 98) (v := ?_) rfl rfl (by kernel_rfl) (by kernel_rfl) (by kernel_rfl) (fun _ _ _ h => h) (by rfl) ?_ (by assumption) ?_
          rotate_left 1
          ·intro w hSw
           obtain ⟨z0, z1⟩ := hSw
           go_simp
           with_reducible rfl
          try simp only [Act.put, List.setIfInBounds_toArray, List.set_cons_zero, List.set_cons_succ]
          refine take_yes (i := 1) (d := 99) (v := ?_) rfl rfl (by kernel_rfl) (by kernel_rfl) (by kernel_rfl) (fun _ _ _ h => h) (by rfl) ?_ (by assumption) ?_
          rotate_left 1
          ·intro w hSw
           obtain ⟨z0, z1⟩ := hSw
           go_simp
           with_reducible rfl
          try simp only [Act.put, List.setIfInBounds_toArray, List.set_cons_zero, List.set_cons_succ]
          refine take_yes (i := 2) (d := 100) (v := ?_) rfl rfl (by kernel_rfl) (by kernel_rfl) (by kernel_rfl) (fun _ _ _ h => h) (by rfl) ?_ (by assumption) ?_
          rotate_left 1
          ·intro w hSw
           obtain ⟨z0, z1⟩ := hSw
           go_simp
           with_reducible rfl
          try simp only [Act.put, List.setIfInBounds_toArray, List.set_cons_zero, List.set_cons_succ]
          refine take_yes (i := 3) (d := 101) (v := ?_) rfl rfl (by kernel_rfl) (by kernel_rfl) (by kernel_rfl) (fun _ _ _ h => h) (by rfl) ?_ (by assumption) ?_
          rotate_left 1
          ·intro w hSw
           obtain ⟨z0, z1⟩ := hSw
           go_simp
           with_reducible rfl
          try simp only [Act.put, List.setIfInBounds_toArray, List.set_cons_zero, List.set_cons_succ]
          refine take_yes (i := 4) (d := 102) (v := ?_) rfl rfl (by kernel_rfl) (by kernel_rfl) (by kernel_rfl) (fun _ _ _ h => h) (by rfl) ?_ (by assumption) ?_
          rotate_left 1
          ·intro w hSw
           obtain ⟨z0, z1⟩ := hSw
           go_simp
           with_reducible rfl
          try simp only [Act.put, List.setIfInBounds_toArray, List.set_cons_zero, List.set_cons_succ]
          refine take_yes (i := 5) (d := 103) (v := ?_) rfl rfl (by kernel_rfl) (by kernel_rfl) (by kernel_rfl) (fun _ _ _ h => h) (by rfl) ?_ (by assumption) ?_
          rotate_left 1
          ·intro w hSw
           obtain ⟨z0, z1⟩ := hSw
           go_simp
           with_reducible rfl
          try simp only [Act.put, List.setIfInBounds_toArray, List.set_cons_zero, List.set_cons_succ]
          refine take_yes (i := 6) (d := 104) (v := ?_) rfl rfl (by kernel_rfl) (by kernel_rfl) (by kernel_rfl) (fun _ _ _ h => h) (by rfl) ?_ (by assumption) ?_
          rotate_left 1
          ·intro w hSw
           obtain ⟨z0, z1⟩ := hSw
           go_simp
           with_reducible rfl
          try simp only [Act.put, List.setIfInBounds_toArray, List.set_cons_zero, List.set_cons_succ]
          refine take_yes (i := 7) (d := 105) (v := ?_) rfl rfl (by kernel_rfl) (by kernel_rfl) (by kernel_rfl) (fun _ _ _ h => h) (by rfl) ?_ (by assumption) ?_
          rotate_left 1
          ·intro w hSw
           obtain ⟨z0, z1⟩ := hSw
           go_simp
           with_reducible rfl
          try simp only [Act.put, List.setIfInBounds_toArray, List.set_cons_zero, List.set_cons_succ]
          refine wpAnyH_ready (rs := [8]) (by kernel_rfl) (by simp) ?_
          refine AllReadyH.cons rfl (fun K hK => ?_) AllReadyH.nil
          go_simp
          refine HDc.out.mono ?_
          rintro e w9 ⟨e1, f1, e2, f2, rfl, ⟨k1, kf1, kf2⟩, k2⟩
          rw [hnx2] at *
          have k5 := k1.e5
          have kx := k2.cell (show W2.drew.cell? _ = _ from z1) hxw
          have K1 := Lib.hid (k1.put ix (Kj.nx : Int))
          have KF := Lib.hid (And.intro kf1 kf2)
          have K2m := Lib.hid k2
          obtain ⟨r0, r1⟩ := k1.row ix (by rw [k1.len]; exact hin)
          obtain ⟨ov, hov⟩ : ∃ ov, (K2.decl vs).sl[ix]'(by rw [k1.len]; exact hin) = ov := ⟨_, rfl⟩
          rw [hov] at r0
          have kwg := k1.wg
          clear hH k1 kf1 kf2 k2 hov
          refine hK.out _ _ ⟨k5, kx⟩ (fun hH => ?_)
          clear hK K
          try simp only [Act.put, List.setIfInBounds_toArray, List.set_cons_zero, List.set_cons_succ]
          refine take_yes (i := 9) (d := 107) (v := ?_) rfl rfl (by kernel_rfl) (by kernel_rfl) (by kernel_rfl) (fun _ _ _ h => h) (by rfl) ?_ (by assumption) ?_
          rotate_left 1
          ·intro w hSw
           obtain ⟨z0, z1⟩ := hSw
           go_simp
           with_reducible rfl
          try simp only [Act.put, List.setIfInBounds_toArray, List.set_cons_zero, List.set_cons_succ]
          refine wpAnyH_ready (rs := [10]) (by kernel_rfl) (by simp) ?_
          refine AllReadyH.cons rfl (fun K hK => ?_) AllReadyH.nil
          go_simp
          refine hK.out _ _ ⟨(World.cell?_setCell_other _ _ _ _ (by intro e; exact kwg (congrArg Addr.block e).symm)).trans k5, (World.cell?_setCell_other _ _ _ _ (by intro e; exact hGx (congrArg Addr.block e))).trans kx⟩ (fun hH2 => ?_)
          clear hK K hH hH2
          try simp only [Act.put, List.setIfInBounds_toArray, List.set_cons_zero, List.set_cons_succ]
          refine wpAnyH_done (by kernel_rfl) ?_ _
          go_wp2_with fail
          go_end0
          rw [Hk2.out]
          have hW2 := HM2.out.size
          refine Hend.out _ _ e1 f1 e2 f2 K1.out ((HM2.out.drew.trans K2m.out (fun i hi => ?_)).trans ((Mod.refl (fun i => i = G) w9).setCell (p := ⟨G, ix, none⟩) (Or.inl rfl) _) (fun i h => Or.inl (Or.inr (Or.inl h)))) (fun i h => ?_) (fun i h => ?_)
          ·rcases hi with q | q | q | q
           ·exact Or.inl (Or.inl q)
           ·exact Or.inl (Or.inr (Or.inl q))
           ·exact (HFj.out.1 i q).imp (fun h => Or.inr (Or.inr (Or.inl h))) (fun h => h)
           ·exact (HFj.out.2 i q).imp (fun h => Or.inr (Or.inr (Or.inr h))) (fun h => h)
          ·exact (KF.out.1 i h).elim (fun h => HFj.out.1 i h) (fun h => Or.inr (Nat.le_trans hW2 h))
          ·exact (KF.out.2 i h).elim (fun h => HFj.out.2 i h) (fun h => Or.inr (Nat.le_trans hW2 h))
       ·have hk2 : atR (wantI F) m0 Kj ix ⟨vk, vs, vi0, keys, rts⟩ = Kj := by
         unfold atR
         rw [if_neg h19, if_neg h5, if_neg h13, if_neg h11]
        have b19 : (vk == 19) = false := by simpa using h19
        have b5 : (vk == 5) = false := by simpa using fun h => h5 (Or.inl h)
        have b14 : (vk == 14) = false := by simpa using fun h => h5 (Or.inr h)
        have b13 : (vk == 13) = false := by simpa using h13
        have b11 : (vk == 11) = false := by simpa using fun h => h11 (Or.inl h)
        have b12 : (vk == 12) = false := by simpa using fun h => h11 (Or.inr h)
        have Hk2 := Lib.hid hk2
        clear hk2
        go_wp2_with fail
        go_end0
        rw [Hk2.out]
        exact Hend.out wr Kj b1 d1 b2 d2 HWj.out HMj.out HFj.out.1 HFj.out.2
end Syn
end Go.Proofs.YtcapkeaedpabjaaGreatDoor
