/-
  Layer 8, texts merged: SvE, SvF. For every argument within the bounds that each theorem names.
-/
import Derived.Test.YtcapkeaedpabjaaGreatDoorWO1
import Derived.Test.YtcapkeaedpabjaaGreatDoorWK2

/-
 Layer 9, the reference: declare.
-/
namespace Go.Proofs.YtcapkeaedpabjaaGreatDoor
open Go.RowKit Go.ChangeShapes Go.WideShapes
namespace Syn
/-- A name behind a row of names. -/
theorem list_appK {base : Nat} {Y : World} {m c : Nat} {a1 : Option Addr} {p : List Txt} {x : Txt} {b : Nat} {ops : Array Oper} {rest : List Oper} {o : Oper} {a : Act} {Q : Exit → Act → World → Prop} (s y : Operand)
  (ho : o.op = .call { callee := .builtin .append, args := #[s, y], argTypes := #[44, 44] }) (hgd : o.guard = none) (hs : a.eval s = .slice a1 m c) (hx : a.eval y = .slice (some ⟨b, 0, none⟩) 1 1)
  (hR : Y.ownsRow base 9 1 (.slice a1 m c) m (encK p)) (hbase : base ≤ Y.heap.size) (h2 : ∀ j u, [Value.string ⟨x.toArray⟩][j]? = some u → Y.cell? ((⟨b, 0, none⟩ : Addr).add j) = some u) (hm : m + 1 ≤ 1099511627776)
  (h : ∀ o3 c3 w', Hid (w'.ownsRow base 9 1 (.slice o3 (m + 1) c3) (m + 1) (encK (p ++ [x])) ∧ Y.grownBy w' (Value.slice a1 m c).ownBlock ∧ ((Value.slice o3 (m + 1) c3).ownBlock = (Value.slice a1 m c).ownBlock ∨ (Value.slice o3 (m + 1) c3).ownBlock = some Y.heap.size)) → wpList Tryz.prog ops Q rest (a.put o.dst (.slice o3 (m + 1) c3)) w') : wpList Tryz.prog ops Q (o :: rest) a Y := by
 obtain ⟨i0, hi, hz0, hz1, hz2⟩ := info_parts info_str
 refine wpList_append_own_at _ hgd s y 44 ho base 9 i0 _ 1 16 Tryz.underlying44 hi hz0 hz1 hz2 rfl (by decide) _ m _ hs hR ⟨b, 0, none⟩ 1 1 [.string ⟨x.toArray⟩] hx rfl h2 (fun u hu => by simp at hu; subst hu; rfl) (by unfold maxLen; omega) (by omega) hbase ?_
 intro v' w' ho' hg _ hat
 obtain ⟨o3, c3, rfl⟩ := own_shape ho'
 exact h o3 c3 w' (Lib.hid ⟨by rw [show encK (p ++ [x]) = encK p ++ [.string ⟨x.toArray⟩] by simp [encK]]; exact ho', hg, hat⟩)
/-- What declare says. -/
def DPost (w : World) (wb G base : Nat) (no fo : Option Addr) (n nc k fc : Nat) (K : Wk) (a1 a2 : Option Addr) (s : Txt) (e : Ending) (w' : World) : Prop :=
 ∃ b1 d1 b2 d2, e = .returned (.int .i64 (K.nx : Int)) ∧ (WkAt w' wb G base no fo n nc k fc (K.decl s) b1 d1 b2 d2 ∧ (∀ b, OB b1 b → OB a1 b ∨ w.heap.size ≤ b) ∧ ∀ b, OB b2 b → OB a2 b ∨ w.heap.size ≤ b) ∧ Mod (WkO wb G a1 a2) w w'
theorem wkO_set (w : World) (wb G q : Nat) (a1 a2 : Option Addr) (u : Value) : Mod (WkO wb G a1 a2) w (w.setCell ⟨wb, q, none⟩ u) := (wk_mod w wb q u).weak (fun _ h => Or.inl h)
set_option maxRecDepth 100000 in
set_option maxHeartbeats 8000000 in
theorem wdeclare_any (wb G base : Nat) (no fo : Option Addr) (n nc k fc : Nat) (K : Wk) (a1 a2 : Option Addr) (c1 c2 : Nat) (s : Txt) (hl : K.nms.length ≤ 100000) (hls : K.sls.length ≤ 100000) (hx : K.nx ≤ 100000) (w : World) (hb : base ≤ w.heap.size) (hW : WkAt w wb G base no fo n nc k fc K a1 c1 a2 c2) :
  Calls Tryz.prog 101 #[.pointer (some ⟨wb, 0, none⟩), .string ⟨s.toArray⟩] w (DPost w wb G base no fo n nc k fc K a1 a2 s) := by
 obtain ⟨m, hm⟩ : ∃ m, K.nms.length = m := ⟨_, rfl⟩
 obtain ⟨m2, hm2⟩ : ∃ m2, K.sls.length = m2 := ⟨_, rfl⟩
 obtain ⟨nx, hnx⟩ : ∃ nx, K.nx = nx := ⟨_, rfl⟩
 have e2 := hW.e2
 have hW1 := hW.bel (Bel.alloc (Bel.refl w) (.cells #[.string ⟨s.toArray⟩] 9))
 have HW1 := Lib.hid hW1
 have hown := hW1.nm
 rw [hm] at e2 hown
 have HO1 := Lib.hid hown
 have hbs : base ≤ (w.alloc (.cells #[.string ⟨s.toArray⟩] 9)).heap.size := by rw [alloc_sz]; omega
 have Hnw : Hid (∀ j u, [Value.string ⟨s.toArray⟩][j]? = some u → (w.alloc (.cells #[.string ⟨s.toArray⟩] 9)).cell? ((⟨w.heap.size, 0, none⟩ : Addr).add j) = some u) := Lib.hid (World.news_of_block (cs := #[.string ⟨s.toArray⟩]) (t := 9) (fr := (0, 0)) (heap_new w _))
 have hi1 : m + 1 ≤ 1099511627776 := by omega
 have hls2 : m2 ≤ 100000 := by omega
 have hnx2 : nx ≤ 100000 := by omega
 have HS := Lib.hid (show ∀ o3 c3 w2, (w2.ownsRow base 9 1 (.slice o3 (m + 1) c3) (m + 1) (encK (K.nms ++ [s])) ∧ (w.alloc (.cells #[.string ⟨s.toArray⟩] 9)).grownBy w2 (Value.slice a1 m c1).ownBlock ∧ ((Value.slice o3 (m + 1) c3).ownBlock = (Value.slice a1 m c1).ownBlock ∨ (Value.slice o3 (m + 1) c3).ownBlock = some (w.alloc (.cells #[.string ⟨s.toArray⟩] 9)).heap.size)) →
   (w2.cell? ⟨wb, 2, none⟩ = some (.slice a1 m c1) ∧ w2.frozen? ⟨wb, 2, none⟩ = false) ∧ WkAt (w2.setCell ⟨wb, 2, none⟩ (.slice o3 (m + 1) c3)) wb G base no fo n nc k fc { K with nms := K.nms ++ [s] } o3 c3 a2 c2 ∧ Mod (WkO wb G a1 a2) w (w2.setCell ⟨wb, 2, none⟩ (.slice o3 (m + 1) c3)) ∧ (∀ b, OB o3 b → OB a1 b ∨ w.heap.size ≤ b) ∧ base ≤ (w2.setCell ⟨wb, 2, none⟩ (.slice o3 (m + 1) c3)).heap.size from fun o3 c3 w2 h => by
  rw [← hm] at h ⊢
  obtain ⟨h1, h2, h3⟩ := h
  have g := Mod.grown (F := fun b => base ≤ b) h2 (fun i e => (hW1.nm.lt i e).1)
  have hw : ¬ base ≤ wb := by have := hW1.wlt; omega
  have M : Mod (WkO wb G a1 a2) w (w2.setCell ⟨wb, 2, none⟩ (.slice o3 (K.nms.length + 1) c3)) := mod_tr (mod_tr (Mod.of_bel (Bel.alloc (Bel.refl w) _)) (Mod.grown (F := WkO wb G a1 a2) h2 (fun i e => Or.inr (Or.inr (Or.inl (ob_own e)))))) (wkO_set _ _ _ _ _ _ _)
  have hfr : ∀ b, OB o3 b → OB a1 b ∨ w.heap.size ≤ b := fun b hb => by
   have e := own_ob (m := K.nms.length + 1) (c := c3) hb
   rcases h3 with q | q
   ·rw [q] at e
    exact Or.inl (ob_own e)
   ·rw [q] at e
    cases e
    exact Or.inr (by rw [alloc_sz]; omega)
  exact ⟨⟨g.cell hW1.e2 hw, (mod_froz g hW1.e2 hw).trans (hW1.fz 2 (by omega) (by omega))⟩, hW1.app1 h1 h2 h3, M, hfr, Nat.le_trans hb M.size⟩)
 have HKe := Lib.hid (show ({ ({ ({ K with nms := K.nms ++ [s] } : Wk) with sls := K.sls ++ [(nx : Int)] } : Wk) with nx := nx + 1 } : Wk) = K.decl s by rw [← hnx]; rfl)
 have Hm2 := Lib.hid hm2
 have Hnx := Lib.hid hnx
 clear hW hW1 hown hm hm2 hnx hl hls hx
 go_enter Tryz.func101, Tryz.ntmps101
 go_wp2_with (at_builtin; refine list_appK _ _ rfl rfl rfl rfl HO1.out hbs Hnw.out hi1 ?_; intro o9 c9 w9 k9; refine Hid.out ?_)
 refine Lib.hid ?_
 obtain ⟨⟨n0, n1⟩, hW3, M3, hfr3, hb3⟩ := HS.out o9 c9 w9 k9.out
 have Hfr3 := Lib.hid hfr3
 obtain ⟨W3, hE3⟩ : ∃ W3, w9.setCell ⟨wb, 2, none⟩ (.slice o9 (m + 1) c9) = W3 := ⟨_, rfl⟩
 rw [hE3] at hW3 M3 hb3
 have HE3 := Lib.hid hE3
 have HW3 := Lib.hid hW3
 have HM3 := Lib.hid M3
 have Hb3 := Lib.hid hb3
 clear k9 hE3 hW3 M3 hb3 hfr3
 go_upto_region 2 with (fail)
 rw [HE3.out]
 have m0 := HW3.out.e4
 have m1 := HW3.out.e3
 dsimp only at m0 m1
 rw [Hnx.out] at m0
 rw [Hm2.out] at m1
 have m2' := (Bel.alloc (Bel.refl W3) (.cells #[.int .i64 (nx : Int)] 3)).cell' m1
 have m3' := (Bel.alloc (Bel.refl W3) (.cells #[.int .i64 (nx : Int)] 3)).cell' m0
 obtain ⟨i0, hi0, hz0, hz1, hz2⟩ := info_parts info_int
 have Hi0 := Lib.hid hi0
 have Hz0 := Lib.hid hz0
 have Hz1 := Lib.hid hz1
 have Hz2 := Lib.hid hz2
 have hml : Hid (m2 + 1 ≤ maxLen) := Lib.hid (by unfold maxLen; omega)
 have hml2 : Hid ((m2 + 1) * 8 ≤ 140737488355328) := Lib.hid (by omega)
 have HO := Lib.hid (show ∀ W, Bel W3 W → W.ownsRow base 3 1 (.slice a2 m2 c2) m2 (encZ K.sls) from fun W B => by have := (HW3.out.bel B).sl; dsimp only at this; rw [Hm2.out] at this; exact this)
 have HBs := Lib.hid (show ∀ W, Bel W3 W → base ≤ W.heap.size from fun W B => Nat.le_trans Hb3.out B.size)
 have hnw : Hid (∀ W' W'' : World, W''.heap[W'.heap.size]? = some (.cells #[.int .i64 (nx : Int)] 3) → ∀ j u, [.int .i64 (nx : Int)][j]? = some u → W''.cell? ((⟨W'.heap.size, 0, none⟩ : Addr).add j) = some u) := Lib.hid fun W' W'' hW' => World.news_of_block (cs := #[.int .i64 (nx : Int)]) (t := 3) (fr := (0, 0)) hW'
 have HK := Lib.hid (show ∀ (W w7 : World) (gg cap : Nat), Bel W3 W → w7.ownsRow base 3 1 (.slice (some ⟨gg, 0, none⟩) (m2 + 1) cap) (m2 + 1) (encZ K.sls ++ [.int .i64 (nx : Int)]) → W.grownBy w7 (Value.slice a2 m2 c2).ownBlock → ((Value.slice a2 m2 c2).ownBlock = some gg ∨ gg = W.heap.size) →
   (w7.cell? ⟨wb, 3, none⟩ = some (.slice a2 m2 c2) ∧ w7.frozen? ⟨wb, 3, none⟩ = false) ∧ WkAt (w7.setCell ⟨wb, 3, none⟩ (.slice (some ⟨gg, 0, none⟩) (m2 + 1) cap)) wb G base no fo n nc k fc { ({ K with nms := K.nms ++ [s] } : Wk) with sls := K.sls ++ [(nx : Int)] } o9 c9 (some ⟨gg, 0, none⟩) cap ∧ (∀ b, OB (some ⟨gg, 0, none⟩) b → OB a2 b ∨ w.heap.size ≤ b) ∧ Mod (WkO wb G a1 a2) w (w7.setCell ⟨wb, 3, none⟩ (.slice (some ⟨gg, 0, none⟩) (m2 + 1) cap)) from fun W w7 gg cap B ho hg hat => by
  have hWW := HW3.out.bel B
  have hm2 := Hm2.out
  subst hm2
  have g := Mod.grown (F := fun b => base ≤ b) hg (fun i e => (hWW.sl.lt i e).1)
  have hw : ¬ base ≤ wb := by have := hWW.wlt; omega
  have ho' : w7.ownsRow base 3 1 (.slice (some ⟨gg, 0, none⟩) (K.sls.length + 1) cap) (K.sls.length + 1) (encZ (K.sls ++ [(nx : Int)])) := by rw [show encZ (K.sls ++ [(nx : Int)]) = encZ K.sls ++ [.int .i64 (nx : Int)] by simp [encZ]]; exact ho
  exact ⟨⟨g.cell hWW.e3 hw, (mod_froz g hWW.e3 hw).trans (hWW.fz 3 (by omega) (by omega))⟩, hWW.app2 ho' hg (hat.elim (fun h => Or.inl (by rw [h]; rfl)) (fun h => Or.inr (by rw [← h]; rfl))), fun b hb => by
   obtain ⟨o, s', e⟩ := hb
   cases e
   rcases hat with q | q
   ·exact Or.inl (ob_own q)
   ·exact Or.inr (by have := HM3.out.size; have := B.size; omega), mod_tr (mod_tr (mod_tr HM3.out (Mod.of_bel B)) (Mod.grown (F := WkO wb G a1 a2) hg (fun i e => Or.inr (Or.inr (Or.inr (ob_own e)))))) (wkO_set _ _ _ _ _ _ _)⟩)
 clear n0 n1 hi0 hz0 hz1 hz2
 go_region_law (refine step_append_lies _ (by rfl) _ _ _ (by rfl) base 3 i0 _ 1 8 Tryz.underlying38 Hi0.out Hz0.out Hz1.out Hz2.out rfl (by omega) _ _ _ (by rfl) (HO.out _ (by repeat (first | exact Bel.refl _ | refine Below.drew ?_ | refine Bel.alloc ?_ _))) ⟨W3.heap.size, 0, none⟩ 1 1 [.int .i64 (nx : Int)] (by rfl) (by rfl) (hnw.out W3 _ (heap_new W3 _)) (by simp [Value.oneCell']) (by omega) hml.out hml2.out (HBs.out _ (by repeat (first | exact Bel.refl _ | refine Below.drew ?_ | refine Bel.alloc ?_ _))) _ rfl ?_; intro gg cap w7 hown7 hgrow hat hlt; obtain ⟨⟨n0, n1⟩, k2, kf, k3⟩ := HK.out _ w7 gg cap (by repeat (first | exact Bel.refl _ | refine Below.drew ?_ | refine Bel.alloc ?_ _)) hown7 hgrow hat)
 all_goals
  generalize w7.setCell ⟨wb, 3, none⟩ (.slice (some ⟨gg, 0, none⟩) (m2 + 1) cap) = w8 at *
  have t4 := k2.e4
  dsimp only at t4
  rw [Hnx.out] at t4
  have f4 := k2.fz 4 (by omega) (by omega)
  have K8 := Lib.hid (k2.set4 (nx + 1))
  have M8 := Lib.hid (mod_tr k3 (wkO_set w8 wb G 4 a1 a2 (.int .i64 ((nx + 1 : Nat) : Int))))
  have KF := Lib.hid kf
  have t5 := World.cell?_setCell_same w8 ⟨wb, 4, none⟩ (.int .i64 ((nx : Int) + 1)) t4
  have hw1 : IntKind.i64.wrap ((nx : Int) + 1) = (nx : Int) + 1 := by rw [IntKind.wrap_i64]; omega
  have hw2 : IntKind.i64.wrap ((nx : Int) + 1 - 1) = (nx : Int) := by rw [IntKind.wrap_i64]; omega
  clear k2 k3 kf hown7 hgrow hat hlt n0 n1 m0 m1 m2' m3'
  go_wp2
  go_ret
  exact ⟨o9, c9, _, cap, by rw [Hnx.out]; rfl, ⟨by rw [← HKe.out]; exact K8.out, Hfr3.out, KF.out⟩, M8.out⟩
end Syn
end Go.Proofs.YtcapkeaedpabjaaGreatDoor

/-
 Layer 9, the reference: stores to the walk's state.
-/
namespace Go.Proofs.YtcapkeaedpabjaaGreatDoor
open Go.RowKit Go.ChangeShapes Go.WideShapes
namespace Syn
theorem WkAt.put {w : World} {wb G base : Nat} {no fo : Option Addr} {n nc k fc : Nat} {K : Wk} {a1 a2 : Option Addr} {c1 c2 : Nat} (h : WkAt w wb G base no fo n nc k fc K a1 c1 a2 c2) (i : Nat) (v : Int) : WkAt (w.setCell ⟨G, i, none⟩ (.int .i64 v)) wb G base no fo n nc k fc (K.put i v) a1 c1 a2 c2 := by
 have e0 : ∀ {j : Nat} {u : Value}, w.cell? ⟨wb, j, none⟩ = some u → (w.setCell ⟨G, i, none⟩ (.int .i64 v)).cell? ⟨wb, j, none⟩ = some u := fun hc => (World.cell?_setCell_other _ _ _ _ (by intro e; exact h.wg (congrArg Addr.block e).symm)).trans hc
 refine ⟨e0 h.p0, e0 h.p1, e0 h.e2, e0 h.e3, e0 h.e4, e0 h.e5, e0 h.e6, e0 h.e7, fun j h1 h2 => by rw [World.frozen?_setCell]; exact h.fz j h1 h2, own_setW h.nm (p := ⟨G, i, none⟩) h.glt _, own_setW h.sl (p := ⟨G, i, none⟩) h.glt _, fun j hj => ?_, by show (K.sl.set i v).length = n; rw [List.length_set]; exact h.len, h.wlt, h.glt, h.wg, h.ne⟩
 have hj' : j < K.sl.length := by have : j < (K.sl.set i v).length := hj; rwa [List.length_set] at this
 have hg : (K.put i v).sl[j] = if i = j then v else K.sl[j] := by show (K.sl.set i v)[j]'(by rw [List.length_set]; exact hj') = _; rw [List.getElem_set]
 refine ⟨?_, by rw [World.frozen?_setCell]; exact (h.row j hj').2⟩
 rw [hg]
 by_cases e : i = j
 ·subst e
  rw [if_pos rfl]
  exact World.cell?_setCell_same _ _ _ (h.row i hj').1
 ·rw [if_neg e]
  exact (World.cell?_setCell_other _ _ _ _ (by intro q; exact e (congrArg Addr.off q))).trans (h.row j hj').1
theorem own_same_block (o : Option Addr) (m n c : Nat) : (Value.slice o m c).ownBlock = (Value.slice o n c).ownBlock := by cases o <;> rfl
theorem encK_take (l : List Txt) (m : Nat) : (encK l).take m = encK (l.take m) := by unfold encK; rw [List.map_take]
theorem encZ_take (l : List Int) (m : Nat) : (encZ l).take m = encZ (l.take m) := by unfold encZ; rw [List.map_take]
theorem WkAt.cut1 {w : World} {wb G base : Nat} {no fo : Option Addr} {n nc k fc : Nat} {K : Wk} {a1 a2 : Option Addr} {c1 c2 : Nat} (h : WkAt w wb G base no fo n nc k fc K a1 c1 a2 c2) (m : Nat) (hm : m ≤ K.nms.length) : WkAt (w.setCell ⟨wb, 2, none⟩ (.slice a1 m c1)) wb G base no fo n nc k fc { K with nms := K.nms.take m } a1 c1 a2 c2 := by
 have hl : (K.nms.take m).length = m := by rw [List.length_take]; omega
 have e0 : ∀ {j : Nat} {u : Value}, j ≠ 2 → w.cell? ⟨wb, j, none⟩ = some u → (w.setCell ⟨wb, 2, none⟩ (.slice a1 m c1)).cell? ⟨wb, j, none⟩ = some u := fun hj hc => (World.cell?_setCell_other _ _ _ _ (by intro e; exact hj (congrArg Addr.off e).symm)).trans hc
 have ho := own_take h.nm hm
 rw [Nat.mul_one, encK_take] at ho
 refine ⟨e0 (by decide) h.p0, e0 (by decide) h.p1, ?_, e0 (by decide) h.e3, e0 (by decide) h.e4, e0 (by decide) h.e5, e0 (by decide) h.e6, e0 (by decide) h.e7, fun j h1 h2 => by rw [World.frozen?_setCell]; exact h.fz j h1 h2, ?_, own_setW h.sl (p := ⟨wb, 2, none⟩) h.wlt _, fun j hj => ⟨(World.cell?_setCell_other _ _ _ _ (by intro e; exact h.wg (congrArg Addr.block e))).trans (h.row j hj).1, by rw [World.frozen?_setCell]; exact (h.row j hj).2⟩, h.len, h.wlt, h.glt, h.wg, fun b hb => ?_⟩
 ·simp only [hl]
  exact World.cell?_setCell_same _ _ _ h.e2
 ·simp only [hl]
  exact own_setW ho (p := ⟨wb, 2, none⟩) h.wlt _
 ·simp only [hl] at hb
  rw [own_same_block a1 m K.nms.length c1] at hb
  exact h.ne b hb
theorem WkAt.cut2 {w : World} {wb G base : Nat} {no fo : Option Addr} {n nc k fc : Nat} {K : Wk} {a1 a2 : Option Addr} {c1 c2 : Nat} (h : WkAt w wb G base no fo n nc k fc K a1 c1 a2 c2) (m : Nat) (hm : m ≤ K.sls.length) : WkAt (w.setCell ⟨wb, 3, none⟩ (.slice a2 m c2)) wb G base no fo n nc k fc { K with sls := K.sls.take m } a1 c1 a2 c2 := by
 have hl : (K.sls.take m).length = m := by rw [List.length_take]; omega
 have e0 : ∀ {j : Nat} {u : Value}, j ≠ 3 → w.cell? ⟨wb, j, none⟩ = some u → (w.setCell ⟨wb, 3, none⟩ (.slice a2 m c2)).cell? ⟨wb, j, none⟩ = some u := fun hj hc => (World.cell?_setCell_other _ _ _ _ (by intro e; exact hj (congrArg Addr.off e).symm)).trans hc
 have ho := own_take h.sl hm
 rw [Nat.mul_one, encZ_take] at ho
 refine ⟨e0 (by decide) h.p0, e0 (by decide) h.p1, e0 (by decide) h.e2, ?_, e0 (by decide) h.e4, e0 (by decide) h.e5, e0 (by decide) h.e6, e0 (by decide) h.e7, fun j h1 h2 => by rw [World.frozen?_setCell]; exact h.fz j h1 h2, own_setW h.nm (p := ⟨wb, 3, none⟩) h.wlt _, ?_, fun j hj => ⟨(World.cell?_setCell_other _ _ _ _ (by intro e; exact h.wg (congrArg Addr.block e))).trans (h.row j hj).1, by rw [World.frozen?_setCell]; exact (h.row j hj).2⟩, h.len, h.wlt, h.glt, h.wg, fun b hb hv => ?_⟩
 ·simp only [hl]
  exact World.cell?_setCell_same _ _ _ h.e3
 ·simp only [hl]
  exact own_setW ho (p := ⟨wb, 3, none⟩) h.wlt _
 ·simp only [hl] at hv
  rw [own_same_block a2 m K.sls.length c2] at hv
  exact h.ne b hb hv
/-- What a walk does to the state's sizes: t is the number of nodes that it visits. -/
structure Grows (K K' : Wk) (t : Nat) : Prop where
 ln : K.sls.length = K.nms.length → K'.sls.length = K'.nms.length
 nm : K'.nms.length ≤ K.nms.length + t
 nx : K'.nx ≤ K.nx + t
 low : K.nms.length ≤ K'.nms.length
theorem Grows.trans {a b c : Wk} {s t : Nat} (h : Grows a b s) (g : Grows b c t) : Grows a c (s + t) :=
 ⟨fun e => g.ln (h.ln e), by have := h.nm; have := g.nm; omega, by have := h.nx; have := g.nx; omega, Nat.le_trans h.low g.low⟩
theorem Grows.refl (a : Wk) (t : Nat) : Grows a a t := ⟨fun e => e, Nat.le_add_right _ _, Nat.le_add_right _ _, Nat.le_refl _⟩
theorem fail_parts (K : Wk) (i : Nat) (e : Int) : (K.fail i e).nms = K.nms ∧ (K.fail i e).sls = K.sls ∧ (K.fail i e).nx = K.nx := by
 unfold Wk.fail
 split <;> exact ⟨rfl, rfl, rfl⟩
theorem decl_grows (K : Wk) (s : Txt) : Grows K (K.decl s) 1 :=
 ⟨fun e => by show (K.sls ++ [(K.nx : Int)]).length = (K.nms ++ [s]).length; simp [e], by show (K.nms ++ [s]).length ≤ _; simp, Nat.le_refl _, by show _ ≤ (K.nms ++ [s]).length; simp⟩
theorem grows_of {K K' : Wk} (h1 : K'.nms = K.nms) (h2 : K'.sls = K.sls) (h3 : K'.nx = K.nx) (t : Nat) : Grows K K' t :=
 ⟨fun e => by rw [h1, h2]; exact e, by rw [h1]; omega, by rw [h3]; omega, by rw [h1]; exact Nat.le_refl _⟩
theorem put_grows {K K2 : Wk} {i : Nat} {v : Int} {t : Nat} (h : Grows (K.put i v) K2 t) : Grows K K2 t := ⟨fun e => h.ln e, h.nm, h.nx, h.low⟩
/-- A node that is no block: what its visit does to the sizes. -/
theorem atR_grows (W : Nd → Int) (mark : Nat) (K : Wk) (i : Nat) (x : Nd) (h : x.k ≠ 19) : Grows K (atR W mark K i x) 1 := by
 unfold atR
 rw [if_neg h]
 split
 ·split
  ·obtain ⟨h1, h2, h3⟩ := fail_parts (K.put i (visI K.nms K.sls x.s)) i 4
   exact put_grows (grows_of h1 h2 h3 1)
  ·exact put_grows (Grows.refl _ 1)
 ·split
  ·split
   ·obtain ⟨h1, h2, h3⟩ := fail_parts K i 6
    have g := decl_grows ((K.fail i 6).put i (K.nx : Int)) x.s
    exact ⟨fun e => g.ln (by show (K.fail i 6).sls.length = (K.fail i 6).nms.length; rw [h1, h2]; exact e), by have := g.nm; have e : ((K.fail i 6).put i (K.nx : Int)).nms = K.nms := h1; rw [e] at this; exact this, by have := g.nx; have e : ((K.fail i 6).put i (K.nx : Int)).nx = K.nx := h3; rw [e] at this; exact this, by have := g.low; have e : ((K.fail i 6).put i (K.nx : Int)).nms = K.nms := h1; rw [e] at this; exact this⟩
   ·split
    ·obtain ⟨h1, h2, h3⟩ := fail_parts K i 3
     have g := decl_grows ((K.fail i 3).put i (K.nx : Int)) x.s
     exact ⟨fun e => g.ln (by show (K.fail i 3).sls.length = (K.fail i 3).nms.length; rw [h1, h2]; exact e), by have := g.nm; have e : ((K.fail i 3).put i (K.nx : Int)).nms = K.nms := h1; rw [e] at this; exact this, by have := g.nx; have e : ((K.fail i 3).put i (K.nx : Int)).nx = K.nx := h3; rw [e] at this; exact this, by have := g.low; have e : ((K.fail i 3).put i (K.nx : Int)).nms = K.nms := h1; rw [e] at this; exact this⟩
    ·exact put_grows (decl_grows (K.put i (K.nx : Int)) x.s)
  ·split
   ·split
    ·exact Grows.refl _ _
    ·obtain ⟨h1, h2, h3⟩ := fail_parts K i (argE x.kids.length (W x))
     exact grows_of h1 h2 h3 1
   ·exact Grows.refl _ _
/-- A block's end. -/
theorem cut_grows {K K1 : Wk} {t : Nat} (h : Grows K K1 t) : Grows K (K1.cut K.nms.length) (t + 1) :=
 ⟨fun e => by show (K1.sls.take K.nms.length).length = (K1.nms.take K.nms.length).length; rw [List.length_take, List.length_take, h.ln e], by show (K1.nms.take K.nms.length).length ≤ _; rw [List.length_take]; omega, by show K1.nx ≤ _; have := h.nx; omega, by show _ ≤ (K1.nms.take K.nms.length).length; rw [List.length_take]; have := h.low; omega⟩
mutual
theorem visT_grows (W : Nd → Int) : ∀ (t : T) (b : Nat) (K : Wk), Grows K (visT W b t K) (size t)
 | .node k s i keys ts, b, K => by
  have h := visTs_grows W ts b K
  rw [visT, size]
  by_cases hk : k = 19
  ·unfold atR
   rw [if_pos hk]
   exact cut_grows h
  ·exact h.trans (atR_grows W K.nms.length (visTs W b ts K) (b + sizes ts) ⟨k, s, i, keys, roots b ts⟩ hk)
theorem visTs_grows (W : Nd → Int) : ∀ (ts : Ts) (b : Nat) (K : Wk), Grows K (visTs W b ts K) (sizes ts)
 | .nil, b, K => by rw [visTs]; exact Grows.refl _ _
 | .cons t r, b, K => by
  rw [visTs, sizes]
  exact (visT_grows W t b K).trans (visTs_grows W r (b + size t) (visT W b t K))
end
end Syn
end Go.Proofs.YtcapkeaedpabjaaGreatDoor
