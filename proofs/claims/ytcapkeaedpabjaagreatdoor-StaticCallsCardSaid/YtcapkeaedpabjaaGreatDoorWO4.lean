/-
  Layer 8, texts merged: SvH, SvI, SvJ. For every argument within the bounds that each theorem names.
-/
import Derived.Test.YtcapkeaedpabjaaGreatDoorWO3
import Derived.Test.YtcapkeaedpabjaaGreatDoorWL4

/-
 Layer 9, the reference: run.
-/
namespace Go.Proofs.YtcapkeaedpabjaaGreatDoor
open Go.RowKit Go.ChangeShapes Go.WideShapes
namespace Syn
theorem WkAt.nil1 {w : World} {wb G base : Nat} {no fo : Option Addr} {n nc k fc : Nat} {K : Wk} {a1 a2 : Option Addr} {c1 c2 : Nat} (h : WkAt w wb G base no fo n nc k fc K a1 c1 a2 c2) : WkAt (w.setCell ⟨wb, 2, none⟩ (.slice none 0 0)) wb G base no fo n nc k fc { K with nms := [] } none 0 a2 c2 := by
 have e0 : ∀ {j : Nat} {u : Value}, j ≠ 2 → w.cell? ⟨wb, j, none⟩ = some u → (w.setCell ⟨wb, 2, none⟩ (.slice none 0 0)).cell? ⟨wb, j, none⟩ = some u := fun hj hc => (World.cell?_setCell_other _ _ _ _ (by intro e; exact hj (congrArg Addr.off e).symm)).trans hc
 exact ⟨e0 (by decide) h.p0, e0 (by decide) h.p1, World.cell?_setCell_same _ _ _ h.e2, e0 (by decide) h.e3, e0 (by decide) h.e4, e0 (by decide) h.e5, e0 (by decide) h.e6, e0 (by decide) h.e7, fun j h1 h2 => by rw [World.frozen?_setCell]; exact h.fz j h1 h2, World.ownsRow_nil _ _ _ _, own_setW h.sl (p := ⟨wb, 2, none⟩) h.wlt _, fun j hj => ⟨(World.cell?_setCell_other _ _ _ _ (by intro e; exact h.wg (congrArg Addr.block e))).trans (h.row j hj).1, by rw [World.frozen?_setCell]; exact (h.row j hj).2⟩, h.len, h.wlt, h.glt, h.wg, fun b hb => by cases hb⟩
theorem WkAt.nil2 {w : World} {wb G base : Nat} {no fo : Option Addr} {n nc k fc : Nat} {K : Wk} {a1 a2 : Option Addr} {c1 c2 : Nat} (h : WkAt w wb G base no fo n nc k fc K a1 c1 a2 c2) : WkAt (w.setCell ⟨wb, 3, none⟩ (.slice none 0 0)) wb G base no fo n nc k fc { K with sls := [] } a1 c1 none 0 := by
 have e0 : ∀ {j : Nat} {u : Value}, j ≠ 3 → w.cell? ⟨wb, j, none⟩ = some u → (w.setCell ⟨wb, 3, none⟩ (.slice none 0 0)).cell? ⟨wb, j, none⟩ = some u := fun hj hc => (World.cell?_setCell_other _ _ _ _ (by intro e; exact hj (congrArg Addr.off e).symm)).trans hc
 exact ⟨e0 (by decide) h.p0, e0 (by decide) h.p1, e0 (by decide) h.e2, World.cell?_setCell_same _ _ _ h.e3, e0 (by decide) h.e4, e0 (by decide) h.e5, e0 (by decide) h.e6, e0 (by decide) h.e7, fun j h1 h2 => by rw [World.frozen?_setCell]; exact h.fz j h1 h2, own_setW h.nm (p := ⟨wb, 3, none⟩) h.wlt _, World.ownsRow_nil _ _ _ _, fun j hj => ⟨(World.cell?_setCell_other _ _ _ _ (by intro e; exact h.wg (congrArg Addr.block e))).trans (h.row j hj).1, by rw [World.frozen?_setCell]; exact (h.row j hj).2⟩, h.len, h.wlt, h.glt, h.wg, fun b _ hv => by cases hv⟩
def Wk.clear (K : Wk) : Wk := { K with nms := [], sls := [], nx := 0 }
def declN (K : Wk) (ps : List Txt) : Wk := ps.foldl Wk.decl K.clear
theorem declN_take (K : Wk) {ps : List Txt} {j : Nat} (h : j < ps.length) : declN K (ps.take (j + 1)) = (declN K (ps.take j)).decl ps[j] := by
 unfold declN
 rw [List.take_succ_eq_append_getElem h, List.foldl_append]
 rfl
theorem fold_sizes : ∀ (ps : List Txt) (K : Wk), (ps.foldl Wk.decl K).nms.length = K.nms.length + ps.length ∧ (ps.foldl Wk.decl K).sls.length = K.sls.length + ps.length ∧ (ps.foldl Wk.decl K).nx = K.nx + ps.length
 | [], K => ⟨rfl, rfl, rfl⟩
 | p :: ps, K => by
  obtain ⟨h1, h2, h3⟩ := fold_sizes ps (K.decl p)
  rw [List.foldl_cons, h1, h2, h3, List.length_cons]
  have e1 : (K.decl p).nms.length = K.nms.length + 1 := by show (K.nms ++ [p]).length = _; simp
  have e2 : (K.decl p).sls.length = K.sls.length + 1 := by show (K.sls ++ [(K.nx : Int)]).length = _; simp
  have e3 : (K.decl p).nx = K.nx + 1 := rfl
  omega
theorem declN_sizes (K : Wk) (ps : List Txt) : (declN K ps).nms.length = ps.length ∧ (declN K ps).sls.length = ps.length ∧ (declN K ps).nx = ps.length := by
 obtain ⟨h1, h2, h3⟩ := fold_sizes ps K.clear
 have e1 : K.clear.nms.length = 0 := rfl
 have e2 : K.clear.sls.length = 0 := rfl
 have e3 : K.clear.nx = 0 := rfl
 unfold declN
 omega
set_option maxRecDepth 100000 in
set_option maxHeartbeats 16000000 in
theorem wrun_any (w0 : World) (wb G base : Nat) (no fo : Option Addr) (n nc k fc : Nat) (L : List Nd) (F : List Fw) (E : VEnv w0 wb G base no fo n k L F) (q : Nat) (fu : Fw) (hfu : F[q]? = some fu) (t : T) (b : Nat) (A B : List Nd) (hL : L = A ++ flat b t ++ B) (hAl : A.length = b) (hbody : fu.body = ((b + size t - 1 : Nat) : Int)) (K : Wk) (a1 : Option Addr) (c1 : Nat) (a2 : Option Addr) (c2 : Nat) (w : World) (hbs : base ≤ w.heap.size) (hB0 : Bel w0 w) (hW : WkAt w wb G base no fo n nc k fc K a1 c1 a2 c2) :
  Calls Tryz.prog 57 #[.pointer (some ⟨wb, 0, none⟩), .int .i64 (q : Int)] w (VPost w wb G base no fo n nc k fc (visT (wantI F) b t (K.start fu.params)) a1 a2) := by
 obtain ⟨hqf, hfe⟩ := List.getElem?_eq_some_iff.1 hfu
 have hFk := E.funcs.1
 obtain ⟨fb, ff, hfo, hcf⟩ := E.funcs.2 (by omega)
 obtain ⟨⟨fs, po, pk, pc, fj⟩, hfv, hfc⟩ := hcf q hqf
 rw [hfe] at hfv
 have hKA := hfv.ps
 dsimp only at hKA
 obtain ⟨hpk, hpat⟩ := karg_at hKA
 have hpk2 : pk ≤ 1000 := by have := E.par fu (List.mem_of_getElem? hfu); omega
 have hszt : size t ≤ 1000 := by
  have h1 := congrArg List.length hL
  rw [List.length_append, List.length_append, flat_len t b, E.nodes.1] at h1
  have := E.hn
  omega
 obtain ⟨kz, hkz⟩ : ∃ kz : Nat, b + size t - 1 = kz := ⟨_, rfl⟩
 rw [hkz] at hbody
 have HFc := Lib.hid (show ∀ W, Bel w0 W → W.cell? ⟨fb, ff + q * 3 + 1, none⟩ = some (.slice po pk pc) ∧ W.cell? ⟨fb, ff + q * 3 + 2, none⟩ = some (.int .i64 (kz : Int)) from fun W g => ⟨g.cell' (by simpa using hfc 1 _ rfl), g.cell' (by have := hfc 2 _ rfl; rw [hfv.j, hbody] at this; simpa using this)⟩)
 have hst : K.start fu.params = declN K fu.params := rfl
 rw [hst]
 obtain ⟨W1, hW1⟩ : ∃ W1, ((w.setCell ⟨wb, 2, none⟩ (.slice none 0 0)).setCell ⟨wb, 3, none⟩ (.slice none 0 0)).setCell ⟨wb, 4, none⟩ (.int .i64 0) = W1 := ⟨_, rfl⟩
 have hc2 := hW.nil1
 have hc3 := hc2.nil2
 have hc4 := hc3.set4 0
 have HW1 := Lib.hid (show WkAt W1 wb G base no fo n nc k fc K.clear none 0 none 0 by rw [← hW1]; exact hc4)
 have HM1 := Lib.hid (show Mod (WkO wb G a1 a2) w W1 by rw [← hW1]; exact mod_tr (mod_tr (wkO_set w wb G 2 a1 a2 _) (wkO_set _ wb G 3 a1 a2 _)) (wkO_set _ wb G 4 a1 a2 _))
 have e2 := hW.e2
 have f2 := hW.fz 2 (by omega) (by omega)
 have e3 := hc2.e3
 have f3 := hc2.fz 3 (by omega) (by omega)
 have e4 := hc3.e4
 have f4 := hc3.fz 4 (by omega) (by omega)
 dsimp only at e3 e4
 have Hold := Lib.hid (wk_old E hW)
 have Hfar := Lib.hid (wk_far hW hbs)
 have HE := Lib.hid E
 have Hpat := Lib.hid hpat
 have Hpk := Lib.hid hpk
 have HW1e := Lib.hid hW1
 have HB0 := Lib.hid hB0
 have HL := Lib.hid hL
 have HAl := Lib.hid hAl
 have Hfo := Lib.hid hfo
 have Hbs := Lib.hid hbs
 have HV := Lib.hid (wvisit_any w0 wb G base no fo n nc k fc L F E t)
 have hqk : (q : Int) < (k : Int) := by omega
 have hq0 : (0 : Int) ≤ (q : Int) := by omega
 generalize fu.params = ps at *
 clear hfc hcf hfv hKA hpat hpk hst hc2 hc3 hc4 hW hW1 hB0 hL hAl hfo hbody hfu hfe hbs
 go_enter Tryz.func57, Tryz.ntmps57
 go_wp2_with fail
 rw [HW1e.out]
 go_loopw [4] (fun iv wr => ∃ (i : Nat) (b1 : Option Addr) (d1 : Nat) (b2 : Option Addr) (d2 : Nat), iv = .int .i64 (i : Int) ∧ i ≤ pk ∧ Hid (WkAt wr wb G base no fo n nc k fc (declN K (ps.take i)) b1 d1 b2 d2) ∧ Hid (Mod (WkO wb G a1 a2) w wr) ∧ Hid ((∀ x, OB b1 x → OB a1 x ∨ w.heap.size ≤ x) ∧ ∀ x, OB b2 x → OB a2 x ∨ w.heap.size ≤ x)) (fun iv _ => pk - (intOf iv).toNat)
 case atStart => exact ⟨0, none, 0, none, 0, rfl, Nat.zero_le _, HW1, HM1, Lib.hid ⟨fun x h => (by obtain ⟨_, _, h⟩ := h; cases h), fun x h => (by obtain ⟨_, _, h⟩ := h; cases h)⟩⟩
 case round =>
  obtain ⟨i, b1, d1, b2, d2, rfl, hi, HWi, HMi, HFi⟩ := hrel
  rename World => wr
  have hbr : base ≤ wr.heap.size := Nat.le_trans Hbs.out HMi.out.size
  have B0i := Mod.bel_of HB0.out HMi.out Hold.out
  have p1 := HWi.out.p1
  rw [Hfo.out] at p1
  obtain ⟨g1, g2⟩ := HFc.out wr B0i
  obtain ⟨s1, s2, s3⟩ := declN_sizes K (ps.take i)
  rw [List.length_take] at s1 s2 s3
  have hplen := Hpk.out
  rcases Nat.lt_or_ge i pk with hip | hip
  ·have hil : i < ps.length := by omega
   obtain ⟨pb, pf, rfl, hpc⟩ := Hpat.out (by omega)
   have c0 := B0i.cell' (hpc i hil)
   have HD := Lib.hid (wdeclare_any wb G base no fo n nc k fc (declN K (ps.take i)) b1 b2 d1 d2 ps[i] (by omega) (by omega) (by omega) wr hbr HWi.out)
   unfold DPost at HD
   rw [← declN_take K hil] at HD
   obtain ⟨nx, hnx⟩ : ∃ nx, (declN K (ps.take i)).nx = nx := ⟨_, rfl⟩
   rw [hnx] at HD
   have hi1 : (i : Int) < (pk : Int) := by omega
   have hi0 : (0 : Int) ≤ (i : Int) := by omega
   generalize ps[i] = pi at *
   clear hpc hnx s1 s2 s3
   go_wp2_with fail
   refine HD.out.mono ?_
   rintro e w5 ⟨f1, h1, f2, h2, rfl, ⟨hW5, hf1, hf2⟩, hM5⟩
   have HW5 := Lib.hid hW5
   have hwr := HMi.out.size
   have HM5 := Lib.hid (HMi.out.trans hM5 (fun x hx => by
    rcases hx with q | q | q | q
    ·exact Or.inl (Or.inl q)
    ·exact Or.inl (Or.inr (Or.inl q))
    ·exact (HFi.out.1 x q).imp (fun h => Or.inr (Or.inr (Or.inl h))) (fun h => h)
    ·exact (HFi.out.2 x q).imp (fun h => Or.inr (Or.inr (Or.inr h))) (fun h => h)))
   have HF5 := Lib.hid (show (∀ x, OB f1 x → OB a1 x ∨ w.heap.size ≤ x) ∧ ∀ x, OB f2 x → OB a2 x ∨ w.heap.size ≤ x from ⟨fun x h => (hf1 x h).elim (fun h => HFi.out.1 x h) (fun h => Or.inr (Nat.le_trans hwr h)), fun x h => (hf2 x h).elim (fun h => HFi.out.2 x h) (fun h => Or.inr (Nat.le_trans hwr h))⟩)
   clear hW5 hf1 hf2 hM5 hwr
   go_wp2_with fail
   go_round
   case rel => exact ⟨i + 1, f1, h1, f2, h2, by go_num, by omega, HW5, HM5, HF5⟩
   case measure => first | (simp [intOf]; done) | (simp [intOf]; omega)
  ·obtain rfl : i = pk := by omega
   rw [List.take_of_length_le (by omega)] at HWi s1 s2 s3
   have HC := HV.out b (declN K ps) b1 d1 b2 d2 wr A B HL.out HAl.out (by omega) (by omega) (by omega) hbr B0i HWi.out
   rw [hkz] at HC
   have HC2 := Lib.hid HC
   have hwr := HMi.out.size
   clear HC s1 s2 s3
   go_wp2_with fail
   refine HC2.out.mono ?_
   rintro e w5 ⟨f1, h1, f2, h2, rfl, ⟨hW5, hf1, hf2⟩, hM5⟩
   have HW5 := Lib.hid hW5
   have HM5 := Lib.hid (HMi.out.trans hM5 (fun x hx => by
    rcases hx with q | q | q | q
    ·exact Or.inl (Or.inl q)
    ·exact Or.inl (Or.inr (Or.inl q))
    ·exact (HFi.out.1 x q).imp (fun h => Or.inr (Or.inr (Or.inl h))) (fun h => h)
    ·exact (HFi.out.2 x q).imp (fun h => Or.inr (Or.inr (Or.inr h))) (fun h => h)))
   have HF5 := Lib.hid (show (∀ x, OB f1 x → OB a1 x ∨ w.heap.size ≤ x) ∧ ∀ x, OB f2 x → OB a2 x ∨ w.heap.size ≤ x from ⟨fun x h => (hf1 x h).elim (fun h => HFi.out.1 x h) (fun h => Or.inr (Nat.le_trans hwr h)), fun x h => (hf2 x h).elim (fun h => HFi.out.2 x h) (fun h => Or.inr (Nat.le_trans hwr h))⟩)
   clear hW5 hf1 hf2 hM5 hwr
   go_wp2_with fail
   go_end0
   exact ⟨f1, h1, f2, h2, rfl, ⟨HW5.out, HF5.out.1, HF5.out.2⟩, HM5.out⟩
end Syn
end Go.Proofs.YtcapkeaedpabjaaGreatDoor

/-
 Layer 9, the reference: all.
-/
namespace Go.Proofs.YtcapkeaedpabjaaGreatDoor
open Go.RowKit Go.ChangeShapes Go.WideShapes
namespace Syn
theorem make_ints9 (n : Nat) (hn : n ≤ 1000) (W : World) : (Instr.makeSlice 38 (.int .i64 (n : Int)) (.int .i64 (n : Int))).run Tryz.prog W = .ok (.slice (some ⟨W.heap.size, 0, none⟩) n n) (W.alloc (.cells (madeCells #[.int .i64 0] n) 3)) := by
 obtain ⟨i0, hi, hz0, hz1, hz2⟩ := info_parts info_int
 have h := run_make (P := Tryz.prog) (w := W) 38 3 i0 _ Tryz.underlying38 hi hz0 .i64 .i64 (n : Int) (n : Int) (by omega) (by omega) (by rw [hz2]; omega) (by omega)
 rw [h, hz1]
 simp only [Int.toNat_natCast, Nat.mul_one]
 rfl
/-- The walk's state before its first function. -/
def wk0 (n : Nat) (v : Int) : Wk := ⟨[], [], 0, List.replicate n v, 0, 0⟩
theorem made_cell (Y : World) (n j : Nat) (t : TypeId) (hj : j < n) : (Y.alloc (.cells (madeCells #[.int .i64 0] n) t)).cell? ⟨Y.heap.size, j, none⟩ = some (.int .i64 0) := by
 rw [World.cell?_alloc_new]
 have : (madeCells #[Value.int .i64 0] n).toList[j]? = some (.int .i64 0) := by rw [toList_madeCells_one, List.getElem?_replicate, if_pos hj]
 simpa using this
theorem walk_new (Y : World) (t : TypeId) (c : Array Value) (j : Nat) (v : Value) (h : c[j]? = some v) : (Y.alloc (.cells c t)).cell? ⟨Y.heap.size, j, none⟩ = some v := by
 rw [World.cell?_alloc_new]
 exact h
/-- The row first, the struct behind it. -/
theorem first_a (no fo : Option Addr) (n nc k fc : Nat) (Y : World) (t t2 : TypeId) :
  WkAt ((Y.alloc (.cells (madeCells #[.int .i64 0] n) t)).alloc (.cells #[.slice no n nc, .slice fo k fc, .slice none 0 0, .slice none 0 0, .int .i64 0, .slice (some ⟨Y.heap.size, 0, none⟩) n n, .int .i64 0, .int .i64 0] t2)) (Y.heap.size + 1) Y.heap.size (Y.heap.size + 1 + 1) no fo n nc k fc (wk0 n 0) none 0 none 0 := by
 have hz : (Y.alloc (.cells (madeCells #[.int .i64 0] n) t)).heap.size = Y.heap.size + 1 := alloc_szs _ _
 have c := fun j v h => walk_new (Y.alloc (.cells (madeCells #[.int .i64 0] n) t)) t2 #[.slice no n nc, .slice fo k fc, .slice none 0 0, .slice none 0 0, .int .i64 0, .slice (some ⟨Y.heap.size, 0, none⟩) n n, .int .i64 0, .int .i64 0] j v h
 rw [hz] at c
 have g : Bel (Y.alloc (.cells (madeCells #[.int .i64 0] n) t)) ((Y.alloc (.cells (madeCells #[.int .i64 0] n) t)).alloc (.cells #[.slice no n nc, .slice fo k fc, .slice none 0 0, .slice none 0 0, .int .i64 0, .slice (some ⟨Y.heap.size, 0, none⟩) n n, .int .i64 0, .int .i64 0] t2)) := Bel.alloc (Bel.refl _) _
 refine ⟨c 0 _ rfl, c 1 _ rfl, c 2 _ rfl, c 3 _ rfl, c 4 _ rfl, c 5 _ rfl, c 6 _ rfl, c 7 _ rfl, fun j _ _ => by rw [← hz]; exact World.frozen?_alloc_new .., World.ownsRow_nil _ _ _ _, World.ownsRow_nil _ _ _ _, fun j hj => ?_, List.length_replicate, by omega, by omega, by omega, fun b hb => by cases hb⟩
 have hj' : j < n := by have : j < (List.replicate n (0 : Int)).length := hj; rwa [List.length_replicate] at this
 have e : (wk0 n 0).sl[j] = 0 := by show (List.replicate n (0 : Int))[j]'(by rw [List.length_replicate]; exact hj') = 0; rw [List.getElem_replicate]
 rw [e]
 have m := made_cell Y n j t hj'
 exact ⟨g.cell' m, (mod_froz (Mod.of_bel (F := fun _ => False) g) m (fun h => h)).trans (World.frozen?_alloc_new ..)⟩
/-- The struct first, the row behind it. -/
theorem first_b (no fo : Option Addr) (n nc k fc : Nat) (Y : World) (t t2 : TypeId) :
  WkAt ((Y.alloc (.cells #[.slice no n nc, .slice fo k fc, .slice none 0 0, .slice none 0 0, .int .i64 0, .slice (some ⟨Y.heap.size + 1, 0, none⟩) n n, .int .i64 0, .int .i64 0] t2)).alloc (.cells (madeCells #[.int .i64 0] n) t)) Y.heap.size (Y.heap.size + 1) (Y.heap.size + 1 + 1) no fo n nc k fc (wk0 n 0) none 0 none 0 := by
 have hz : (Y.alloc (.cells #[.slice no n nc, .slice fo k fc, .slice none 0 0, .slice none 0 0, .int .i64 0, .slice (some ⟨Y.heap.size + 1, 0, none⟩) n n, .int .i64 0, .int .i64 0] t2)).heap.size = Y.heap.size + 1 := alloc_szs _ _
 have g : Bel (Y.alloc (.cells #[.slice no n nc, .slice fo k fc, .slice none 0 0, .slice none 0 0, .int .i64 0, .slice (some ⟨Y.heap.size + 1, 0, none⟩) n n, .int .i64 0, .int .i64 0] t2)) ((Y.alloc (.cells #[.slice no n nc, .slice fo k fc, .slice none 0 0, .slice none 0 0, .int .i64 0, .slice (some ⟨Y.heap.size + 1, 0, none⟩) n n, .int .i64 0, .int .i64 0] t2)).alloc (.cells (madeCells #[.int .i64 0] n) t)) := Bel.alloc (Bel.refl _) _
 have c := fun j v h => g.cell' (walk_new Y t2 #[.slice no n nc, .slice fo k fc, .slice none 0 0, .slice none 0 0, .int .i64 0, .slice (some ⟨Y.heap.size + 1, 0, none⟩) n n, .int .i64 0, .int .i64 0] j v h)
 have c' := fun j v h => walk_new Y t2 #[.slice no n nc, .slice fo k fc, .slice none 0 0, .slice none 0 0, .int .i64 0, .slice (some ⟨Y.heap.size + 1, 0, none⟩) n n, .int .i64 0, .int .i64 0] j v h
 refine ⟨c 0 _ rfl, c 1 _ rfl, c 2 _ rfl, c 3 _ rfl, c 4 _ rfl, c 5 _ rfl, c 6 _ rfl, c 7 _ rfl, fun j h1 h2 => ?_, World.ownsRow_nil _ _ _ _, World.ownsRow_nil _ _ _ _, fun j hj => ?_, List.length_replicate, by omega, by omega, by omega, fun b hb => by cases hb⟩
 ·have hc : ∃ v, (Y.alloc (.cells #[.slice no n nc, .slice fo k fc, .slice none 0 0, .slice none 0 0, .int .i64 0, .slice (some ⟨Y.heap.size + 1, 0, none⟩) n n, .int .i64 0, .int .i64 0] t2)).cell? ⟨Y.heap.size, j, none⟩ = some v := by
   obtain rfl | rfl | rfl | rfl | rfl | rfl : j = 2 ∨ j = 3 ∨ j = 4 ∨ j = 5 ∨ j = 6 ∨ j = 7 := by omega
   ·exact ⟨_, c' 2 _ rfl⟩
   ·exact ⟨_, c' 3 _ rfl⟩
   ·exact ⟨_, c' 4 _ rfl⟩
   ·exact ⟨_, c' 5 _ rfl⟩
   ·exact ⟨_, c' 6 _ rfl⟩
   ·exact ⟨_, c' 7 _ rfl⟩
  obtain ⟨v, hv⟩ := hc
  exact (mod_froz (Mod.of_bel (F := fun _ => False) g) hv (fun h => h)).trans (World.frozen?_alloc_new ..)
 ·have hj' : j < n := by have : j < (List.replicate n (0 : Int)).length := hj; rwa [List.length_replicate] at this
  have e : (wk0 n 0).sl[j] = 0 := by show (List.replicate n (0 : Int))[j]'(by rw [List.length_replicate]; exact hj') = 0; rw [List.getElem_replicate]
  have m := made_cell (Y.alloc (.cells #[.slice no n nc, .slice fo k fc, .slice none 0 0, .slice none 0 0, .int .i64 0, .slice (some ⟨Y.heap.size + 1, 0, none⟩) n n, .int .i64 0, .int .i64 0] t2)) n j t hj'
  have f : ((Y.alloc (.cells #[.slice no n nc, .slice fo k fc, .slice none 0 0, .slice none 0 0, .int .i64 0, .slice (some ⟨Y.heap.size + 1, 0, none⟩) n n, .int .i64 0, .int .i64 0] t2)).alloc (.cells (madeCells #[.int .i64 0] n) t)).frozen? ⟨(Y.alloc (.cells #[.slice no n nc, .slice fo k fc, .slice none 0 0, .slice none 0 0, .int .i64 0, .slice (some ⟨Y.heap.size + 1, 0, none⟩) n n, .int .i64 0, .int .i64 0] t2)).heap.size, j, none⟩ = false := World.frozen?_alloc_new ..
  rw [hz] at m f
  rw [e]
  exact ⟨m, f⟩
end Syn
end Go.Proofs.YtcapkeaedpabjaaGreatDoor

/-
 Layer 9, the reference: all.
-/
namespace Go.Proofs.YtcapkeaedpabjaaGreatDoor
open Go.RowKit Go.ChangeShapes Go.WideShapes
namespace Syn
theorem all_small {L : List Nd} {F : List Fw} (hc : chkE L F = 0) : L.length ≤ 600 ∧ F.length ≤ 16 := by
 unfold chkE at hc
 split at hc
 ·cases hc
 ·omega
/-- What all answers of a program that syntax.Check accepts. -/
def AllPost (w : World) (no fo : Option Addr) (n nc k fc : Nat) (L : List Nd) (F : List Fw) (e : Ending) (w' : World) : Prop :=
 ∃ fs : List Fu, (L = flatF 0 fs ∧ F = funcF 0 fs ∧ ∀ f ∈ fs, goodFu f) ∧ ∃ (G : Nat) (a1 a2 : Option Addr) (m1 c1 m2 c2 : Nat), e = .returned (.agg #[.slice no n nc, .slice fo k fc, .slice a1 m1 c1, .slice a2 m2 c2, .int .i64 ((walkR F fs).nx : Int), .slice (some ⟨G, 0, none⟩) n n, .int .i64 (walkR F fs).nd, .int .i64 (walkR F fs).er]) ∧ RArg w' (some ⟨G, 0, none⟩) n (walkR F fs).sl ∧ Bel w w'
/-- How far the walk through all functions has come. -/
structure AllIn (L : List Nd) (F : List Fw) (fs : List Fu) (b q : Nat) (A : List Nd) (K X : Wk) : Prop where
 len : A.length = b
 nodes : L = A ++ flatF b (fs.drop q)
 funcs : F.drop q = funcF b (fs.drop q)
 walk : allR (wantI F) b (fs.drop q) K = X
theorem AllIn.at {L : List Nd} {F : List Fw} {fs : List Fu} {b q : Nat} {A : List Nd} {K X : Wk} (h : AllIn L F fs b q A K X) (hq : q < fs.length) :
  ∃ u : Fu, L = A ++ flat b u.body ++ flatF (b + size u.body) (fs.drop (q + 1)) ∧ F[q]? = some ⟨u.name, u.params, ((b + size u.body - 1 : Nat) : Int)⟩ ∧ AllIn L F fs (b + size u.body) (q + 1) (A ++ flat b u.body) (visT (wantI F) b u.body (K.start u.params)) X := by
 obtain ⟨h1, h2, h3, h4⟩ := h
 rw [List.drop_eq_getElem_cons hq] at h2 h3 h4
 rw [flatF] at h2
 rw [funcF] at h3
 rw [allR] at h4
 refine ⟨fs[q], by rw [List.append_assoc]; exact h2, ?_, ⟨by rw [List.length_append, flat_len, h1], by rw [List.append_assoc]; exact h2, ?_, h4⟩⟩
 ·have := congrArg (fun l => l[0]?) h3
  simpa using this
 ·have := congrArg (fun l => l.drop 1) h3
  simpa [List.drop_drop, Nat.add_comm] using this
theorem AllIn.fin {L : List Nd} {F : List Fw} {fs : List Fu} {b q : Nat} {A : List Nd} {K X : Wk} (h : AllIn L F fs b q A K X) (hq : fs.length ≤ q) : K = X := by
 have := h.walk
 rw [List.drop_eq_nil_of_le hq, allR] at this
 exact this
theorem rep_step {n i : Nat} (hi : i < n) : (List.replicate i (-1 : Int) ++ List.replicate (n - i) 0).set i (-1) = List.replicate (i + 1) (-1) ++ List.replicate (n - (i + 1)) 0 := by
 rw [List.set_append, if_neg (by simp), List.length_replicate, Nat.sub_self, show n - i = (n - (i + 1)) + 1 by omega, List.replicate_succ, List.set_cons_zero, List.replicate_succ', List.append_assoc]
 rfl
theorem wk_row {w : World} {wb G base : Nat} {no fo : Option Addr} {n nc k fc : Nat} {K : Wk} {a1 a2 : Option Addr} {c1 c2 : Nat} (h : WkAt w wb G base no fo n nc k fc K a1 c1 a2 c2) {w' : World} {S : Nat → Prop} (g : Mod S w w') (hG : ¬ S G) : RArg w' (some ⟨G, 0, none⟩) n K.sl := ⟨h.len, fun _ => ⟨G, 0, rfl, fun i hi => by rw [Nat.zero_add]; exact g.cell (h.row i hi).1 hG⟩⟩
set_option maxHeartbeats 4000000 in
/-- Eight cells that are stored to, one after the other. -/
theorem eight_cells {w1 : World} {G : Nat} {u0 u1 u2 u3 u4 u5 u6 u7 : Value} (x0 x1 x2 x3 x4 x5 x6 x7 : Value) (z0 : w1.cell? ⟨G, 0, none⟩ = some u0) (z1 : w1.cell? ⟨G, 1, none⟩ = some u1) (z2 : w1.cell? ⟨G, 2, none⟩ = some u2) (z3 : w1.cell? ⟨G, 3, none⟩ = some u3) (z4 : w1.cell? ⟨G, 4, none⟩ = some u4) (z5 : w1.cell? ⟨G, 5, none⟩ = some u5) (z6 : w1.cell? ⟨G, 6, none⟩ = some u6) (z7 : w1.cell? ⟨G, 7, none⟩ = some u7) :
  (((((((((w1.setCell ⟨G, 0, none⟩ x0).setCell ⟨G, 1, none⟩ x1).setCell ⟨G, 2, none⟩ x2).setCell ⟨G, 3, none⟩ x3).setCell ⟨G, 4, none⟩ x4).setCell ⟨G, 5, none⟩ x5).setCell ⟨G, 6, none⟩ x6).setCell ⟨G, 7, none⟩ x7).cell? ⟨G, 0, none⟩ = some x0 ∧ ((((((((w1.setCell ⟨G, 0, none⟩ x0).setCell ⟨G, 1, none⟩ x1).setCell ⟨G, 2, none⟩ x2).setCell ⟨G, 3, none⟩ x3).setCell ⟨G, 4, none⟩ x4).setCell ⟨G, 5, none⟩ x5).setCell ⟨G, 6, none⟩ x6).setCell ⟨G, 7, none⟩ x7).cell? ⟨G, 1, none⟩ = some x1 ∧ ((((((((w1.setCell ⟨G, 0, none⟩ x0).setCell ⟨G, 1, none⟩ x1).setCell ⟨G, 2, none⟩ x2).setCell ⟨G, 3, none⟩ x3).setCell ⟨G, 4, none⟩ x4).setCell ⟨G, 5, none⟩ x5).setCell ⟨G, 6, none⟩ x6).setCell ⟨G, 7, none⟩ x7).cell? ⟨G, 2, none⟩ = some x2 ∧ ((((((((w1.setCell ⟨G, 0, none⟩ x0).setCell ⟨G, 1, none⟩ x1).setCell ⟨G, 2, none⟩ x2).setCell ⟨G, 3, none⟩ x3).setCell ⟨G, 4, none⟩ x4).setCell ⟨G, 5, none⟩ x5).setCell ⟨G, 6, none⟩ x6).setCell ⟨G, 7, none⟩ x7).cell? ⟨G, 3, none⟩ = some x3 ∧ ((((((((w1.setCell ⟨G, 0, none⟩ x0).setCell ⟨G, 1, none⟩ x1).setCell ⟨G, 2, none⟩ x2).setCell ⟨G, 3, none⟩ x3).setCell ⟨G, 4, none⟩ x4).setCell ⟨G, 5, none⟩ x5).setCell ⟨G, 6, none⟩ x6).setCell ⟨G, 7, none⟩ x7).cell? ⟨G, 4, none⟩ = some x4 ∧ ((((((((w1.setCell ⟨G, 0, none⟩ x0).setCell ⟨G, 1, none⟩ x1).setCell ⟨G, 2, none⟩ x2).setCell ⟨G, 3, none⟩ x3).setCell ⟨G, 4, none⟩ x4).setCell ⟨G, 5, none⟩ x5).setCell ⟨G, 6, none⟩ x6).setCell ⟨G, 7, none⟩ x7).cell? ⟨G, 5, none⟩ = some x5 ∧ ((((((((w1.setCell ⟨G, 0, none⟩ x0).setCell ⟨G, 1, none⟩ x1).setCell ⟨G, 2, none⟩ x2).setCell ⟨G, 3, none⟩ x3).setCell ⟨G, 4, none⟩ x4).setCell ⟨G, 5, none⟩ x5).setCell ⟨G, 6, none⟩ x6).setCell ⟨G, 7, none⟩ x7).cell? ⟨G, 6, none⟩ = some x6 ∧ ((((((((w1.setCell ⟨G, 0, none⟩ x0).setCell ⟨G, 1, none⟩ x1).setCell ⟨G, 2, none⟩ x2).setCell ⟨G, 3, none⟩ x3).setCell ⟨G, 4, none⟩ x4).setCell ⟨G, 5, none⟩ x5).setCell ⟨G, 6, none⟩ x6).setCell ⟨G, 7, none⟩ x7).cell? ⟨G, 7, none⟩ = some x7) ∧ Mod (fun b => b = G) w1 ((((((((w1.setCell ⟨G, 0, none⟩ x0).setCell ⟨G, 1, none⟩ x1).setCell ⟨G, 2, none⟩ x2).setCell ⟨G, 3, none⟩ x3).setCell ⟨G, 4, none⟩ x4).setCell ⟨G, 5, none⟩ x5).setCell ⟨G, 6, none⟩ x6).setCell ⟨G, 7, none⟩ x7) := by
 have s1 : ∀ (W : World) (j : Nat) (u : Value) (k : Nat) (x : Value), k ≠ j → W.cell? ⟨G, j, none⟩ = some u → (W.setCell ⟨G, k, none⟩ x).cell? ⟨G, j, none⟩ = some u := fun W j u k x hkj h => (World.cell?_setCell_other _ _ _ _ (by intro e; exact hkj (congrArg Addr.off e))).trans h
 have s2 : ∀ (W : World) (j : Nat) (u x : Value), W.cell? ⟨G, j, none⟩ = some u → (W.setCell ⟨G, j, none⟩ x).cell? ⟨G, j, none⟩ = some x := fun W j u x h => World.cell?_setCell_same _ _ _ h
 have m1 : ∀ (W : World) (j : Nat) (x : Value), Mod (fun b => b = G) w1 W → Mod (fun b => b = G) w1 (W.setCell ⟨G, j, none⟩ x) := fun W j x h => h.setCell (p := ⟨G, j, none⟩) (Or.inl rfl) _
 refine ⟨⟨?_, ?_, ?_, ?_, ?_, ?_, ?_, ?_⟩, ?_⟩
 ·exact s1 _ 0 _ 7 _ (by decide) (s1 _ 0 _ 6 _ (by decide) (s1 _ 0 _ 5 _ (by decide) (s1 _ 0 _ 4 _ (by decide) (s1 _ 0 _ 3 _ (by decide) (s1 _ 0 _ 2 _ (by decide) (s1 _ 0 _ 1 _ (by decide) (s2 _ 0 _ _ (z0))))))))
 ·exact s1 _ 1 _ 7 _ (by decide) (s1 _ 1 _ 6 _ (by decide) (s1 _ 1 _ 5 _ (by decide) (s1 _ 1 _ 4 _ (by decide) (s1 _ 1 _ 3 _ (by decide) (s1 _ 1 _ 2 _ (by decide) (s2 _ 1 _ _ (s1 _ 1 _ 0 _ (by decide) (z1))))))))
 ·exact s1 _ 2 _ 7 _ (by decide) (s1 _ 2 _ 6 _ (by decide) (s1 _ 2 _ 5 _ (by decide) (s1 _ 2 _ 4 _ (by decide) (s1 _ 2 _ 3 _ (by decide) (s2 _ 2 _ _ (s1 _ 2 _ 1 _ (by decide) (s1 _ 2 _ 0 _ (by decide) (z2))))))))
 ·exact s1 _ 3 _ 7 _ (by decide) (s1 _ 3 _ 6 _ (by decide) (s1 _ 3 _ 5 _ (by decide) (s1 _ 3 _ 4 _ (by decide) (s2 _ 3 _ _ (s1 _ 3 _ 2 _ (by decide) (s1 _ 3 _ 1 _ (by decide) (s1 _ 3 _ 0 _ (by decide) (z3))))))))
 ·exact s1 _ 4 _ 7 _ (by decide) (s1 _ 4 _ 6 _ (by decide) (s1 _ 4 _ 5 _ (by decide) (s2 _ 4 _ _ (s1 _ 4 _ 3 _ (by decide) (s1 _ 4 _ 2 _ (by decide) (s1 _ 4 _ 1 _ (by decide) (s1 _ 4 _ 0 _ (by decide) (z4))))))))
 ·exact s1 _ 5 _ 7 _ (by decide) (s1 _ 5 _ 6 _ (by decide) (s2 _ 5 _ _ (s1 _ 5 _ 4 _ (by decide) (s1 _ 5 _ 3 _ (by decide) (s1 _ 5 _ 2 _ (by decide) (s1 _ 5 _ 1 _ (by decide) (s1 _ 5 _ 0 _ (by decide) (z5))))))))
 ·exact s1 _ 6 _ 7 _ (by decide) (s2 _ 6 _ _ (s1 _ 6 _ 5 _ (by decide) (s1 _ 6 _ 4 _ (by decide) (s1 _ 6 _ 3 _ (by decide) (s1 _ 6 _ 2 _ (by decide) (s1 _ 6 _ 1 _ (by decide) (s1 _ 6 _ 0 _ (by decide) (z6))))))))
 ·exact s2 _ 7 _ _ (s1 _ 7 _ 6 _ (by decide) (s1 _ 7 _ 5 _ (by decide) (s1 _ 7 _ 4 _ (by decide) (s1 _ 7 _ 3 _ (by decide) (s1 _ 7 _ 2 _ (by decide) (s1 _ 7 _ 1 _ (by decide) (s1 _ 7 _ 0 _ (by decide) (z7))))))))
 ·exact m1 _ 7 _ (m1 _ 6 _ (m1 _ 5 _ (m1 _ 4 _ (m1 _ 3 _ (m1 _ 2 _ (m1 _ 1 _ (m1 _ 0 _ (Mod.refl _ _))))))))
set_option maxRecDepth 100000 in
set_option maxHeartbeats 16000000 in
theorem rall_any (no fo : Option Addr) (n nc k fc : Nat) (L : List Nd) (F : List Fw) (hc : chkE L F = 0) (hps : ∀ x ∈ F, x.params.length ≤ 1000) (hkd : ∀ x ∈ L, x.kids.length ≤ 100000) (w : World) (hA : NArg w no n L) (hF : FArg w fo k F) :
  Calls Tryz.prog 55 #[.agg #[.slice no n nc, .slice fo k fc]] w (AllPost w no fo n nc k fc L F) := by
 obtain ⟨fs, hL, hFs, hgd⟩ := proper_good (chk_proper hc)
 obtain ⟨hn, hk⟩ := all_small hc
 have hLn := hA.1
 have hFk := hF.1
 rw [hLn] at hn
 rw [hFk] at hk
 have hmk := make_ints9 n (by omega)
 obtain ⟨V1, hV1⟩ : ∃ V1, w.alloc (.cells #[.slice no n nc, .slice fo k fc] 25) = V1 := ⟨_, rfl⟩
 obtain ⟨V, hV⟩ : ∃ V, V1.alloc (.cells #[.slice none 0 0, .slice none 0 0, .slice none 0 0, .slice none 0 0, .int .i64 0, .slice none 0 0, .int .i64 0, .int .i64 0] 84) = V := ⟨_, rfl⟩
 have hz1 : V1.heap.size = w.heap.size + 1 := by rw [← hV1, alloc_szs]
 have hz : V.heap.size = w.heap.size + 1 + 1 := by rw [← hV, alloc_szs, hz1]
 have B1 : Bel w V1 := by rw [← hV1]; exact Bel.alloc (Bel.refl _) _
 have B2 : Bel V1 V := by rw [← hV]; exact Bel.alloc (Bel.refl _) _
 obtain ⟨v0, v1⟩ : V.cell? ⟨w.heap.size, 0, none⟩ = some (.slice no n nc) ∧ V.cell? ⟨w.heap.size, 1, none⟩ = some (.slice fo k fc) :=
  ⟨B2.cell' (by rw [← hV1]; exact World.cell?_alloc_new ..), B2.cell' (by rw [← hV1]; exact World.cell?_alloc_new ..)⟩
 have hvr : V.cell? ⟨w.heap.size + 1, 0, none⟩ = some (.slice none 0 0) ∧ V.cell? ⟨w.heap.size + 1, 1, none⟩ = some (.slice none 0 0) ∧ V.cell? ⟨w.heap.size + 1, 2, none⟩ = some (.slice none 0 0) ∧ V.cell? ⟨w.heap.size + 1, 3, none⟩ = some (.slice none 0 0) ∧ V.cell? ⟨w.heap.size + 1, 4, none⟩ = some (.int .i64 0) ∧ V.cell? ⟨w.heap.size + 1, 5, none⟩ = some (.slice none 0 0) ∧ V.cell? ⟨w.heap.size + 1, 6, none⟩ = some (.int .i64 0) ∧ V.cell? ⟨w.heap.size + 1, 7, none⟩ = some (.int .i64 0) ∧ V.frozen? ⟨w.heap.size + 1, 0, none⟩ = false ∧ V.frozen? ⟨w.heap.size + 1, 1, none⟩ = false ∧ V.frozen? ⟨w.heap.size + 1, 2, none⟩ = false ∧ V.frozen? ⟨w.heap.size + 1, 3, none⟩ = false ∧ V.frozen? ⟨w.heap.size + 1, 4, none⟩ = false ∧ V.frozen? ⟨w.heap.size + 1, 5, none⟩ = false ∧ V.frozen? ⟨w.heap.size + 1, 6, none⟩ = false ∧ V.frozen? ⟨w.heap.size + 1, 7, none⟩ = false := by
  rw [← hV, ← hz1]
  exact ⟨World.cell?_alloc_new .., World.cell?_alloc_new .., World.cell?_alloc_new .., World.cell?_alloc_new .., World.cell?_alloc_new .., World.cell?_alloc_new .., World.cell?_alloc_new .., World.cell?_alloc_new .., World.frozen?_alloc_new .., World.frozen?_alloc_new .., World.frozen?_alloc_new .., World.frozen?_alloc_new .., World.frozen?_alloc_new .., World.frozen?_alloc_new .., World.frozen?_alloc_new .., World.frozen?_alloc_new ..⟩
 have HR := Lib.hid (show ∀ W, Bel V W → W.cell? ⟨w.heap.size + 1, 0, none⟩ = some (.slice none 0 0) ∧ W.cell? ⟨w.heap.size + 1, 1, none⟩ = some (.slice none 0 0) ∧ W.cell? ⟨w.heap.size + 1, 2, none⟩ = some (.slice none 0 0) ∧ W.cell? ⟨w.heap.size + 1, 3, none⟩ = some (.slice none 0 0) ∧ W.cell? ⟨w.heap.size + 1, 4, none⟩ = some (.int .i64 0) ∧ W.cell? ⟨w.heap.size + 1, 5, none⟩ = some (.slice none 0 0) ∧ W.cell? ⟨w.heap.size + 1, 6, none⟩ = some (.int .i64 0) ∧ W.cell? ⟨w.heap.size + 1, 7, none⟩ = some (.int .i64 0) ∧ W.frozen? ⟨w.heap.size + 1, 0, none⟩ = false ∧ W.frozen? ⟨w.heap.size + 1, 1, none⟩ = false ∧ W.frozen? ⟨w.heap.size + 1, 2, none⟩ = false ∧ W.frozen? ⟨w.heap.size + 1, 3, none⟩ = false ∧ W.frozen? ⟨w.heap.size + 1, 4, none⟩ = false ∧ W.frozen? ⟨w.heap.size + 1, 5, none⟩ = false ∧ W.frozen? ⟨w.heap.size + 1, 6, none⟩ = false ∧ W.frozen? ⟨w.heap.size + 1, 7, none⟩ = false from fun W B => by
  obtain ⟨r0, r1, r2, r3, r4, r5, r6, r7, r8, r9, r10, r11, r12, r13, r14, r15⟩ := hvr
  exact ⟨B.cell' r0, B.cell' r1, B.cell' r2, B.cell' r3, B.cell' r4, B.cell' r5, B.cell' r6, B.cell' r7, (mod_froz (Mod.of_bel (F := fun _ => False) B) r0 (fun h => h)).trans r8, (mod_froz (Mod.of_bel (F := fun _ => False) B) r1 (fun h => h)).trans r9, (mod_froz (Mod.of_bel (F := fun _ => False) B) r2 (fun h => h)).trans r10, (mod_froz (Mod.of_bel (F := fun _ => False) B) r3 (fun h => h)).trans r11, (mod_froz (Mod.of_bel (F := fun _ => False) B) r4 (fun h => h)).trans r12, (mod_froz (Mod.of_bel (F := fun _ => False) B) r5 (fun h => h)).trans r13, (mod_froz (Mod.of_bel (F := fun _ => False) B) r6 (fun h => h)).trans r14, (mod_froz (Mod.of_bel (F := fun _ => False) B) r7 (fun h => h)).trans r15⟩)
 have HVe := Lib.hid (show (w.alloc (.cells #[.slice no n nc, .slice fo k fc] 25)).alloc (.cells #[.slice none 0 0, .slice none 0 0, .slice none 0 0, .slice none 0 0, .int .i64 0, .slice none 0 0, .int .i64 0, .int .i64 0] 84) = V by rw [hV1, hV])
 have HV0 := Lib.hid v0
 have HV1 := Lib.hid v1
 have HBV := Lib.hid (Bel.trans B1 B2)
 have Hz := Lib.hid hz
 have HLn := Lib.hid hLn
 have HFk := Lib.hid hFk
 have hfsl : fs.length = k := by rw [← hFk, hFs, funcF_len]
 have Hfsl := Lib.hid hfsl
 have HI0 := Lib.hid (show AllIn L F fs 0 0 [] (wk0 n (-1)) (walkR F fs) from ⟨rfl, by rw [List.nil_append]; exact hL, hFs, by
  have : sizeF fs = n := by rw [← hLn, hL, flatF_len]
  unfold walkR
  rw [this]
  rfl⟩)
 have HEn := Lib.hid (show ∀ wb G base : Nat, w.heap.size + 1 + 1 ≤ wb → w.heap.size + 1 + 1 ≤ G → w.heap.size + 1 + 1 ≤ base → VEnv V wb G base no fo n k L F from fun wb G base h1 h2 h3 => ⟨hA.on (Bel.trans B1 B2), hF.on (Bel.trans B1 B2), by omega, by omega, by omega, by omega, by omega, hkd, hps⟩)
 have HPo := Lib.hid (show L = flatF 0 fs ∧ F = funcF 0 fs ∧ ∀ f ∈ fs, goodFu f from ⟨hL, hFs, hgd⟩)
 clear hV hV1 hz1 B1 B2 v0 v1 hvr hA hF hps hkd hc hL hFs hgd hfsl hLn hFk hz
 go_enter Tryz.func55, Tryz.ntmps55
 go_upto_region 1 with (fail)
 rw [HVe.out]
 have v0 := HV0.out
 have v1 := HV1.out
 have hz := Hz.out
 go_region
 ·obtain ⟨Y, hY⟩ : ∃ Y, ((V.alloc (.cells (madeCells #[.int .i64 0] n) 3)).alloc (.cells #[.slice no n nc, .slice fo k fc, .slice none 0 0, .slice none 0 0, .int .i64 0, .slice (some ⟨w.heap.size + 1 + 1, 0, none⟩) n n, .int .i64 0, .int .i64 0] 84)).drew = Y := ⟨_, rfl⟩
  rw [hY]
  have hW0 := (first_a no fo n nc k fc V 3 84).bel (Below.drew (Bel.refl _))
  rw [Hz.out, hY] at hW0
  have hBY : Bel V Y := by rw [← hY]; exact Below.drew (Bel.alloc (Bel.alloc (Bel.refl _) _) _)
  have hYz : w.heap.size + 1 + 1 + 1 + 1 ≤ Y.heap.size := by
   have e1 : Y.heap.size = (V.heap.size + 1) + 1 := by rw [← hY]; exact (alloc_szs _ _).trans (by rw [alloc_szs])
   have := Hz.out
   omega
  clear hY
  have HE := Lib.hid (HEn.out (w.heap.size + 1 + 1 + 1) (w.heap.size + 1 + 1) (w.heap.size + 1 + 1 + 1 + 1) (by omega) (by omega) (by omega))
  obtain ⟨base, hbase⟩ : ∃ base, w.heap.size + 1 + 1 + 1 + 1 = base := ⟨_, rfl⟩
  rw [hbase] at HE hW0 hYz
  obtain ⟨wb, hwb⟩ : ∃ wb, w.heap.size + 1 + 1 + 1 = wb := ⟨_, rfl⟩
  rw [hwb] at HE hW0 ⊢
  obtain ⟨G, hG⟩ : ∃ G, w.heap.size + 1 + 1 = G := ⟨_, rfl⟩
  rw [hG] at HE hW0 ⊢
  have hwbl : w.heap.size + 2 ≤ wb := by omega
  have hGl : w.heap.size + 2 ≤ G := by omega
  clear hwb hG hbase
  have HW0 := Lib.hid (show WkAt Y wb G base no fo n nc k fc { wk0 n 0 with sl := List.replicate 0 (-1) ++ List.replicate (n - 0) 0 } none 0 none 0 from hW0)
  have HBY := Lib.hid hBY
  have HYz := Lib.hid hYz
  clear hW0 hBY hYz v0 v1 hz
  go_wp2_with fail
  go_loopw [4] (fun iv wr => ∃ i : Nat, iv = .int .i64 (i : Int) ∧ i ≤ n ∧ Hid (WkAt wr wb G base no fo n nc k fc { wk0 n 0 with sl := List.replicate i (-1) ++ List.replicate (n - i) 0 } none 0 none 0) ∧ Hid (Mod (fun b => b = G) Y wr)) (fun iv _ => n - (intOf iv).toNat)
  case atStart => exact ⟨0, rfl, Nat.zero_le _, HW0, Lib.hid (Mod.refl _ _)⟩
  case round =>
   obtain ⟨i, rfl, hi, HWi, HMi⟩ := hrel
   rename World => wr
   have e5 := HWi.out.e5
   rcases Nat.lt_or_ge i n with hin | hin
   ·obtain ⟨r0, r1⟩ := HWi.out.row i (by show i < (List.replicate i (-1 : Int) ++ List.replicate (n - i) 0).length; rw [List.length_append, List.length_replicate, List.length_replicate]; omega)
    have hP := HWi.out.put i (-1)
    have HP := Lib.hid (show WkAt (wr.setCell ⟨G, i, none⟩ (.int .i64 (-1))) wb G base no fo n nc k fc { wk0 n 0 with sl := List.replicate (i + 1) (-1) ++ List.replicate (n - (i + 1)) 0 } none 0 none 0 by rw [← rep_step hin]; exact hP)
    generalize ((({ wk0 n 0 with sl := List.replicate i (-1) ++ List.replicate (n - i) 0 } : Wk).sl[i]'_) : Int) = zi at r0
    have hi1 : (i : Int) < (n : Int) := by omega
    have hi0 : (0 : Int) ≤ (i : Int) := by omega
    clear hP
    go_wp2_with fail
    go_round
    case rel => exact ⟨i + 1, by go_num, by omega, HP, Lib.hid (HMi.out.setCell (p := ⟨G, i, none⟩) (Or.inl rfl) _)⟩
    case measure => first | (simp [intOf]; done) | (simp [intOf]; omega)
   ·obtain rfl : i = n := by omega
    have HW1 := Lib.hid (show WkAt wr wb G base no fo i nc k fc (wk0 i (-1)) none 0 none 0 by
     have := HWi.out
     rw [Nat.sub_self, List.replicate_zero, List.append_nil] at this
     exact this)
    have hgs := HMi.out.size
    have HB1 := Lib.hid (show Bel V wr from Mod.bel_of HBY.out HMi.out (fun x hx => by have := Hz.out; omega))
    have HS1 := Lib.hid (show base ≤ wr.heap.size from Nat.le_trans HYz.out hgs)
    clear hgs
    go_wp2_with fail
    go_loopw [5] (fun iv w5 => ∃ (q b : Nat) (A : List Nd) (K : Wk) (b1 b2 : Option Addr) (d1 d2 : Nat), iv = .int .i64 (q : Int) ∧ q ≤ k ∧ Hid (AllIn L F fs b q A K (walkR F fs)) ∧ Hid (WkAt w5 wb G base no fo i nc k fc K b1 d1 b2 d2) ∧ Hid (Bel V w5) ∧ Hid (base ≤ w5.heap.size)) (fun iv _ => k - (intOf iv).toNat)
    case atStart => exact ⟨0, 0, [], wk0 i (-1), none, none, 0, 0, rfl, Nat.zero_le _, HI0, HW1, HB1, HS1⟩
    case round =>
     obtain ⟨q, b, A, K, b1, b2, d1, d2, rfl, hq, HI, HW, HB, HS⟩ := hrel
     rename World => w5
     have v1 := HB.out.cell' HV1.out
     rcases Nat.lt_or_ge q k with hqk | hqk
     ·obtain ⟨u, hLu, hFu, hI2⟩ := HI.out.at (by rw [Hfsl.out]; exact hqk)
      have HC := Lib.hid (wrun_any V wb G base no fo i nc k fc L F HE.out q _ hFu u.body b A _ hLu HI.out.len rfl K b1 d1 b2 d2 w5 HS.out HB.out HW.out)
      have HI2 := Lib.hid hI2
      dsimp only at HC
      have Hold := Lib.hid (wk_old HE.out HW.out)
      have hqk' : (q : Int) < (k : Int) := by omega
      clear hLu hFu hI2
      go_wp2_with fail
      refine HC.out.mono ?_
      rintro e w6 ⟨f1, h1, f2, h2, rfl, ⟨hW6, -, -⟩, hM6⟩
      have HW6 := Lib.hid hW6
      have HB6 := Lib.hid (Mod.bel_of HB.out hM6 Hold.out)
      have HS6 := Lib.hid (Nat.le_trans HS.out hM6.size)
      clear hW6 hM6
      go_wp2_with fail
      go_round
      case rel => exact ⟨q + 1, _, _, _, f1, f2, h1, h2, by go_num, by omega, HI2, HW6, HB6, HS6⟩
      case measure => first | (simp [intOf]; done) | (simp [intOf]; omega)
     ·obtain rfl : q = k := by omega
      have hfin := HI.out.fin (by rw [Hfsl.out]; exact Nat.le_refl _)
      have Hfin := Lib.hid hfin
      rw [hfin] at HW
      obtain ⟨t0, t1, t2, t3, t4, t5, t6, t7, g0, g1, g2, g3, g4, g5, g6, g7⟩ := HR.out w5 HB.out
      have k0 := HW.out.p0
      have k1 := HW.out.p1
      have k2 := HW.out.e2
      have k3 := HW.out.e3
      have k4 := HW.out.e4
      have k5 := HW.out.e5
      have k6 := HW.out.e6
      have k7 := HW.out.e7
      have E8 := eight_cells (.slice no i nc) (.slice fo q fc) (.slice b1 (walkR F fs).nms.length d1) (.slice b2 (walkR F fs).sls.length d2) (.int .i64 ((walkR F fs).nx : Int)) (.slice (some ⟨G, 0, none⟩) i i) (.int .i64 (walkR F fs).nd) (.int .i64 (walkR F fs).er) t0 t1 t2 t3 t4 t5 t6 t7
      have HE8 := Lib.hid E8
      have HGne := Lib.hid (show ¬ G = w.heap.size + 1 by omega)
      clear E8
      go_wp2_with fail
      obtain ⟨⟨y0, y1, y2, y3, y4, y5, y6, y7⟩, hM8⟩ := HE8.out
      refine bodyPost_ret (v := .agg #[.slice no i nc, .slice fo q fc, .slice b1 (walkR F fs).nms.length d1, .slice b2 (walkR F fs).sls.length d2, .int .i64 ((walkR F fs).nx : Int), .slice (some ⟨G, 0, none⟩) i i, .int .i64 (walkR F fs).nd, .int .i64 (walkR F fs).er]) (by simp [results, Tryz.results55, go_sem, y0, y1, y2, y3, y4, y5, y6, y7]) rfl ?_
      exact ⟨fs, HPo.out, G, b1, b2, _, d1, _, d2, rfl, wk_row HW.out hM8 HGne.out, Mod.bel_of (Bel.trans HBV.out HB.out) hM8 (fun x hx => by omega)⟩
 ·obtain ⟨Y, hY⟩ : ∃ Y, ((V.alloc (.cells #[.slice no n nc, .slice fo k fc, .slice none 0 0, .slice none 0 0, .int .i64 0, .slice (some ⟨w.heap.size + 1 + 1 + 1, 0, none⟩) n n, .int .i64 0, .int .i64 0] 84)).alloc (.cells (madeCells #[.int .i64 0] n) 3)).drew = Y := ⟨_, rfl⟩
  rw [hY]
  have hW0 := (first_b no fo n nc k fc V 3 84).bel (Below.drew (Bel.refl _))
  rw [Hz.out, hY] at hW0
  have hBY : Bel V Y := by rw [← hY]; exact Below.drew (Bel.alloc (Bel.alloc (Bel.refl _) _) _)
  have hYz : w.heap.size + 1 + 1 + 1 + 1 ≤ Y.heap.size := by
   have e1 : Y.heap.size = (V.heap.size + 1) + 1 := by rw [← hY]; exact (alloc_szs _ _).trans (by rw [alloc_szs])
   have := Hz.out
   omega
  clear hY
  have HE := Lib.hid (HEn.out (w.heap.size + 1 + 1) (w.heap.size + 1 + 1 + 1) (w.heap.size + 1 + 1 + 1 + 1) (by omega) (by omega) (by omega))
  obtain ⟨base, hbase⟩ : ∃ base, w.heap.size + 1 + 1 + 1 + 1 = base := ⟨_, rfl⟩
  rw [hbase] at HE hW0 hYz
  obtain ⟨G, hG⟩ : ∃ G, w.heap.size + 1 + 1 + 1 = G := ⟨_, rfl⟩
  rw [hG] at HE hW0 ⊢
  obtain ⟨wb, hwb⟩ : ∃ wb, w.heap.size + 1 + 1 = wb := ⟨_, rfl⟩
  rw [hwb] at HE hW0 ⊢
  have hwbl : w.heap.size + 2 ≤ wb := by omega
  have hGl : w.heap.size + 2 ≤ G := by omega
  clear hwb hG hbase
  have HW0 := Lib.hid (show WkAt Y wb G base no fo n nc k fc { wk0 n 0 with sl := List.replicate 0 (-1) ++ List.replicate (n - 0) 0 } none 0 none 0 from hW0)
  have HBY := Lib.hid hBY
  have HYz := Lib.hid hYz
  clear hW0 hBY hYz v0 v1 hz
  go_wp2_with fail
  go_loopw [4] (fun iv wr => ∃ i : Nat, iv = .int .i64 (i : Int) ∧ i ≤ n ∧ Hid (WkAt wr wb G base no fo n nc k fc { wk0 n 0 with sl := List.replicate i (-1) ++ List.replicate (n - i) 0 } none 0 none 0) ∧ Hid (Mod (fun b => b = G) Y wr)) (fun iv _ => n - (intOf iv).toNat)
  case atStart => exact ⟨0, rfl, Nat.zero_le _, HW0, Lib.hid (Mod.refl _ _)⟩
  case round =>
   obtain ⟨i, rfl, hi, HWi, HMi⟩ := hrel
   rename World => wr
   have e5 := HWi.out.e5
   rcases Nat.lt_or_ge i n with hin | hin
   ·obtain ⟨r0, r1⟩ := HWi.out.row i (by show i < (List.replicate i (-1 : Int) ++ List.replicate (n - i) 0).length; rw [List.length_append, List.length_replicate, List.length_replicate]; omega)
    have hP := HWi.out.put i (-1)
    have HP := Lib.hid (show WkAt (wr.setCell ⟨G, i, none⟩ (.int .i64 (-1))) wb G base no fo n nc k fc { wk0 n 0 with sl := List.replicate (i + 1) (-1) ++ List.replicate (n - (i + 1)) 0 } none 0 none 0 by rw [← rep_step hin]; exact hP)
    generalize ((({ wk0 n 0 with sl := List.replicate i (-1) ++ List.replicate (n - i) 0 } : Wk).sl[i]'_) : Int) = zi at r0
    have hi1 : (i : Int) < (n : Int) := by omega
    have hi0 : (0 : Int) ≤ (i : Int) := by omega
    clear hP
    go_wp2_with fail
    go_round
    case rel => exact ⟨i + 1, by go_num, by omega, HP, Lib.hid (HMi.out.setCell (p := ⟨G, i, none⟩) (Or.inl rfl) _)⟩
    case measure => first | (simp [intOf]; done) | (simp [intOf]; omega)
   ·obtain rfl : i = n := by omega
    have HW1 := Lib.hid (show WkAt wr wb G base no fo i nc k fc (wk0 i (-1)) none 0 none 0 by
     have := HWi.out
     rw [Nat.sub_self, List.replicate_zero, List.append_nil] at this
     exact this)
    have hgs := HMi.out.size
    have HB1 := Lib.hid (show Bel V wr from Mod.bel_of HBY.out HMi.out (fun x hx => by have := Hz.out; omega))
    have HS1 := Lib.hid (show base ≤ wr.heap.size from Nat.le_trans HYz.out hgs)
    clear hgs
    go_wp2_with fail
    go_loopw [5] (fun iv w5 => ∃ (q b : Nat) (A : List Nd) (K : Wk) (b1 b2 : Option Addr) (d1 d2 : Nat), iv = .int .i64 (q : Int) ∧ q ≤ k ∧ Hid (AllIn L F fs b q A K (walkR F fs)) ∧ Hid (WkAt w5 wb G base no fo i nc k fc K b1 d1 b2 d2) ∧ Hid (Bel V w5) ∧ Hid (base ≤ w5.heap.size)) (fun iv _ => k - (intOf iv).toNat)
    case atStart => exact ⟨0, 0, [], wk0 i (-1), none, none, 0, 0, rfl, Nat.zero_le _, HI0, HW1, HB1, HS1⟩
    case round =>
     obtain ⟨q, b, A, K, b1, b2, d1, d2, rfl, hq, HI, HW, HB, HS⟩ := hrel
     rename World => w5
     have v1 := HB.out.cell' HV1.out
     rcases Nat.lt_or_ge q k with hqk | hqk
     ·obtain ⟨u, hLu, hFu, hI2⟩ := HI.out.at (by rw [Hfsl.out]; exact hqk)
      have HC := Lib.hid (wrun_any V wb G base no fo i nc k fc L F HE.out q _ hFu u.body b A _ hLu HI.out.len rfl K b1 d1 b2 d2 w5 HS.out HB.out HW.out)
      have HI2 := Lib.hid hI2
      dsimp only at HC
      have Hold := Lib.hid (wk_old HE.out HW.out)
      have hqk' : (q : Int) < (k : Int) := by omega
      clear hLu hFu hI2
      go_wp2_with fail
      refine HC.out.mono ?_
      rintro e w6 ⟨f1, h1, f2, h2, rfl, ⟨hW6, -, -⟩, hM6⟩
      have HW6 := Lib.hid hW6
      have HB6 := Lib.hid (Mod.bel_of HB.out hM6 Hold.out)
      have HS6 := Lib.hid (Nat.le_trans HS.out hM6.size)
      clear hW6 hM6
      go_wp2_with fail
      go_round
      case rel => exact ⟨q + 1, _, _, _, f1, f2, h1, h2, by go_num, by omega, HI2, HW6, HB6, HS6⟩
      case measure => first | (simp [intOf]; done) | (simp [intOf]; omega)
     ·obtain rfl : q = k := by omega
      have hfin := HI.out.fin (by rw [Hfsl.out]; exact Nat.le_refl _)
      have Hfin := Lib.hid hfin
      rw [hfin] at HW
      obtain ⟨t0, t1, t2, t3, t4, t5, t6, t7, g0, g1, g2, g3, g4, g5, g6, g7⟩ := HR.out w5 HB.out
      have k0 := HW.out.p0
      have k1 := HW.out.p1
      have k2 := HW.out.e2
      have k3 := HW.out.e3
      have k4 := HW.out.e4
      have k5 := HW.out.e5
      have k6 := HW.out.e6
      have k7 := HW.out.e7
      have E8 := eight_cells (.slice no i nc) (.slice fo q fc) (.slice b1 (walkR F fs).nms.length d1) (.slice b2 (walkR F fs).sls.length d2) (.int .i64 ((walkR F fs).nx : Int)) (.slice (some ⟨G, 0, none⟩) i i) (.int .i64 (walkR F fs).nd) (.int .i64 (walkR F fs).er) t0 t1 t2 t3 t4 t5 t6 t7
      have HE8 := Lib.hid E8
      have HGne := Lib.hid (show ¬ G = w.heap.size + 1 by omega)
      clear E8
      go_wp2_with fail
      obtain ⟨⟨y0, y1, y2, y3, y4, y5, y6, y7⟩, hM8⟩ := HE8.out
      refine bodyPost_ret (v := .agg #[.slice no i nc, .slice fo q fc, .slice b1 (walkR F fs).nms.length d1, .slice b2 (walkR F fs).sls.length d2, .int .i64 ((walkR F fs).nx : Int), .slice (some ⟨G, 0, none⟩) i i, .int .i64 (walkR F fs).nd, .int .i64 (walkR F fs).er]) (by simp [results, Tryz.results55, go_sem, y0, y1, y2, y3, y4, y5, y6, y7]) rfl ?_
      exact ⟨fs, HPo.out, G, b1, b2, _, d1, _, d2, rfl, wk_row HW.out hM8 HGne.out, Mod.bel_of (Bel.trans HBV.out HB.out) hM8 (fun x hx => by omega)⟩
end Syn
end Go.Proofs.YtcapkeaedpabjaaGreatDoor
