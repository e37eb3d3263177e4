/-
  Layer 8, texts merged: SzL, SynC, SynD. For every argument within the bounds that each theorem names.
-/
import Derived.Test.YtinadbomebgfaaaGreatDoorMF6
import Derived.Test.YtinadbomebgfaaaGreatDoorMF1
import Derived.Test.YtinadbomebgfaaaGreatDoorMC2

/-
  Layer 8: program, as the program has it.
-/
namespace Go.Proofs.YtinadbomebgfaaaGreatDoor
open Go.RowKit Go.ChangeShapes Go.WideShapes
namespace Syn

theorem rdG_go {n : Nat} {fs : List Fu} {f : Fu} {r r' : List Ck} (h : isT [102, 117, 110, 99] (hd r) = true) (hg : rdF n r.tail = .ok f r') : rdG (n + 1) fs r = rdG n (fs ++ [f]) r' := by rw [rdG, if_pos h, hg]
theorem rdG_bad {n : Nat} {fs : List Fu} {r r' : List Ck} (h : isT [102, 117, 110, 99] (hd r) = true) (hg : rdF n r.tail = .bad r') : rdG (n + 1) fs r = .bad r' := by rw [rdG, if_pos h, hg]
theorem rdG_end {n : Nat} {fs : List Fu} : rdG (n + 1) fs [] = .ok fs [] := by
  rw [rdG, if_neg (by decide), if_pos rfl]
theorem rdG_no {n : Nat} {fs : List Fu} {r : List Ck} (h : isT [102, 117, 110, 99] (hd r) = false) (h2 : r ≠ []) : rdG (n + 1) fs r = .bad r := by
  rw [rdG, if_neg (by rw [h]; decide), if_neg h2]
/-- What reading a program comes to. -/
def GPost (x : Cx) (X : RR (List Fu)) (w : World) (e : Ending) (w' : World) : Prop :=
  match X with
  | .ok fs _ => ∃ no nn nc fo m fc, e = .returned (.agg #[.slice no nn nc, .slice fo m fc]) ∧ nn ≤ nc ∧ m ≤ fc ∧ NArg w' no nn (flatF 0 fs) ∧ FArg w' fo m (funcF 0 fs) ∧ Mod (fun k => k = x.g) w w' ∧ nn ≤ 1000 ∧ m ≤ 1000
  | .bad r => Stops x none w e w' r
set_option maxRecDepth 100000 in
set_option maxHeartbeats 8000000 in
theorem program_any {x : Cx} (hpos : ∀ t ∈ x.T, ¬ t.1.1 = 0) (w : World) (h : RS x (fun b => b = x.g) 0 none 0 0 [] w) (f : Nat) (hf : 20 * x.T.length + 1 ≤ f) :
    Calls Tryz.prog 26 #[.pointer (some ⟨x.g, 0, none⟩)] w (GPost x (rdG f [] (x.at 0)) w) := by
  obtain ⟨W0, hW0⟩ : ∃ W0, w.alloc (.cells #[.slice none 0 0, .slice none 0 0] 25) = W0 := ⟨_, rfl⟩
  have B : Bel w W0 := by rw [← hW0]; exact Bel.alloc (Bel.refl w) _
  have v0 : W0.cell? ⟨w.heap.size, 0, none⟩ = some (.slice none 0 0) := by rw [← hW0]; exact World.cell?_alloc_new ..
  have v1 : W0.cell? ⟨w.heap.size, 1, none⟩ = some (.slice none 0 0) := by rw [← hW0]; exact World.cell?_alloc_new ..
  have vf : ∀ j, W0.frozen? ⟨w.heap.size, j, none⟩ = false := fun j => by rw [← hW0]; exact World.frozen?_alloc_new _ _ _ _
  have hgl : x.g < w.heap.size := cell_lt' h.nod
  have hlt := h.lt
  have h0 : RS x (fun b => b = x.g ∨ b = w.heap.size ∨ False ∨ Blk none b) 0 none 0 0 [] W0 := h.wide B (fun b hb => by
      rcases hb with q | q | q | ⟨_, q⟩
      · exact Or.inl q
      · exact Or.inr (by omega)
      · exact q.elim
      · cases q) (fun b hb => by
      rcases hb with q | q | q | ⟨_, q⟩
      · rw [q]; exact Nat.lt_of_lt_of_le hgl B.size
      · rw [q]; exact cell_lt' v0
      · exact q.elim
      · cases q) (Or.inl rfl)
  obtain ⟨X, hX⟩ : ∃ X, rdG f [] (x.at 0) = X := ⟨_, rfl⟩
  have HX := Lib.hid hX
  rw [hX]
  have H0 := Lib.hid h0
  have Hw0 := Lib.hid hW0
  have HB0 := Lib.hid B
  have Hpos := Lib.hid hpos
  have Hv := Lib.hid (show W0.cell? ⟨w.heap.size, 0, none⟩ = some (.slice none 0 0) ∧ W0.cell? ⟨w.heap.size, 1, none⟩ = some (.slice none 0 0) ∧ ∀ j, W0.frozen? ⟨w.heap.size, j, none⟩ = false from ⟨v0, v1, vf⟩)
  have Hlt := Lib.hid h.lt
  clear h hX h0 B hpos v0 v1 vf
  go_enter Tryz.func26, Tryz.ntmps26
  go_wp2_with fail
  clear hW0
  go_loopw [3] (fun fv wr => ∃ (fs : List Fu) (U : Nat → Prop) (p : Nat) (o : Option Addr) (c : Nat) (fo : Option Addr) (m fc f' : Nat), fv = .slice fo m fc ∧ Hid (RS x (fun b => b = x.g ∨ b = w.heap.size ∨ U b ∨ Blk fo b) p o (sizeF fs) c (flatF 0 fs) wr) ∧ Hid (FOwn U wr W0.heap.size fo m fc (funcF 0 fs)) ∧ Hid (RTo x.g none W0 o wr) ∧ Hid (∀ b, U b → W0.heap.size ≤ b) ∧ Hid (rdG f' fs (x.at p) = X) ∧ 20 * (x.T.length - p) + 1 ≤ f' ∧ Hid (m = fs.length) ∧ m ≤ p) (fun _ wr => left? x wr)
  case atStart => exact ⟨[], fun _ => False, 0, none, 0, none, 0, 0, f, rfl, H0, Lib.hid (FOwn.nil _ _ _), Lib.hid (RTo.refl _ _ _), Lib.hid (fun b q => q.elim), HX, by omega, Lib.hid rfl, Nat.le_refl _⟩
  case round =>
    obtain ⟨fs, U, p, o, c, fo, m, fc, f', rfl, HR, HF, HT, HU, HM, hf1, hm, hmp⟩ := hrel
    rename World => wr
    have hpos := HR.out.ts.pos
    have hlen := HR.out.ts.len
    obtain ⟨f', rfl⟩ : ∃ g, f' = g + 1 := ⟨f' - 1, by omega⟩
    rw [left_is HR.out.ts]
    clear H0
    cases hb : isT [102, 117, 110, 99] (hd (x.at p)) with
    | true =>
      have HA := Lib.hid (accept_yes [102, 117, 110, 99] wr HR.out hb)
      have hp := isT_lt hb
      have Hb := Lib.hid hb
      clear hb
      go_wp2_with fail
      refine HA.out.mono ?_
      rintro e w1 ⟨rfl, r1, t1⟩
      have HFn := Lib.hid (function_any w1 r1 f' (by omega))
      have T1 := Lib.hid t1
      clear r1 t1 HA
      go_wp2_with fail
      refine HFn.out.mono ?_
      intro e w2 h2
      clear HFn
      cases hg : rdF f' (x.at (p + 1)) with
      | bad r =>
        rw [hg] at h2
        have h3 := Stops.from (T1.out) h2
        have h4 := Stops.from (HT.out) h3
        have h5 := Stops.from (RTo.of_bel (g := x.g) (o := none) HB0.out) h4
        obtain ⟨rfl, H2⟩ := h5
        have H2c := Lib.hid H2
        have hz : Hid (X = .bad r) := Lib.hid (by rw [← HM.out, rdG_bad Hb.out (by rw [tail_at]; exact hg)])
        clear h2 h3 h4 H2
        go_wp2_with fail
        rw [hz.out]
        exact ⟨rfl, rfl, H2c.out⟩
      | ok u r =>
        rw [hg] at h2
        obtain ⟨po, k, pc, rfl, hkc, hK, hPn, hPl, p2, o2, c2, r2, t2, rfl, hp2, hs2⟩ := h2
        have t12 := T1.out.trans t2
        have hgo : ∀ b, W0.heap.size ≤ b → (U b ∨ Blk fo b) → ¬ (b = x.g ∨ Blk o b) := fun b hb1 hb q => by
          rcases q with q | q
          · have := HB0.out.size; omega
          · exact (HR.out.sl b (by rcases hb with z | z; exact Or.inr (Or.inr (Or.inl z)); exact Or.inr (Or.inr (Or.inr z)))).2 q
        have hF2 : FOwn U w2 W0.heap.size fo m fc (funcF 0 fs) := HF.out.mod t12.mod (fun b hb => hgo b (HU.out b hb) (Or.inl hb)) (fun b hb => hgo b (HF.out.blk hb).1 (Or.inr hb))
        have hsz12 := t12.mod.size
        have hszw : W0.heap.size ≤ w2.heap.size := Nat.le_trans HT.out.mod.size hsz12
        have hM2 : Hid (rdG f' (fs ++ [u]) (x.at p2) = X) := Lib.hid (by rw [← HM.out, rdG_go Hb.out (by rw [tail_at]; exact hg)])
        have B2 := Bel.alloc (Bel.refl w2) (.cells #[.string ⟨u.name.toArray⟩, .slice po k pc, .int .i64 ((sizeF fs : Int) + (size u.body : Int) - 1)] 53)
        have hnews : ∀ j v, (encF ⟨u.name, po, k, pc, (sizeF fs : Int) + (size u.body : Int) - 1⟩)[j]? = some v → (w2.alloc (.cells #[.string ⟨u.name.toArray⟩, .slice po k pc, .int .i64 ((sizeF fs : Int) + (size u.body : Int) - 1)] 53)).cell? ((⟨w2.heap.size, 0, none⟩ : Addr).add j) = some v := World.news_of_block (cs := #[.string ⟨u.name.toArray⟩, .slice po k pc, .int .i64 ((sizeF fs : Int) + (size u.body : Int) - 1)]) (t := 53) (fr := (0, 0)) (heap_new w2 _)
        have hpo : ∀ b, Blk po b → ¬ Blk fo b ∧ b < w2.heap.size := fun b hb => ⟨fun z => by have := hPn b hb; have := (HF.out.blk z).2; have := T1.out.mod.size; omega, (r2.sl b (Or.inr hb)).1⟩
        have Hf2 := Lib.hid (show FOwn (fun b => U b ∨ Blk po b) (w2.alloc (.cells #[.string ⟨u.name.toArray⟩, .slice po k pc, .int .i64 ((sizeF fs : Int) + (size u.body : Int) - 1)] 53)) W0.heap.size fo m fc (funcF 0 fs) from by
          obtain ⟨vs, a1, a2, a3, a4⟩ := hF2
          exact ⟨vs, own_belz a1 B2, a2, fun i a a' => (a3 i a a').on B2, fun v hv b hb => ⟨Or.inl (a4 v hv b hb).1, (a4 v hv b hb).2⟩⟩)
        have Hn := Lib.hid hnews
        have Hff := Lib.hid (show FFit (w2.alloc (.cells #[.string ⟨u.name.toArray⟩, .slice po k pc, .int .i64 ((sizeF fs : Int) + (size u.body : Int) - 1)] 53)) ⟨u.name, po, k, pc, (sizeF fs : Int) + (size u.body : Int) - 1⟩ ⟨u.name, u.params, (sizeF fs : Int) + (size u.body : Int) - 1⟩ from ⟨rfl, rfl, hK.on B2, hkc, fun _ => hPl⟩)
        have HUU := Lib.hid (show ∀ b, Blk po b → (U b ∨ Blk po b) ∧ ¬ Blk fo b ∧ b < (w2.alloc (.cells #[.string ⟨u.name.toArray⟩, .slice po k pc, .int .i64 ((sizeF fs : Int) + (size u.body : Int) - 1)] 53)).heap.size from fun b hb => ⟨Or.inr hb, (hpo b hb).1, Nat.lt_of_lt_of_le (hpo b hb).2 B2.size⟩)
        have HUl := Lib.hid (show ∀ b, (U b ∨ Blk po b) → b < (w2.alloc (.cells #[.string ⟨u.name.toArray⟩, .slice po k pc, .int .i64 ((sizeF fs : Int) + (size u.body : Int) - 1)] 53)).heap.size from fun b hb => Nat.lt_of_lt_of_le (r2.sl b (by rcases hb with q | q; exact Or.inl (Or.inr (Or.inr (Or.inl q))); exact Or.inr q)).1 B2.size)
        have Hbs : Hid (W0.heap.size ≤ (w2.alloc (.cells #[.string ⟨u.name.toArray⟩, .slice po k pc, .int .i64 ((sizeF fs : Int) + (size u.body : Int) - 1)] 53)).heap.size) := Lib.hid (Nat.le_trans hszw B2.size)
        have R2 := Lib.hid (r2.on B2)
        have T2 := Lib.hid ((HT.out.trans t12).bel B2)
        have hkk := Lib.hid (fun b (hb : Blk po b) => Nat.le_trans (Nat.le_trans HT.out.mod.size T1.out.mod.size) (hPn b hb))
        have hm1 : m ≤ 100000 := by omega
        have ppos := r2.ts.pos
        have Hfb := Lib.hid (fun b (hb : Blk fo b) => HF.out.blk hb)
        clear r2 t2 t12 hF2 B2 hnews hpo hg hK hgo hPl hPn
        go_wp2_with (at_builtin; refine list_appF (v := ⟨u.name, po, k, pc, (sizeF fs : Int) + (size u.body : Int) - 1⟩) _ _ rfl rfl rfl rfl rfl Hbs.out Hf2.out Hn.out Hff.out HUU.out HUl.out hm1 ?_; intro o3 c3 w3 g3 k3 l3; refine Hid.out ?_)
        refine Lib.hid ?_
        have m3 : Mod (fun b => Blk fo b) _ w3 := Mod.grown g3.out (fun b hb => by
          obtain ⟨vs, a1, -⟩ := Hf2.out
          exact (blk_of a1).2 hb)
        have hxg : ∀ b, Blk fo b → b ≠ x.g ∧ b ≠ x.tb := fun b hb => by have := (Hfb.out b hb).1; have := HB0.out.size; have := Hlt.out; omega
        have l0 := fun b (hb : Blk o3 b) => k3.out.blk hb
        have r3 : RS x (fun b => b = x.g ∨ b = w.heap.size ∨ (U b ∨ Blk po b) ∨ Blk o3 b) p2 o2 (sizeF fs + size u.body) c2 (flatF 0 fs ++ flat (sizeF fs) u.body) w3 := by
          refine R2.out.rows m3 (fun b hb => Or.inl (Or.inr (Or.inr (Or.inr hb)))) (fun q => (hxg _ q).1 rfl) (fun q => (hxg _ q).2 rfl) (fun b hb => ?_) (fun b hb => ?_) (Or.inl rfl)
          · rcases hb with q | q | (q | q) | q
            · exact Or.inl (Or.inl (Or.inl q))
            · exact Or.inl (Or.inl (Or.inr (Or.inl q)))
            · exact Or.inl (Or.inl (Or.inr (Or.inr (Or.inl q))))
            · exact Or.inl (Or.inr q)
            · rcases l3.out b q with z | z
              · exact Or.inl (Or.inl (Or.inr (Or.inr (Or.inr z))))
              · exact Or.inr (by rw [z]; exact Nat.le_refl _)
          · rcases hb with q | q | (q | q) | q
            · exact Nat.lt_of_lt_of_le (R2.out.sl b (Or.inl (Or.inl q))).1 m3.size
            · exact Nat.lt_of_lt_of_le (R2.out.sl b (Or.inl (Or.inr (Or.inl q)))).1 m3.size
            · exact Nat.lt_of_lt_of_le (R2.out.sl b (Or.inl (Or.inr (Or.inr (Or.inl q))))).1 m3.size
            · exact Nat.lt_of_lt_of_le (R2.out.sl b (Or.inr q)).1 m3.size
            · exact (l0 b q).2
        have e1 : sizeF (fs ++ [u]) = sizeF fs + size u.body := by rw [sizeF_app, sizeF, sizeF, Nat.add_zero]
        have e2 : flatF 0 (fs ++ [u]) = flatF 0 fs ++ flat (sizeF fs) u.body := by rw [flatF_app, flatF, flatF, List.append_nil, Nat.zero_add]
        have hps := size_pos u.body
        have e3 : funcF 0 (fs ++ [u]) = funcF 0 fs ++ [⟨u.name, u.params, (sizeF fs : Int) + (size u.body : Int) - 1⟩] := by
          rw [funcF_app, funcF, funcF, Nat.zero_add, show ((sizeF fs + size u.body - 1 : Nat) : Int) = (sizeF fs : Int) + (size u.body : Int) - 1 by omega]
        have T3 : RTo x.g none W0 o2 w3 := ⟨T2.out.mod.trans m3 fun b hb => Or.inr (Hfb.out b hb).1, T2.out.at_⟩
        have ml := Lib.hid (left_is r3.ts)
        have R3 := Lib.hid r3
        have K3 := k3
        have T3' := Lib.hid T3
        have hmm := Lib.hid (show m + 1 = (fs ++ [u]).length by rw [List.length_append, List.length_singleton, ← hm.out])
        have HU3 := Lib.hid (show ∀ b, (U b ∨ Blk po b) → W0.heap.size ≤ b from fun b hb => hb.elim (HU.out b) (hkk.out b))
        clear r3 T3 m3 hxg l0
        go_wp2_with fail
        go_round
        case rel => exact ⟨fs ++ [u], fun b => U b ∨ Blk po b, p2, o2, c2, o3, m + 1, c3, f', rfl, Lib.hid (by rw [e1, e2]; exact R3.out), Lib.hid (by rw [e3]; exact K3.out), T3', HU3, hM2, by omega, hmm, by omega⟩
        case measure => rw [ml.out]; omega
    | false =>
      have HA := Lib.hid (accept_no [102, 117, 110, 99] wr HR.out hb)
      have Hb := Lib.hid hb
      clear hb
      go_wp2_with fail
      refine HA.out.mono ?_
      rintro e w1 ⟨rfl, r1, t1⟩
      have hgo : ∀ b, W0.heap.size ≤ b ∨ b = w.heap.size → (b = w.heap.size ∨ U b ∨ Blk fo b) → ¬ (b = x.g ∨ Blk o b) := fun b hb1 hb q => by
        rcases q with q | q
        · have := HB0.out.size; omega
        · exact (HR.out.sl b (Or.inr hb)).2 q
      have hF1 : FOwn U w1 W0.heap.size fo m fc (funcF 0 fs) := HF.out.mod t1.mod (fun b hb => hgo b (Or.inl (HU.out b hb)) (Or.inr (Or.inl hb))) (fun b hb => hgo b (Or.inl (HF.out.blk hb).1) (Or.inr (Or.inr hb)))
      have T1 := HT.out.trans t1
      have hw0 : ¬ (w.heap.size = x.g ∨ Blk (none : Option Addr) w.heap.size) := fun q => by
        rcases q with q | ⟨_, q⟩
        · omega
        · cases q
      have z0 := T1.mod.cell Hv.out.1 hw0
      have z1 := T1.mod.cell Hv.out.2.1 hw0
      have zl : w.heap.size < W0.heap.size := cell_lt' Hv.out.1
      have z2 : ∀ j, w1.frozen? ⟨w.heap.size, j, none⟩ = false := fun j => (World.frozen?_of_block (a := ⟨w.heap.size, j, none⟩) (T1.mod.block _ zl hw0)).trans (Hv.out.2.2 j)
      obtain ⟨m0, d, c0, y1, y2, y3⟩ := r1.ts.tok
      obtain ⟨t0, -, -, -⟩ := r1.ts.tks p r1.ts.pos
      have n1 := r1.nod
      have hcap := r1.own
      have R1 := Lib.hid r1
      have F1 := Lib.hid hF1
      have TT := Lib.hid T1
      have hx := hd_at x p
      generalize hq : p * 4 = z at *
      by_cases hr : x.at p = []
      · have hk0 : (x.tok p).1.1 = 0 := by rw [← hx, hr]; rfl
        rw [hk0] at t0
        have hz : Hid (X = .ok fs []) := Lib.hid (by rw [← HM.out, hr, rdG_end])
        clear r1 t1 hF1 T1 hgo hx HA y1 y2 y3 hq
        go_wp2
        have a0 := World.cell?_setCell_same w1 ⟨w.heap.size, 0, none⟩ (.slice o (sizeF fs) c) z0
        have a1 := World.cell?_setCell_same (w1.setCell ⟨w.heap.size, 0, none⟩ (.slice o (sizeF fs) c)) ⟨w.heap.size, 1, none⟩ (.slice fo m fc) ((World.cell?_setCell_other w1 ⟨w.heap.size, 0, none⟩ ⟨w.heap.size, 1, none⟩ _ (by simp)).trans z1)
        have a0' := (World.cell?_setCell_other (w1.setCell ⟨w.heap.size, 0, none⟩ (.slice o (sizeF fs) c)) ⟨w.heap.size, 1, none⟩ ⟨w.heap.size, 0, none⟩ (.slice fo m fc) (by simp)).trans a0
        have M : Mod (fun b => b = w.heap.size) w1 ((w1.setCell ⟨w.heap.size, 0, none⟩ (.slice o (sizeF fs) c)).setCell ⟨w.heap.size, 1, none⟩ (.slice fo m fc)) := ((Mod.refl (fun b => b = w.heap.size) w1).setCell (p := ⟨w.heap.size, 0, none⟩) (Or.inl rfl) _).setCell (p := ⟨w.heap.size, 1, none⟩) (Or.inl rfl) _
        generalize (w1.setCell ⟨w.heap.size, 0, none⟩ (.slice o (sizeF fs) c)).setCell ⟨w.heap.size, 1, none⟩ (.slice fo m fc) = w5 at *
        refine bodyPost_ret (v := .agg #[.slice o (sizeF fs) c, .slice fo m fc]) (by simp [results, Tryz.results26, go_sem, a0', a1]) rfl ?_
        rw [hz.out]
        have h5 : NOwn _ w5 x.base o (sizeF fs) c (flatF 0 fs) := R1.out.own.mod M (fun b hb => Or.inr (Or.inl hb)) (fun b hb q => (R1.out.sl _ (Or.inr (Or.inl q))).2 hb)
        have f5 : FOwn U w5 W0.heap.size fo m fc (funcF 0 fs) := F1.out.mod M (fun b hb q => by have := HU.out b hb; omega) (fun b hb q => by have := (F1.out.blk hb).1; omega)
        have hnc : sizeF fs ≤ c := by obtain ⟨vs, q, -⟩ := h5; exact own_cap q
        have hfc : m ≤ fc := by obtain ⟨vs, q, -⟩ := f5; exact own_cap q
        refine ⟨o, sizeF fs, c, fo, m, fc, rfl, hnc, hfc, h5.arg, f5.arg, ?_, by have := R1.out.np; omega, by omega⟩
        refine ((Mod.of_bel (F := fun k => k = x.g) HB0.out).trans TT.out.mod fun b hb => ?_).trans M fun b hb => Or.inr (by rw [hb]; exact Nat.le_refl _)
        rcases hb with q | ⟨_, q⟩
        · exact Or.inl q
        · cases q
      · have hlt2 : p < x.T.length := by
          rcases Nat.lt_or_ge p x.T.length with q | q
          · exact q
          · exact absurd (by unfold Cx.at; rw [List.drop_eq_nil_of_le q]; rfl) hr
        have hk0 : ¬ (x.tok p).1.1 = 0 := by
          unfold Cx.tok
          rw [List.getElem?_eq_getElem hlt2]
          exact Hpos.out _ (List.getElem_mem hlt2)
        have hz : Hid (X = .bad (x.at p)) := Lib.hid (by rw [← HM.out, rdG_no Hb.out hr])
        generalize (x.tok p).1.1 = tk at *
        clear r1 t1 hF1 T1 hgo hx HA y1 y2 y3 hq
        go_wp2
        rw [hz.out]
        exact ⟨rfl, Stops.from (RTo.of_bel (g := x.g) (o := none) HB0.out) ⟨rfl, TT.out.mod, p, R1.out.ts, rfl⟩⟩
end Syn
end Go.Proofs.YtinadbomebgfaaaGreatDoor

/-
  Layer 8, plainly: the pieces of a program as text.
-/
namespace Go.Proofs.YtinadbomebgfaaaGreatDoor
namespace Syn
/-- A text in pieces: tokens and blanks. -/
inductive It where
  | tok (c : Ck)
  | gap (b : UInt8)
def tk (c : Ck) : Lex.Tk := ⟨c.1, c.2.1, c.2.2, 0⟩
def txI : It → Txt
  | .tok c => Lex.wrt (tk c)
  | .gap b => [b]
def txt (l : List It) : Txt := l.flatMap txI
def ckI : It → Option Ck
  | .tok c => some c
  | .gap _ => none
def cks (l : List It) : List Ck := l.filterMap ckI
def FitI : List It → Txt → Prop
  | [], _ => True
  | .tok c :: l, r => (Lex.okT (tk c) = true ∧ ∀ b, (txt l ++ r).head? = some b → Lex.fitB (tk c) b = true) ∧ FitI l r
  | .gap b :: l, r => Lex.blankB b = true ∧ FitI l r
theorem txt_app (a b : List It) : txt (a ++ b) = txt a ++ txt b := by simp [txt]
theorem cks_app (a b : List It) : cks (a ++ b) = cks a ++ cks b := by simp [cks]
theorem fit_app : ∀ (a b : List It) (r : Txt), FitI (a ++ b) r ↔ FitI a (txt b ++ r) ∧ FitI b r
  | [], b, r => by simp [FitI]
  | .tok c :: l, b, r => by
    rw [List.cons_append, FitI, FitI, fit_app l b r, txt_app, List.append_assoc]
    simp only [and_assoc]
  | .gap c :: l, b, r => by
    rw [List.cons_append, FitI, FitI, fit_app l b r, and_assoc]
def wI (s : Txt) : It := .tok (2, s, 0)
def sI (s : Txt) : It := .tok (5, s, 0)
def nI (s : Txt) : It := .tok (1, s, 0)
def sp : It := .gap 32
/-- The level of a binary operator; 0: it is none. -/
def binL (s : Txt) : Nat :=
  if s = [111, 114] then 1 else if s = [97, 110, 100] then 2 else if (opsL 4).contains s then 4 else if (opsL 5).contains s then 5 else if (opsL 6).contains s then 6 else 0
def unaL (s : Txt) : Nat := if s = [110, 111, 116] then 3 else 7
def lvN (k : Int) (s : Txt) : Nat := if k = 8 then unaL s else if k = 9 then binL s else if k = 10 then 8 else 9
def lvT : T → Nat
  | .node k s _ _ _ => lvN k s
def leftL (l : Nat) : Nat := if l = 4 then 5 else l
/-- The level that a place requires. -/
def needL (k : Int) (s : Txt) (j : Nat) : Nat :=
  if k = 8 then unaL s else if k = 9 then (if j = 0 then leftL (binL s) else binL s + 1) else if k = 10 then (if j = 0 then 8 else 1) else 1
/-- Pieces with commas between them. -/
def sep : List (List It) → List It
  | [] => []
  | [a] => a
  | a :: r => a ++ sI [44] :: sp :: sep r
def keyed : List Txt → List (List It) → List (List It)
  | k :: ks, a :: r => (.tok (4, k, 0) :: sI [58] :: sp :: a) :: keyed ks r
  | _, _ => []
def opI (s : Txt) : It := if binL s ≤ 2 then wI s else sI s
def part (l : List (List It)) (j : Nat) : List It := l.getD j []
/-- An expression whose parts' pieces are these. -/
def bareI (k : Int) (s : Txt) (i : Int) (keys : List Txt) (l : List (List It)) : List It :=
  if k = 6 then sI [91] :: sep l ++ [sI [93]]
  else if k = 7 then sI [123] :: sep (keyed keys l) ++ [sI [125]]
  else if k = 8 then (if s = [110, 111, 116] then wI s :: sp :: part l 0 else sI [45] :: part l 0)
  else if k = 9 then part l 0 ++ sp :: opI s :: sp :: part l 1
  else if k = 10 then part l 0 ++ sI [91] :: part l 1 ++ [sI [93]]
  else if k = 11 then nI s :: sI [40] :: sep l ++ [sI [41]]
  else if k = 12 then .tok (6, s, 0) :: sI [40] :: sep l ++ [sI [41]]
  else if k = 2 then (if i = 0 then [wI [102, 97, 108, 115, 101]] else [wI [116, 114, 117, 101]])
  else if k = 3 then [.tok (3, [], i)]
  else if k = 4 then [.tok (4, s, 0)]
  else if k = 5 then [nI s]
  else [wI [110, 117, 108, 108]]
mutual
/-- The pieces of an expression. -/
def itE : T → List It
  | .node k s i keys ts => bareI k s i keys (itA (needL k s) 0 ts)
/-- The pieces of parts, in parentheses where their levels are below what their places require. -/
def itA (f : Nat → Nat) : Nat → Ts → List (List It)
  | _, .nil => []
  | j, .cons t r => (if lvT t < f j then sI [40] :: itE t ++ [sI [41]] else itE t) :: itA f (j + 1) r
end
def opd (need : Nat) (t : T) : List It := if lvT t < need then sI [40] :: itE t ++ [sI [41]] else itE t
def tabs (d : Nat) : List It := List.replicate d (.gap 9)
def firstI : Ts → List It
  | .nil => []
  | .cons t _ => opd 1 t
/-- A statement whose expression and blocks have these pieces. -/
def stI (k : Int) (s : Txt) (e : List It) (l : List (List It)) : List It :=
  if k = 13 then wI [108, 101, 116] :: sp :: nI s :: sp :: sI [61] :: sp :: e ++ [sI [59]]
  else if k = 14 then nI s :: sp :: sI [61] :: sp :: e ++ [sI [59]]
  else if k = 15 then wI [105, 102] :: sp :: e ++ sp :: part l 1 ++ (if l.length = 3 then sp :: wI [101, 108, 115, 101] :: sp :: part l 2 else [])
  else if k = 16 then wI [119, 104, 105, 108, 101] :: sp :: e ++ sp :: part l 1
  else if k = 17 then wI [114, 101, 116, 117, 114, 110] :: sp :: e ++ [sI [59]]
  else e ++ [sI [59]]
mutual
/-- A statement inside d blocks. -/
def itS (d : Nat) : T → List It
  | .node k s _ _ ts => stI k s (firstI ts) (itBs d ts)
def itBs (d : Nat) : Ts → List (List It)
  | .nil => []
  | .cons t r => itB d t :: itBs d r
/-- A block inside d others. -/
def itB (d : Nat) : T → List It
  | .node _ _ _ _ ts => sI [123] :: .gap 10 :: lines (d + 1) ts ++ tabs d ++ [sI [125]]
def lines (d : Nat) : Ts → List It
  | .nil => []
  | .cons t r => tabs d ++ itS d t ++ .gap 10 :: lines d r
end
def itF (f : Fu) : List It :=
  wI [102, 117, 110, 99] :: sp :: nI f.name :: sI [40] :: sep (f.params.map fun s => [nI s]) ++ sI [41] :: sp :: itB 0 f.body ++ [.gap 10]
def itW (fs : List Fu) : List It := fs.flatMap itF
end Syn
end Go.Proofs.YtinadbomebgfaaaGreatDoor

/-
  Layer 8, plainly: a tree that lies in a row of nodes, at a place.
-/
namespace Go.Proofs.YtinadbomebgfaaaGreatDoor
namespace Syn
mutual
/-- The node at the place is the tree's. -/
def At (L : List Nd) : Nat → T → Prop
  | z, .node k s i keys ts => ∃ kids, L[z]? = some ⟨k, s, i, keys, kids⟩ ∧ Ats L kids ts
def Ats (L : List Nd) : List Int → Ts → Prop
  | ks, .nil => ks = []
  | ks, .cons t r => ∃ (z : Nat) (l : List Int), ks = (z : Int) :: l ∧ At L z t ∧ Ats L l r
end
mutual
theorem at_flat : ∀ (t : T) (A B : List Nd), At (A ++ flat A.length t ++ B) (A.length + size t - 1) t
  | .node k s i keys ts, A, B => by
    unfold At
    refine ⟨roots A.length ts, ?_, ?_⟩
    · rw [flat, size, List.append_assoc, List.getElem?_append_right (by omega), List.append_assoc, List.getElem?_append_right (by rw [flats_len]; omega), flats_len]
      rw [show A.length + (sizes ts + 1) - 1 - A.length - sizes ts = 0 by omega]
      rfl
    · have := ats_flat ts A ([⟨k, s, i, keys, roots A.length ts⟩] ++ B)
      rw [flat, ← List.append_assoc A, List.append_assoc (A ++ _)]
      exact this
theorem ats_flat : ∀ (ts : Ts) (A B : List Nd), Ats (A ++ flats A.length ts ++ B) (roots A.length ts) ts
  | .nil, A, B => by
    unfold Ats
    rfl
  | .cons t r, A, B => by
    unfold Ats
    refine ⟨A.length + size t - 1, roots (A.length + size t) r, rfl, ?_, ?_⟩
    · have := at_flat t A (flats (A.length + size t) r ++ B)
      rw [flats, ← List.append_assoc A, List.append_assoc (A ++ _)]
      exact this
    · have := ats_flat r (A ++ flat A.length t) B
      rw [List.length_append, flat_len] at this
      rw [flats, ← List.append_assoc A]
      exact this
end
theorem ats_len {L : List Nd} : ∀ {ts : Ts} {ks : List Int}, Ats L ks ts → ks.length = count ts
  | .nil, ks, h => by
    unfold Ats at h
    rw [h]
    rfl
  | .cons t r, ks, h => by
    unfold Ats at h
    obtain ⟨z, l, rfl, -, h2⟩ := h
    rw [List.length_cons, ats_len h2, count]
/-- The tree at a function's body. -/
theorem at_func : ∀ (F : List Fu) (A B : List Nd) (i : Nat) (h : i < F.length), ∃ z : Nat, (funcF A.length F)[i]? = some ⟨F[i].name, F[i].params, (z : Int)⟩ ∧ At (A ++ flatF A.length F ++ B) z F[i].body
  | [], A, B, i, h => absurd h (Nat.not_lt_zero i)
  | f :: r, A, B, 0, h => by
    refine ⟨A.length + size f.body - 1, rfl, ?_⟩
    have := at_flat f.body A (flatF (A.length + size f.body) r ++ B)
    rw [flatF, ← List.append_assoc A, List.append_assoc (A ++ _)]
    exact this
  | f :: r, A, B, i + 1, h => by
    obtain ⟨z, h1, h2⟩ := at_func r (A ++ flat A.length f.body) B i (by simpa using h)
    rw [List.length_append, flat_len] at h1 h2
    refine ⟨z, h1, ?_⟩
    rw [flatF, ← List.append_assoc A]
    exact h2
end Syn
end Go.Proofs.YtinadbomebgfaaaGreatDoor
