/-
  Layer 8, texts merged: SrI, SrO. For every argument within the bounds that each theorem names.
-/
import Derived.Test.YtmifookckpelaaaGreatDoorMK3
import Derived.Test.YtmifookckpelaaaGreatDoorMK4
import Derived.Test.YtmifookckpelaaaGreatDoorMJ2
import Derived.Test.YtmifookckpelaaaGreatDoorMH3

/-
 Layer 8: the law Looks.
-/
namespace Go.Proofs.YtmifookckpelaaaGreatDoor
open Go.RowKit Go.ChangeShapes Go.WideShapes
namespace Syn
/-- Programs whose numbers and texts are within the reach. -/
structure Rch (L : List Nd) (F : List Fw) : Prop where
 wf : WfN L
 fn : ∀ x ∈ F, x.params.length ≤ 4611686018427387904 ∧ -9223372036854775808 ≤ x.body ∧ x.body ≤ 9223372036854775807
 sn : ∀ x ∈ L, Short x.s ∧ ∀ t ∈ x.keys, Short t
 sf : ∀ f ∈ F, Short f.name ∧ ∀ p ∈ f.params, Short p
set_option maxRecDepth 100000 in
set_option maxHeartbeats 8000000 in
theorem law_looks (no1 fo1 no2 fo2 : Option Addr) (n1 nc1 k1 fc1 n2 nc2 k2 fc2 : Nat) (L1 L2 : List Nd) (F1 F2 : List Fw) (s : Txt) (hn1 : n1 ≤ 4611686018427387904) (hn2 : n2 ≤ 4611686018427387904) (hk1 : k1 ≤ 4611686018427387904) (hk2 : k2 ≤ 4611686018427387904) (w : World) (hm : Lex.ML w) (hA1 : NArg w no1 n1 L1) (hA2 : NArg w no2 n2 L2) (hF1 : FArg w fo1 k1 F1) (hF2 : FArg w fo2 k2 F2) (hr1 : Rch L1 F1) (hr2 : Rch L2 F2) :
  Calls Tryz.prog 5 #[.agg #[.slice no1 n1 nc1, .slice fo1 k1 fc1], .agg #[.slice no2 n2 nc2, .slice fo2 k2 fc2], .string ⟨s.toArray⟩] w fun e w' => e = .returned (.bool true) ∧ Bel w w' := by
 obtain ⟨V, hV⟩ : ∃ V, w.alloc (.cells #[.slice no1 n1 nc1, .slice fo1 k1 fc1] 25) = V := ⟨_, rfl⟩
 obtain ⟨U, hU⟩ : ∃ U, V.alloc (.cells #[.slice no2 n2 nc2, .slice fo2 k2 fc2] 25) = U := ⟨_, rfl⟩
 have hz : V.heap.size = w.heap.size + 1 := by rw [← hV, alloc_sz]
 have BV : Bel w V := by rw [← hV]; exact Bel.alloc (Bel.refl w) _
 have BU : Bel V U := by rw [← hU]; exact Bel.alloc (Bel.refl V) _
 obtain ⟨v0, v1⟩ : V.cell? ⟨w.heap.size, 0, none⟩ = some (.slice no1 n1 nc1) ∧ V.cell? ⟨w.heap.size, 1, none⟩ = some (.slice fo1 k1 fc1) := by
  rw [← hV]
  exact ⟨World.cell?_alloc_new .., World.cell?_alloc_new ..⟩
 obtain ⟨u0, u1⟩ : U.cell? ⟨w.heap.size + 1, 0, none⟩ = some (.slice no2 n2 nc2) ∧ U.cell? ⟨w.heap.size + 1, 1, none⟩ = some (.slice fo2 k2 fc2) := by
  rw [← hU, ← hz]
  exact ⟨World.cell?_alloc_new .., World.cell?_alloc_new ..⟩
 have t0 := BU.cell' v0
 have t1 := BU.cell' v1
 have B := Bel.trans BV BU
 have HB := Lib.hid B
 obtain ⟨C, hC⟩ : ∃ C : World → Prop, C = fun W => W.cell? ⟨w.heap.size, 0, none⟩ = some (.slice no1 n1 nc1) ∧ W.cell? ⟨w.heap.size, 1, none⟩ = some (.slice fo1 k1 fc1) ∧ W.cell? ⟨w.heap.size + 1, 0, none⟩ = some (.slice no2 n2 nc2) ∧ W.cell? ⟨w.heap.size + 1, 1, none⟩ = some (.slice fo2 k2 fc2) ∧ Bel U W := ⟨_, rfl⟩
 have cU : C U.drew := by rw [hC]; exact ⟨t0, t1, u0, u1, Below.drew (Bel.refl _)⟩
 have cO : ∀ W, C W → W.cell? ⟨w.heap.size, 0, none⟩ = some (.slice no1 n1 nc1) ∧ W.cell? ⟨w.heap.size, 1, none⟩ = some (.slice fo1 k1 fc1) ∧ W.cell? ⟨w.heap.size + 1, 0, none⟩ = some (.slice no2 n2 nc2) ∧ W.cell? ⟨w.heap.size + 1, 1, none⟩ = some (.slice fo2 k2 fc2) ∧ Bel U W := fun W h => by rw [hC] at h; exact h
 have cK : ∀ W W', C W → Bel W W' → C W' := fun W W' h g => by
  rw [hC] at h ⊢
  exact ⟨g.cell' h.1, g.cell' h.2.1, g.cell' h.2.2.1, g.cell' h.2.2.2.1, Bel.trans h.2.2.2.2 g⟩
 have hp1 : ∀ x ∈ F1, x.params.length ≤ 4611686018427387904 := fun x h => (hr1.fn x h).1
 have hp2 : ∀ x ∈ F2, x.params.length ≤ 4611686018427387904 := fun x h => (hr2.fn x h).1
 have hd : depG L1 F1 = depthE L1 F1 := depG_eq L1 F1
 have H1 := Lib.hid (fun W (h : C W) => (same_any no1 fo1 no2 fo2 n1 nc1 k1 fc1 n2 nc2 k2 fc2 L1 L2 F1 F2 hn1 hn2 hk1 hk2 W ((hA1.on B).on (cO W h).2.2.2.2) ((hA2.on B).on (cO W h).2.2.2.2) ((hF1.on B).on (cO W h).2.2.2.2) ((hF2.on B).on (cO W h).2.2.2.2) hr1.wf hr2.wf hp1 hp2).mono fun e w' k => show _ ∧ C w' from ⟨k.1, cK W w' h k.2⟩)
 have H2 := Lib.hid (fun W (h : C W) => (rsame_any no1 fo1 no2 fo2 n1 nc1 k1 fc1 n2 nc2 k2 fc2 L1 L2 F1 F2 hn1 hn2 hk1 hk2 W ((hA1.on B).on (cO W h).2.2.2.2) ((hA2.on B).on (cO W h).2.2.2.2) ((hF1.on B).on (cO W h).2.2.2.2) ((hF2.on B).on (cO W h).2.2.2.2) hr1.wf hr2.wf hp1 hp2).mono fun e w' k => show _ ∧ C w' from ⟨k.1, cK W w' h k.2⟩)
 have H3 := Lib.hid (fun W (h : C W) => (same_any no1 fo1 no1 fo1 n1 nc1 k1 fc1 n1 nc1 k1 fc1 L1 L1 F1 F1 hn1 hn1 hk1 hk1 W ((hA1.on B).on (cO W h).2.2.2.2) ((hA1.on B).on (cO W h).2.2.2.2) ((hF1.on B).on (cO W h).2.2.2.2) ((hF1.on B).on (cO W h).2.2.2.2) hr1.wf hr1.wf hp1 hp1).mono fun e w' k => show e = .returned (.bool true) ∧ C w' from ⟨by rw [k.1, decide_eq_true rfl, decide_eq_true rfl]; rfl, cK W w' h k.2⟩)
 have H4 := Lib.hid (fun W (h : C W) => (depth_any no1 fo1 n1 nc1 k1 fc1 L1 F1 hk1 hn1 W ((hm.on B).on (cO W h).2.2.2.2) ((hA1.on B).on (cO W h).2.2.2.2) ((hF1.on B).on (cO W h).2.2.2.2) hr1.wf hp1).mono fun e w' k => show _ ∧ C w' from ⟨k.1, cK W w' h k.2⟩)
 have H5 := Lib.hid (fun W (h : C W) => (rdepth_any no1 fo1 n1 nc1 k1 fc1 L1 F1 hn1 hk1 W ((hA1.on B).on (cO W h).2.2.2.2) ((hF1.on B).on (cO W h).2.2.2.2) hr1.wf hr1.fn hr1.sn hr1.sf).mono fun e w' k => show _ ∧ C w' from ⟨k.1, cK W w' h k.2⟩)
 have H6 := Lib.hid (fun W (h : C W) => (find_any no1 fo1 n1 nc1 k1 fc1 F1 s hk1 W ((hF1.on B).on (cO W h).2.2.2.2)).mono fun e w' k => show _ ∧ C w' from ⟨k.1, cK W w' h k.2⟩)
 have H7 := Lib.hid (fun W (h : C W) => (rfind_any no1 fo1 n1 nc1 k1 fc1 F1 s hk1 W ((hF1.on B).on (cO W h).2.2.2.2)).mono fun e w' k => show _ ∧ C w' from ⟨k.1, cK W w' h k.2⟩)
 have H8 := Lib.hid (fun W (h : C W) => (awake_any W ((hm.on B).on (cO W h).2.2.2.2)).mono fun e w' k => show _ ∧ C w' from ⟨k.1, cK W w' h k.2⟩)
 rw [hd] at H5
 generalize (decide (L1 = L2) && decide (F1 = F2)) = X1 at *
 generalize depthE L1 F1 = X2 at *
 generalize fixI (fun f => decide (f.name = s)) 0 F1 = X3 at *
 have HC0 := Lib.hid (fun W h => (cO W h).1)
 have HC1 := Lib.hid (fun W h => (cO W h).2.1)
 have HC2 := Lib.hid (fun W h => (cO W h).2.2.1)
 have HC3 := Lib.hid (fun W h => (cO W h).2.2.2.1)
 have HC4 := Lib.hid (fun W h => (cO W h).2.2.2.2)
 have HcU := Lib.hid cU
 have HUe := Lib.hid (show (w.alloc (.cells #[.slice no1 n1 nc1, .slice fo1 k1 fc1] 25)).alloc (.cells #[.slice no2 n2 nc2, .slice fo2 k2 fc2] 25) = U by rw [hV]; exact hU)
 clear hm hA1 hA2 hF1 hF2 hr1 hr2 hp1 hp2 hd hC cU cO cK t0 t1 u0 u1 v0 v1 BV BU B hz hV hU
 go_enter Tryz.func5, Tryz.ntmps5
 go_wp2_with fail
 rw [HUe.out]
 refine region_held (C := C) (by kernel_rfl) (by kernel_rfl) HcU.out ?_
 repeat (refine wpQuiet_step (fun K hK => ?_); go_simp; first | (refine hK _ ?_; clear hK K) | (apply Exists.intro; refine ⟨fun V hV => ?_, hK _ ?_⟩; (· (first | with_reducible rfl | with_reducible exact H1.out V hV | with_reducible exact H2.out V hV | with_reducible exact H3.out V hV | with_reducible exact H4.out V hV | with_reducible exact H5.out V hV | with_reducible exact H6.out V hV | with_reducible exact H7.out V hV | with_reducible exact H8.out V hV | (have z0 := HC0.out V hV; have z1 := HC1.out V hV; have z2 := HC2.out V hV; have z3 := HC3.out V hV; go_simp; first | with_reducible rfl | with_reducible exact ⟨rfl, rfl⟩))); clear hK K))
 refine wpQuiet_nil ?_
 intro w9 hw9
 go_wp2_with fail
 go_ret
 exact ⟨rfl, Bel.trans HB.out (HC4.out w9 hw9)⟩
end Syn
end Go.Proofs.YtmifookckpelaaaGreatDoor

/-
 Layer 8: a program as a law's argument, all its texts within the reach.
-/
namespace Go.Proofs.YtmifookckpelaaaGreatDoor
open Go.RowKit Go.ChangeShapes Go.WideShapes Go.Deep
namespace Syn
section
variable {H : Type} {enc : TypeId × Value → H} {w : World} {held : Bool}
theorem wt_str {P : Program} {t : TypeId} {s : Txt} (h : Wt P t (DataW.lit (H := H) (.string s))) : Short s := by
 have h1 := h s.length (by simp [DataW.weights])
 have h2 := reachBytes_lt
 have h3 : (2 : Nat) ^ 47 = 140737488355328 := by decide
 show s.length ≤ 140737488355328
 omega
theorem strs_open2 {fuel : Nat} {cs : List Value} {x : DataW H × List MemPlace} {t : TypeId} (ht : Tryz.prog.underlying t = some (.slice 9)) (h : DataW.trod enc Tryz.prog w 0 (fun _ => true) held fuel t cs = some x) (hz : Wt Tryz.prog t x.1) :
  ∃ (o : Option Addr) (n c : Nat) (l : List Txt), cs = [.slice o n c] ∧ KArg w o n l ∧ n ≤ c ∧ n ≤ 4611686018427387904 ∧ (0 < n → ∀ a, o = some a → ∃ b off, a = ⟨b, off, none⟩) ∧ ∀ t ∈ l, Short t := by
 rcases open_strings ht Tryz.underlying9 (by kernel_rfl) h with ⟨hcs, hx⟩ | ⟨a, len, cap, ss, hcs, _, hl, hm, hz', rfl, hcell, hws⟩
 ·exact ⟨none, 0, 0, [], hcs, KArg.nil w none, Nat.le_refl _, by omega, fun h0 => absurd h0 (Nat.lt_irrefl 0), fun t h => (by cases h)⟩
 ·simp only [if_true] at hz'
  have hb : Tryz.prog.bytesOf 9 = 16 := by kernel_rfl
  have h1 := (hz.slice ht).1
  rw [hb] at h1
  have h2 := reach_lt (by omega) h1
  simp only [strs, List.length_map, List.length_take] at h2
  have hmp : ((ss.take len).map fun s => s.data.toList).map bz = ss.take len := by
   rw [List.map_map]
   conv => rhs; rw [← List.map_id (ss.take len)]
   exact List.map_congr_left fun s _ => rfl
  refine ⟨some a, len, cap, (ss.take len).map fun s => s.data.toList, hcs, ?_, hl, by omega, fun h0 b hb => ?_, fun t ht1 => ?_⟩
  ·unfold KArg
   rw [hmp]
   refine ⟨by simp; omega, fun i hi => ⟨a, rfl, ?_⟩⟩
   have hi' : i < len := by simp at hi; omega
   rw [hcell i (by omega)]
   simp [List.getD, List.getElem?_eq_getElem (show i < ss.length by omega)]
  ·obtain rfl : a = b := Option.some.inj hb
   have h3 := Lex.spot_none (hcell 0 (by omega))
   obtain ⟨ab, ao, asp⟩ := a
   unfold Addr.add at h3
   simp at h3
   subst h3
   exact ⟨ab, ao, rfl⟩
  ·obtain ⟨s, hs, rfl⟩ := List.mem_map.1 ht1
   exact wt_str ((hz.slice ht).2 (.lit (.string s.data.toList)) (List.mem_map.2 ⟨s, hs, rfl⟩))
def RNd2 (w : World) (cs : List Value) (x : Nd) : Prop := ∃ v : Nv, cs = encV v ∧ NFit w v x ∧ (-9223372036854775808 ≤ x.i ∧ x.i ≤ 9223372036854775807) ∧ x.keys.length ≤ 4611686018427387904 ∧ x.kids.length ≤ 4611686018427387904 ∧ Short x.s ∧ ∀ t ∈ x.keys, Short t
def RFw2 (w : World) (cs : List Value) (x : Fw) : Prop := ∃ v : Fv, cs = encF v ∧ FFit w v x ∧ x.params.length ≤ 4611686018427387904 ∧ (-9223372036854775808 ≤ x.body ∧ x.body ≤ 9223372036854775807) ∧ Short x.name ∧ ∀ p ∈ x.params, Short p
set_option maxRecDepth 100000 in
theorem node_open2 (n : Nat) (cs : List Value) (y : DataW H × List MemPlace) (h : DataW.trod enc Tryz.prog w 0 (fun _ => true) held n 60 cs = some y) (hz : Wt Tryz.prog 60 y.1) : ∃ x : Nd, RNd2 w cs x := by
 obtain ⟨xs, m, -, rfl, hl, hx, hf⟩ := DataW.trod_struct Tryz.underlying60 h
 have hc5 : Tryz.prog.cellsOf 60 = 5 := by kernel_rfl
 have hxl : xs.length = 5 := hx
 rw [hc5] at hl
 match cs, hl with
 | [u0, u1, u2, u3, u4], _ =>
  match xs, hxl with
  | [x0, x1, x2, x3, x4], _ =>
   have k0 : Tryz.prog.cellsOf 58 = 1 := by kernel_rfl
   have k1 : Tryz.prog.cellsOf 9 = 1 := by kernel_rfl
   have k2 : Tryz.prog.cellsOf 3 = 1 := by kernel_rfl
   have k3 : Tryz.prog.cellsOf 47 = 1 := by kernel_rfl
   have k4 : Tryz.prog.cellsOf 41 = 1 := by kernel_rfl
   have h0 : DataW.trod enc Tryz.prog w 0 (fun _ => true) held m 58 (([u0, u1, u2, u3, u4].drop 0).take (Tryz.prog.cellsOf 58)) = [x0, x1, x2, x3, x4][0]? := hf 0 _ rfl
   have h1 : DataW.trod enc Tryz.prog w 0 (fun _ => true) held m 9 (([u0, u1, u2, u3, u4].drop 1).take (Tryz.prog.cellsOf 9)) = [x0, x1, x2, x3, x4][1]? := hf 1 _ rfl
   have h2 : DataW.trod enc Tryz.prog w 0 (fun _ => true) held m 3 (([u0, u1, u2, u3, u4].drop 2).take (Tryz.prog.cellsOf 3)) = [x0, x1, x2, x3, x4][2]? := hf 2 _ rfl
   have h3 : DataW.trod enc Tryz.prog w 0 (fun _ => true) held m 47 (([u0, u1, u2, u3, u4].drop 3).take (Tryz.prog.cellsOf 47)) = [x0, x1, x2, x3, x4][3]? := hf 3 _ rfl
   have h4 : DataW.trod enc Tryz.prog w 0 (fun _ => true) held m 41 (([u0, u1, u2, u3, u4].drop 4).take (Tryz.prog.cellsOf 41)) = [x0, x1, x2, x3, x4][4]? := hf 4 _ rfl
   have zs : Wt Tryz.prog 9 x1.1 := hz.agg Tryz.underlying60 (j := 1) rfl rfl
   have z3 : Wt Tryz.prog 47 x3.1 := hz.agg Tryz.underlying60 (j := 3) rfl rfl
   have z4 : Wt Tryz.prog 41 x4.1 := hz.agg Tryz.underlying60 (j := 4) rfl rfl
   rw [k0] at h0
   rw [k1] at h1
   rw [k2] at h2
   rw [k3] at h3
   rw [k4] at h4
   obtain ⟨a0, e0, rfl, w0⟩ := DataW.trod_int Tryz.underlying58 h0
   obtain ⟨a1, e1, rfl, w1⟩ := DataW.trod_string Tryz.underlying9 h1
   obtain ⟨a2, e2, rfl, w2⟩ := DataW.trod_int Tryz.underlying3 h2
   obtain ⟨ko, kn, kc, ks, e3, g3, l3, b3, -, y3⟩ := strs_open2 Tryz.underlying47 h3 z3
   obtain ⟨jo, jn, jc, js, e4, g4, l4, b4⟩ := ints_open Tryz.underlying41 h4 z4
   simp only [List.drop_zero, List.drop_succ_cons, List.take_succ_cons, List.take_zero, List.cons.injEq, and_true] at e0 e1 e2 e3 e4
   subst e0 e1 e2 e3 e4
   have q3 : ks.length = kn := by have := g3.1; simpa using this
   have q4 : js.length = jn := g4.1
   exact ⟨⟨a0, a1.data.toList, a2, ks, js⟩, ⟨a0, a1.data.toList, a2, ko, kn, kc, jo, jn, jc⟩, rfl, ⟨rfl, rfl, rfl, g3, g4, l3, l4⟩, Lex.wf_bds w2, by show ks.length ≤ _; omega, by show js.length ≤ _; omega, wt_str zs, y3⟩
set_option maxRecDepth 100000 in
theorem func_open2 (n : Nat) (cs : List Value) (y : DataW H × List MemPlace) (h : DataW.trod enc Tryz.prog w 0 (fun _ => true) held n 55 cs = some y) (hz : Wt Tryz.prog 55 y.1) : ∃ x : Fw, RFw2 w cs x := by
 obtain ⟨xs, m, -, rfl, hl, hx, hf⟩ := DataW.trod_struct Tryz.underlying55 h
 have hc5 : Tryz.prog.cellsOf 55 = 3 := by kernel_rfl
 have hxl : xs.length = 3 := hx
 rw [hc5] at hl
 match cs, hl with
 | [u0, u1, u2], _ =>
  match xs, hxl with
  | [x0, x1, x2], _ =>
   have k1 : Tryz.prog.cellsOf 9 = 1 := by kernel_rfl
   have k2 : Tryz.prog.cellsOf 3 = 1 := by kernel_rfl
   have k3 : Tryz.prog.cellsOf 47 = 1 := by kernel_rfl
   have h0 : DataW.trod enc Tryz.prog w 0 (fun _ => true) held m 9 (([u0, u1, u2].drop 0).take (Tryz.prog.cellsOf 9)) = [x0, x1, x2][0]? := hf 0 _ rfl
   have h1 : DataW.trod enc Tryz.prog w 0 (fun _ => true) held m 47 (([u0, u1, u2].drop 1).take (Tryz.prog.cellsOf 47)) = [x0, x1, x2][1]? := hf 1 _ rfl
   have h2 : DataW.trod enc Tryz.prog w 0 (fun _ => true) held m 3 (([u0, u1, u2].drop 2).take (Tryz.prog.cellsOf 3)) = [x0, x1, x2][2]? := hf 2 _ rfl
   have zs : Wt Tryz.prog 9 x0.1 := hz.agg Tryz.underlying55 (j := 0) rfl rfl
   have z1 : Wt Tryz.prog 47 x1.1 := hz.agg Tryz.underlying55 (j := 1) rfl rfl
   rw [k1] at h0
   rw [k3] at h1
   rw [k2] at h2
   obtain ⟨a0, e0, rfl, w0⟩ := DataW.trod_string Tryz.underlying9 h0
   obtain ⟨po, k, pc, ps, e1, g1, l1, b1, s1, y1⟩ := strs_open2 Tryz.underlying47 h1 z1
   obtain ⟨a2, e2, rfl, w2⟩ := DataW.trod_int Tryz.underlying3 h2
   simp only [List.drop_zero, List.drop_succ_cons, List.take_succ_cons, List.take_zero, List.cons.injEq, and_true] at e0 e1 e2
   subst e0 e1 e2
   have q1 : ps.length = k := by have := g1.1; simpa using this
   exact ⟨⟨a0.data.toList, ps, a2⟩, ⟨a0.data.toList, po, k, pc, a2⟩, rfl, ⟨rfl, rfl, g1, l1, s1⟩, by show ps.length ≤ _; omega, Lex.wf_bds w2, wt_str zs, y1⟩
set_option maxRecDepth 100000 in
/-- A program among a law's arguments. -/
theorem open_prog2 {r : Reach} {b0 : Nat} {v : Value} {d : DataW H} {p : List MemPlace} (hv : Value.okWide Tryz.prog w r b0 25 v) (h : DataW.Trod enc Tryz.prog w 0 (fun _ => true) held 25 v d p) (hz : Wt Tryz.prog 25 d) :
  ∃ (no fo : Option Addr) (n nc k fc : Nat) (L : List Nd) (F : List Fw), v = .agg #[.slice no n nc, .slice fo k fc] ∧ NArg w no n L ∧ FArg w fo k F ∧ n ≤ 4611686018427387904 ∧ k ≤ 4611686018427387904 ∧ Rch L F := by
 have hc2 : Tryz.prog.cellsOf 25 = 2 := by kernel_rfl
 obtain ⟨c0, c1, y0, y1, m, rfl, rfl, rfl, h0, h1⟩ := Joins.open_agg2 Tryz.underlying25 (by kernel_rfl) hc2 hv h
 have z0 : Wt Tryz.prog 22 y0.1 := hz.agg Tryz.underlying25 (j := 0) rfl rfl
 have z1 : Wt Tryz.prog 23 y1.1 := hz.agg Tryz.underlying25 (j := 1) rfl rfl
 have hn5 : Tryz.prog.cellsOf 60 = 5 := by kernel_rfl
 have hf3 : Tryz.prog.cellsOf 55 = 3 := by kernel_rfl
 have b5 : Tryz.prog.bytesOf 60 = 80 := by kernel_rfl
 have b3 : Tryz.prog.bytesOf 55 = 48 := by kernel_rfl
 obtain ⟨no, n, nc, L, e0, l0, w0, g0, r0⟩ := rows_open (R := RNd2 w) Tryz.underlying22 hn5 (by omega) node_open2 h0 z0
 obtain ⟨fo, k, fc, F, e1, l1, w1, g1, r1⟩ := rows_open (R := RFw2 w) Tryz.underlying23 hf3 (by omega) func_open2 h1 z1
 simp only [List.cons.injEq, and_true] at e0 e1
 subst e0 e1
 rw [b5] at w0
 rw [b3] at w1
 refine ⟨no, fo, n, nc, k, fc, L, F, rfl, ⟨l0, fun h0 => ?_⟩, ⟨l1, fun h0 => ?_⟩, reach_lt (by omega) w0, reach_lt (by omega) w1, ⟨fun x hx => ?_, fun x hx => ?_, fun x hx => ?_, fun x hx => ?_⟩⟩
 ·obtain ⟨b, off, ho, hr⟩ := r0 h0
  refine ⟨b, off, ho, fun i hi => ?_⟩
  obtain ⟨cs', -, ⟨v, rfl, hv, -⟩, hcell⟩ := hr i hi
  exact ⟨v, hv, hcell⟩
 ·obtain ⟨b, off, ho, hr⟩ := r1 h0
  refine ⟨b, off, ho, fun i hi => ?_⟩
  obtain ⟨cs', -, ⟨v, rfl, hv, -⟩, hcell⟩ := hr i hi
  exact ⟨v, hv, hcell⟩
 ·obtain ⟨cs, v, -, -, q1, q2, q3, -⟩ := g0 x hx
  exact ⟨q1, q2, q3⟩
 ·obtain ⟨cs, v, -, -, q1, q2, -⟩ := g1 x hx
  exact ⟨q1, q2⟩
 ·obtain ⟨cs, v, -, -, -, -, -, q⟩ := g0 x hx
  exact q
 ·obtain ⟨cs, v, -, -, -, -, q⟩ := g1 x hx
  exact q
end
end Syn
end Go.Proofs.YtmifookckpelaaaGreatDoor
