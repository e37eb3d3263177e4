/-
  Layer 8, texts merged: SrA, SrB, SrC, SrD, SrE, SrF, SrG, SrN, SrO, SrP. For every argument within the bounds that each theorem names.
-/
import Derived.Test.YtmifookckpelaaaGreatDoorME1
import Derived.Test.YtmifookckpelaaaGreatDoorMJ1
import Derived.Deep.DeepCutAuto
import Derived.Deep.Quiet
import Derived.Test.YtmifookckpelaaaGreatDoorMG4
import Derived.Test.YtmifookckpelaaaGreatDoorMH1

/-
 Layer 8, plainly: the reference's measure, and that it accepts what Check accepts.
-/
namespace Go.Proofs.YtmifookckpelaaaGreatDoor
namespace Syn
end Syn
end Go.Proofs.YtmifookckpelaaaGreatDoor

/-
 Layer 8, plainly: good trees pass isProper; the nesting is the greatest height; the reference's Check and Depth say what the program's do.
-/
namespace Go.Proofs.YtmifookckpelaaaGreatDoor
namespace Syn
end Syn
end Go.Proofs.YtmifookckpelaaaGreatDoor

/-
 Layer 8, plainly: the reference's test of a node's parts is partsFit's.
-/
namespace Go.Proofs.YtmifookckpelaaaGreatDoor
namespace Syn
end Syn
end Go.Proofs.YtmifookckpelaaaGreatDoor

/-
 Layer 8, the reference: parts.
-/
namespace Go.Proofs.YtmifookckpelaaaGreatDoor
open Go.RowKit Go.ChangeShapes Go.WideShapes
namespace Syn
theorem kind_at {L : List Nd} {z : Nat} (h : z < L.length) : kindAt L (z : Int) = L[z].k := by
 unfold kindAt
 rw [Int.toNat_natCast, List.getElem?_eq_getElem h]
end Syn
end Go.Proofs.YtmifookckpelaaaGreatDoor

/-
 Layer 8, the reference: fields at every kind; two rows of integers that are built side by side.
-/
namespace Go.Proofs.YtmifookckpelaaaGreatDoor
open Go.RowKit Go.ChangeShapes Go.WideShapes
namespace Syn
/-- A drawn region whose operations and callees keep a fact C, and hand back one value in all worlds of it: one walk, in the text's order. -/
theorem region_held {P : Program} {id : Nat} {Q : Exit → Act → World → Prop} {a : Act} {w : World} {l : List Oper} {C : World → Prop} (hm : P.follows .mixedOrders = true) (hB : Region.lexB .any l.toArray = true) (hC : C w.drew)
  (h : wpQuiet P l.toArray C (fun a' => ∀ w', C w' → Q .normal a' w') l a) : (Code.region id l.toArray true).wp P Q a w :=
 wp_region_quiet hm hB hC (by simpa using h)
theorem alloc_sz (w : World) (o : Obj) : (w.alloc o).heap.size = w.heap.size + 1 := by show (w.heap.push o).size = _; simp
/-- Two rows of integers, each of its own, in blocks from base on, that are not among S. -/
def Rwb (S : Nat → Prop) (base : Nat) (w : World) (a1 : Option Addr) (m1 c1 : Nat) (p1 : List Int) (a2 : Option Addr) (m2 c2 : Nat) (p2 : List Int) : Prop :=
 w.ownsRow base 3 1 (.slice a1 m1 c1) m1 (encZ p1) ∧ w.ownsRow base 3 1 (.slice a2 m2 c2) m2 (encZ p2) ∧
 (∀ b, (Value.slice a1 m1 c1).ownBlock = some b → (Value.slice a2 m2 c2).ownBlock ≠ some b ∧ ¬ S b) ∧ ∀ b, (Value.slice a2 m2 c2).ownBlock = some b → ¬ S b
theorem Rwb.nil (S : Nat → Prop) (base : Nat) (w : World) : Rwb S base w none 0 0 [] none 0 0 [] := ⟨World.ownsRow_nil _ _ _ _, World.ownsRow_nil _ _ _ _, (fun b e => by cases e), (fun b e => by cases e)⟩
theorem Rwb.kept {S : Nat → Prop} {base : Nat} {F : Nat → Prop} {w w' : World} {a1 a2 : Option Addr} {m1 c1 m2 c2 : Nat} {p1 p2 : List Int} (h : Rwb S base w a1 m1 c1 p1 a2 m2 c2 p2) (g : Mod F w w') (hF : ∀ b, base ≤ b → F b → S b) : Rwb S base w' a1 m1 c1 p1 a2 m2 c2 p2 :=
 ⟨own_kept h.1 g (fun b e q => (h.2.2.1 b e).2 (hF b (h.1.lt b e).1 q)), own_kept h.2.1 g (fun b e q => h.2.2.2 b e (hF b (h.2.1.lt b e).1 q)), h.2.2⟩
theorem Rwb.on {S : Nat → Prop} {base : Nat} {w w' : World} {a1 a2 : Option Addr} {m1 c1 m2 c2 : Nat} {p1 p2 : List Int} (h : Rwb S base w a1 m1 c1 p1 a2 m2 c2 p2) (b : Bel w w') : Rwb S base w' a1 m1 c1 p1 a2 m2 c2 p2 :=
 h.kept (F := fun _ => False) (Mod.of_bel b) (fun _ _ h => h.elim)
theorem Rwb.swap {S : Nat → Prop} {base : Nat} {w : World} {a1 a2 : Option Addr} {m1 c1 m2 c2 : Nat} {p1 p2 : List Int} (h : Rwb S base w a1 m1 c1 p1 a2 m2 c2 p2) : Rwb S base w a2 m2 c2 p2 a1 m1 c1 p1 :=
 ⟨h.2.1, h.1, fun b e => ⟨fun q => (h.2.2.1 b q).1 e, h.2.2.2 b e⟩, fun b e => (h.2.2.1 b e).2⟩
/-- Other blocks to be avoided, such as there were none when the rows were as they are. -/
theorem Rwb.avoid {S T : Nat → Prop} {base : Nat} {w : World} {a1 a2 : Option Addr} {m1 c1 m2 c2 : Nat} {p1 p2 : List Int} (h : Rwb S base w a1 m1 c1 p1 a2 m2 c2 p2) (hT : ∀ b, b < w.heap.size → ¬ T b) : Rwb T base w a1 m1 c1 p1 a2 m2 c2 p2 :=
 ⟨h.1, h.2.1, fun b e => ⟨(h.2.2.1 b e).1, hT b (h.1.lt b e).2⟩, fun b e => hT b (h.2.1.lt b e).2⟩
theorem Rwb.weak {S T : Nat → Prop} {base : Nat} {w : World} {a1 a2 : Option Addr} {m1 c1 m2 c2 : Nat} {p1 p2 : List Int} (h : Rwb S base w a1 m1 c1 p1 a2 m2 c2 p2) (hT : ∀ b, T b → S b) : Rwb T base w a1 m1 c1 p1 a2 m2 c2 p2 :=
 ⟨h.1, h.2.1, fun b e => ⟨(h.2.2.1 b e).1, fun q => (h.2.2.1 b e).2 (hT b q)⟩, fun b e q => h.2.2.2 b e (hT b q)⟩
/-- An integer behind the first row. -/
theorem list_app1 {S : Nat → Prop} {base : Nat} {Y : World} {m1 c1 m2 c2 : Nat} {a1 a2 : Option Addr} {p1 p2 : List Int} {x : Int} {b : Nat} {ops : Array Oper} {rest : List Oper} {o : Oper} {a : Act} {Q : Exit → Act → World → Prop} (s y : Operand)
  (ho : o.op = .call { callee := .builtin .append, args := #[s, y], argTypes := #[41, 41] }) (hgd : o.guard = none) (hs : a.eval s = .slice a1 m1 c1) (hx : a.eval y = .slice (some ⟨b, 0, none⟩) 1 1)
  (hR : Rwb S base Y a1 m1 c1 p1 a2 m2 c2 p2) (hbase : base ≤ Y.heap.size) (hS : ∀ i, Y.heap.size ≤ i → ¬ S i) (h2 : ∀ j u, [Value.int .i64 x][j]? = some u → Y.cell? ((⟨b, 0, none⟩ : Addr).add j) = some u) (hm : m1 + 1 ≤ 1099511627776)
  (h : ∀ o3 c3 w', Hid (Rwb S base w' o3 (m1 + 1) c3 (p1 ++ [x]) a2 m2 c2 p2) → Hid (Mod (fun b => base ≤ b ∧ ¬ S b) Y w') → wpList Tryz.prog ops Q rest (a.put o.dst (.slice o3 (m1 + 1) c3)) w') : wpList Tryz.prog ops Q (o :: rest) a Y := by
 obtain ⟨i0, hi, hz0, hz1, hz2⟩ := info_parts info_int
 obtain ⟨h1, hV, hd, hd2⟩ := hR
 refine wpList_append_own_at _ hgd s y 41 ho base 3 i0 _ 1 8 Tryz.underlying41 hi hz0 hz1 hz2 rfl (by decide) _ m1 _ hs h1 ⟨b, 0, none⟩ 1 1 [.int .i64 x] hx rfl h2 (fun u hu => by simp at hu; subst hu; rfl) (by unfold maxLen; omega) (by omega) hbase ?_
 intro v' w' ho' hg _ hat
 obtain ⟨o3, c3, rfl⟩ := own_shape ho'
 have hne : (Value.slice a2 m2 c2).ownBlock = none ∨ (Value.slice a2 m2 c2).ownBlock ≠ (Value.slice a1 m1 c1).ownBlock := by
  cases hv : (Value.slice a1 m1 c1).ownBlock with
  | none =>
   cases hw : (Value.slice a2 m2 c2).ownBlock with
   | none => exact .inl rfl
   | some q => exact .inr (by simp)
  | some q => exact .inr (hd q hv).1
 refine h o3 c3 w' (Lib.hid ⟨by rw [show encZ (p1 ++ [x]) = encZ p1 ++ [.int .i64 x] by simp [encZ]]; exact ho', hV.kept hg hne, fun q e => ?_, hd2⟩) (Lib.hid (Mod.grown hg (fun i e => ⟨(h1.lt i e).1, (hd i e).2⟩)))
 rcases hat with hat | hat
 ·rw [hat] at e
  exact hd q e
 ·rw [hat] at e
  cases e
  exact ⟨fun hv => by have := (hV.lt _ hv).2; omega, hS _ (Nat.le_refl _)⟩
theorem Rwb.arg1 {S : Nat → Prop} {base : Nat} {w : World} {a1 a2 : Option Addr} {m1 c1 m2 c2 : Nat} {p1 p2 : List Int} (h : Rwb S base w a1 m1 c1 p1 a2 m2 c2 p2) : RArg w a1 m1 p1 := (own_zarg h.1).rarg
theorem Rwb.arg2 {S : Nat → Prop} {base : Nat} {w : World} {a1 a2 : Option Addr} {m1 c1 m2 c2 : Nat} {p1 p2 : List Int} (h : Rwb S base w a1 m1 c1 p1 a2 m2 c2 p2) : RArg w a2 m2 p2 := (own_zarg h.2.1).rarg
theorem Rwb.nums {S : Nat → Prop} {base : Nat} {w : World} {a1 a2 : Option Addr} {m1 c1 m2 c2 : Nat} {p1 p2 : List Int} (h : Rwb S base w a1 m1 c1 p1 a2 m2 c2 p2) : p1.length = m1 ∧ p2.length = m2 := ⟨h.arg1.1, h.arg2.1⟩
end Syn
end Go.Proofs.YtmifookckpelaaaGreatDoor

/-
 Layer 8, the reference: measure.
-/
namespace Go.Proofs.YtmifookckpelaaaGreatDoor
open Go.RowKit Go.ChangeShapes Go.WideShapes
namespace Syn
/-- Texts within the reach. -/
def Short (s : Txt) : Prop := s.length ≤ 140737488355328
/-- Sizes and heights are small. -/
def BdG (sz ht : List Int) : Prop := (∀ (j : Nat) v, sz[j]? = some v → 1 ≤ v ∧ v ≤ (j : Int) + 1) ∧ ∀ (j : Nat) v, ht[j]? = some v → 0 ≤ v ∧ v ≤ (j : Int) + 1
theorem BdG.nil : BdG [] [] := ⟨fun j v h => (by cases h), fun j v h => (by cases h)⟩
theorem BdG.pos {sz ht : List Int} (h : BdG sz ht) (i : Nat) : 0 ≤ sz.getD i 0 := by
 rw [List.getD_eq_getElem?_getD]
 cases e : sz[i]? with
 | none => exact Int.le_refl _
 | some v => have := h.1 i v e; rw [Option.getD_some]; omega
end Syn
end Go.Proofs.YtmifookckpelaaaGreatDoor

/-
 Layer 8, the reference: Check and Depth.
-/
namespace Go.Proofs.YtmifookckpelaaaGreatDoor
open Go.RowKit Go.ChangeShapes Go.WideShapes
namespace Syn
end Syn
end Go.Proofs.YtmifookckpelaaaGreatDoor

/-
 Layer 8: programs within the reach.
-/
namespace Go.Proofs.YtmifookckpelaaaGreatDoor
namespace Syn
/-- Programs whose numbers and texts are within the reach. -/
structure Rch (L : List Nd) (F : List Fw) : Prop where
 wf : WfN L
 fn : ∀ x ∈ F, x.params.length ≤ 4611686018427387904 ∧ -9223372036854775808 ≤ x.body ∧ x.body ≤ 9223372036854775807
 sn : ∀ x ∈ L, Short x.s ∧ ∀ t ∈ x.keys, Short t
 sf : ∀ f ∈ F, Short f.name ∧ ∀ p ∈ f.params, Short p
end Syn
end Go.Proofs.YtmifookckpelaaaGreatDoor

/-
 Layer 8: a program as a law's argument, all its texts within the reach.
-/
namespace Go.Proofs.YtmifookckpelaaaGreatDoor
open Go.RowKit Go.ChangeShapes Go.WideShapes Go.Deep
namespace Syn
section
variable {H : Type} {enc : TypeId × Value → H} {w : World} {held : Bool}
theorem wt_str {P : Program} {t : TypeId} {s : Txt} (h : Wt P t (DataW.lit (H := H) (.string s))) : Short s := by
 have h1 := h s.length (by simp [DataW.weights])
 have h2 := reachBytes_lt
 have h3 : (2 : Nat) ^ 47 = 140737488355328 := by decide
 show s.length ≤ 140737488355328
 omega
theorem strs_open2 {fuel : Nat} {cs : List Value} {x : DataW H × List MemPlace} {t : TypeId} (ht : Tryz.prog.underlying t = some (.slice 9)) (h : DataW.trod enc Tryz.prog w 0 (fun _ => true) held fuel t cs = some x) (hz : Wt Tryz.prog t x.1) :
  ∃ (o : Option Addr) (n c : Nat) (l : List Txt), cs = [.slice o n c] ∧ KArg w o n l ∧ n ≤ c ∧ n ≤ 4611686018427387904 ∧ (0 < n → ∀ a, o = some a → ∃ b off, a = ⟨b, off, none⟩) ∧ ∀ t ∈ l, Short t := by
 rcases open_strings ht Tryz.underlying9 (by kernel_rfl) h with ⟨hcs, hx⟩ | ⟨a, len, cap, ss, hcs, _, hl, hm, hz', rfl, hcell, hws⟩
 ·exact ⟨none, 0, 0, [], hcs, KArg.nil w none, Nat.le_refl _, by omega, fun h0 => absurd h0 (Nat.lt_irrefl 0), fun t h => (by cases h)⟩
 ·simp only [if_true] at hz'
  have hb : Tryz.prog.bytesOf 9 = 16 := by kernel_rfl
  have h1 := (hz.slice ht).1
  rw [hb] at h1
  have h2 := reach_lt (by omega) h1
  simp only [strs, List.length_map, List.length_take] at h2
  have hmp : ((ss.take len).map fun s => s.data.toList).map bz = ss.take len := by
   rw [List.map_map]
   conv => rhs; rw [← List.map_id (ss.take len)]
   exact List.map_congr_left fun s _ => rfl
  refine ⟨some a, len, cap, (ss.take len).map fun s => s.data.toList, hcs, ?_, hl, by omega, fun h0 b hb => ?_, fun t ht1 => ?_⟩
  ·unfold KArg
   rw [hmp]
   refine ⟨by simp; omega, fun i hi => ⟨a, rfl, ?_⟩⟩
   have hi' : i < len := by simp at hi; omega
   rw [hcell i (by omega)]
   simp [List.getD, List.getElem?_eq_getElem (show i < ss.length by omega)]
  ·obtain rfl : a = b := Option.some.inj hb
   have h3 := Lex.spot_none (hcell 0 (by omega))
   obtain ⟨ab, ao, asp⟩ := a
   unfold Addr.add at h3
   simp at h3
   subst h3
   exact ⟨ab, ao, rfl⟩
  ·obtain ⟨s, hs, rfl⟩ := List.mem_map.1 ht1
   exact wt_str ((hz.slice ht).2 (.lit (.string s.data.toList)) (List.mem_map.2 ⟨s, hs, rfl⟩))
def RNd2 (w : World) (cs : List Value) (x : Nd) : Prop := ∃ v : Nv, cs = encV v ∧ NFit w v x ∧ (-9223372036854775808 ≤ x.i ∧ x.i ≤ 9223372036854775807) ∧ x.keys.length ≤ 4611686018427387904 ∧ x.kids.length ≤ 4611686018427387904 ∧ Short x.s ∧ ∀ t ∈ x.keys, Short t
def RFw2 (w : World) (cs : List Value) (x : Fw) : Prop := ∃ v : Fv, cs = encF v ∧ FFit w v x ∧ x.params.length ≤ 4611686018427387904 ∧ (-9223372036854775808 ≤ x.body ∧ x.body ≤ 9223372036854775807) ∧ Short x.name ∧ ∀ p ∈ x.params, Short p
set_option maxRecDepth 100000 in
theorem node_open2 (n : Nat) (cs : List Value) (y : DataW H × List MemPlace) (h : DataW.trod enc Tryz.prog w 0 (fun _ => true) held n 60 cs = some y) (hz : Wt Tryz.prog 60 y.1) : ∃ x : Nd, RNd2 w cs x := by
 obtain ⟨xs, m, -, rfl, hl, hx, hf⟩ := DataW.trod_struct Tryz.underlying60 h
 have hc5 : Tryz.prog.cellsOf 60 = 5 := by kernel_rfl
 have hxl : xs.length = 5 := hx
 rw [hc5] at hl
 match cs, hl with
 | [u0, u1, u2, u3, u4], _ =>
  match xs, hxl with
  | [x0, x1, x2, x3, x4], _ =>
   have k0 : Tryz.prog.cellsOf 58 = 1 := by kernel_rfl
   have k1 : Tryz.prog.cellsOf 9 = 1 := by kernel_rfl
   have k2 : Tryz.prog.cellsOf 3 = 1 := by kernel_rfl
   have k3 : Tryz.prog.cellsOf 47 = 1 := by kernel_rfl
   have k4 : Tryz.prog.cellsOf 41 = 1 := by kernel_rfl
   have h0 : DataW.trod enc Tryz.prog w 0 (fun _ => true) held m 58 (([u0, u1, u2, u3, u4].drop 0).take (Tryz.prog.cellsOf 58)) = [x0, x1, x2, x3, x4][0]? := hf 0 _ rfl
   have h1 : DataW.trod enc Tryz.prog w 0 (fun _ => true) held m 9 (([u0, u1, u2, u3, u4].drop 1).take (Tryz.prog.cellsOf 9)) = [x0, x1, x2, x3, x4][1]? := hf 1 _ rfl
   have h2 : DataW.trod enc Tryz.prog w 0 (fun _ => true) held m 3 (([u0, u1, u2, u3, u4].drop 2).take (Tryz.prog.cellsOf 3)) = [x0, x1, x2, x3, x4][2]? := hf 2 _ rfl
   have h3 : DataW.trod enc Tryz.prog w 0 (fun _ => true) held m 47 (([u0, u1, u2, u3, u4].drop 3).take (Tryz.prog.cellsOf 47)) = [x0, x1, x2, x3, x4][3]? := hf 3 _ rfl
   have h4 : DataW.trod enc Tryz.prog w 0 (fun _ => true) held m 41 (([u0, u1, u2, u3, u4].drop 4).take (Tryz.prog.cellsOf 41)) = [x0, x1, x2, x3, x4][4]? := hf 4 _ rfl
   have zs : Wt Tryz.prog 9 x1.1 := hz.agg Tryz.underlying60 (j := 1) rfl rfl
   have z3 : Wt Tryz.prog 47 x3.1 := hz.agg Tryz.underlying60 (j := 3) rfl rfl
   have z4 : Wt Tryz.prog 41 x4.1 := hz.agg Tryz.underlying60 (j := 4) rfl rfl
   rw [k0] at h0
   rw [k1] at h1
   rw [k2] at h2
   rw [k3] at h3
   rw [k4] at h4
   obtain ⟨a0, e0, rfl, w0⟩ := DataW.trod_int Tryz.underlying58 h0
   obtain ⟨a1, e1, rfl, w1⟩ := DataW.trod_string Tryz.underlying9 h1
   obtain ⟨a2, e2, rfl, w2⟩ := DataW.trod_int Tryz.underlying3 h2
   obtain ⟨ko, kn, kc, ks, e3, g3, l3, b3, -, y3⟩ := strs_open2 Tryz.underlying47 h3 z3
   obtain ⟨jo, jn, jc, js, e4, g4, l4, b4⟩ := ints_open Tryz.underlying41 h4 z4
   simp only [List.drop_zero, List.drop_succ_cons, List.take_succ_cons, List.take_zero, List.cons.injEq, and_true] at e0 e1 e2 e3 e4
   subst e0 e1 e2 e3 e4
   have q3 : ks.length = kn := by have := g3.1; simpa using this
   have q4 : js.length = jn := g4.1
   exact ⟨⟨a0, a1.data.toList, a2, ks, js⟩, ⟨a0, a1.data.toList, a2, ko, kn, kc, jo, jn, jc⟩, rfl, ⟨rfl, rfl, rfl, g3, g4, l3, l4⟩, Lex.wf_bds w2, by show ks.length ≤ _; omega, by show js.length ≤ _; omega, wt_str zs, y3⟩
set_option maxRecDepth 100000 in
theorem func_open2 (n : Nat) (cs : List Value) (y : DataW H × List MemPlace) (h : DataW.trod enc Tryz.prog w 0 (fun _ => true) held n 55 cs = some y) (hz : Wt Tryz.prog 55 y.1) : ∃ x : Fw, RFw2 w cs x := by
 obtain ⟨xs, m, -, rfl, hl, hx, hf⟩ := DataW.trod_struct Tryz.underlying55 h
 have hc5 : Tryz.prog.cellsOf 55 = 3 := by kernel_rfl
 have hxl : xs.length = 3 := hx
 rw [hc5] at hl
 match cs, hl with
 | [u0, u1, u2], _ =>
  match xs, hxl with
  | [x0, x1, x2], _ =>
   have k1 : Tryz.prog.cellsOf 9 = 1 := by kernel_rfl
   have k2 : Tryz.prog.cellsOf 3 = 1 := by kernel_rfl
   have k3 : Tryz.prog.cellsOf 47 = 1 := by kernel_rfl
   have h0 : DataW.trod enc Tryz.prog w 0 (fun _ => true) held m 9 (([u0, u1, u2].drop 0).take (Tryz.prog.cellsOf 9)) = [x0, x1, x2][0]? := hf 0 _ rfl
   have h1 : DataW.trod enc Tryz.prog w 0 (fun _ => true) held m 47 (([u0, u1, u2].drop 1).take (Tryz.prog.cellsOf 47)) = [x0, x1, x2][1]? := hf 1 _ rfl
   have h2 : DataW.trod enc Tryz.prog w 0 (fun _ => true) held m 3 (([u0, u1, u2].drop 2).take (Tryz.prog.cellsOf 3)) = [x0, x1, x2][2]? := hf 2 _ rfl
   have zs : Wt Tryz.prog 9 x0.1 := hz.agg Tryz.underlying55 (j := 0) rfl rfl
   have z1 : Wt Tryz.prog 47 x1.1 := hz.agg Tryz.underlying55 (j := 1) rfl rfl
   rw [k1] at h0
   rw [k3] at h1
   rw [k2] at h2
   obtain ⟨a0, e0, rfl, w0⟩ := DataW.trod_string Tryz.underlying9 h0
   obtain ⟨po, k, pc, ps, e1, g1, l1, b1, s1, y1⟩ := strs_open2 Tryz.underlying47 h1 z1
   obtain ⟨a2, e2, rfl, w2⟩ := DataW.trod_int Tryz.underlying3 h2
   simp only [List.drop_zero, List.drop_succ_cons, List.take_succ_cons, List.take_zero, List.cons.injEq, and_true] at e0 e1 e2
   subst e0 e1 e2
   have q1 : ps.length = k := by have := g1.1; simpa using this
   exact ⟨⟨a0.data.toList, ps, a2⟩, ⟨a0.data.toList, po, k, pc, a2⟩, rfl, ⟨rfl, rfl, g1, l1, s1⟩, by show ps.length ≤ _; omega, Lex.wf_bds w2, wt_str zs, y1⟩
end
end Syn
end Go.Proofs.YtmifookckpelaaaGreatDoor

/-
 Layer 8: a program as a law's argument, with its slices' capacities.
-/
namespace Go.Proofs.YtmifookckpelaaaGreatDoor
open Go.RowKit Go.ChangeShapes Go.WideShapes Go.Deep
namespace Syn
section
variable {H : Type} {enc : TypeId × Value → H} {w : World} {held : Bool}
/-- A slice of structs, each read by R. -/
theorem rows_open3 {α : Type} {t e : TypeId} {K : Nat} {R : List Value → α → Prop} {fuel : Nat} {cs : List Value} {x : DataW H × List MemPlace} (ht : Tryz.prog.underlying t = some (.slice e)) (hK : Tryz.prog.cellsOf e = K) (hK0 : 0 < K)
  (he : ∀ n cs y, DataW.trod enc Tryz.prog w 0 (fun _ => true) held n e cs = some y → Wt Tryz.prog e y.1 → ∃ x : α, R cs x)
  (h : DataW.trod enc Tryz.prog w 0 (fun _ => true) held fuel t cs = some x) (hz : Wt Tryz.prog t x.1) :
  ∃ (o : Option Addr) (n c : Nat) (l : List α), cs = [.slice o n c] ∧ l.length = n ∧ n ≤ c ∧ n * Tryz.prog.bytesOf e ≤ reachBytes ∧ (∀ x ∈ l, ∃ cs, R cs x) ∧ (0 < n → ∃ b off, o = some ⟨b, off, none⟩ ∧ ∀ i (h : i < l.length), ∃ cs' : List Value, cs'.length = K ∧ R cs' l[i] ∧ ∀ j u, cs'[j]? = some u → w.cell? ⟨b, off + i * K + j, none⟩ = some u) := by
 rcases open_slice ht h with ⟨rfl, rfl⟩ | ⟨a, len, cap, m, n', D, Pl, rfl, hb, hl, hm, hmm, rfl, hi⟩
 ·exact ⟨none, 0, 0, [], rfl, rfl, Nat.le_refl _, by omega, fun x hx => (by cases hx), fun h0 => absurd h0 (Nat.lt_irrefl 0)⟩
 ·simp only [if_true] at hmm
  subst hmm
  have hs := hz.slice ht
  have each : ∀ i, i < len → ∃ x : α, ∃ cs' : List Value, cs'.length = K ∧ R cs' x ∧ (∀ j, j < K → w.cell? ((a.add (i * K)).add j) = cs'[j]?) := fun i hil => by
   obtain ⟨cs', hcs, htr⟩ := hi i (by omega)
   obtain ⟨x, hx⟩ := he n' cs' _ htr (hs.2 _ (List.mem_map.2 ⟨i, List.mem_range.2 hil, rfl⟩))
   obtain ⟨-, hlen, hat⟩ := World.cells?_some hcs
   rw [hK] at hlen hat
   exact ⟨x, cs', hlen, hx, hat⟩
  have hsp : 0 < len → a.spot = none := fun h0 => by
   obtain ⟨x, cs', h1, -, h3⟩ := each 0 h0
   have h4 := h3 0 hK0
   have e : (a.add (0 * K)).add 0 = a := by unfold Addr.add; simp
   rw [e, List.getElem?_eq_getElem (by omega)] at h4
   exact Lex.spot_none h4
  rcases Nat.eq_zero_or_pos len with h0 | h0
  ·subst h0
   exact ⟨some a, 0, m, [], rfl, rfl, Nat.zero_le _, by omega, fun x hx => (by cases hx), fun h0 => absurd h0 (Nat.lt_irrefl 0)⟩
  ·have a0 := Classical.choice (let ⟨x, _⟩ := each 0 h0; (⟨x⟩ : Nonempty α))
   obtain ⟨f, hf⟩ : ∃ f : Nat → α, ∀ i, i < len → ∃ cs' : List Value, cs'.length = K ∧ R cs' (f i) ∧ (∀ j, j < K → w.cell? ((a.add (i * K)).add j) = cs'[j]?) :=
    ⟨fun i => if h : i < len then Classical.choose (each i h) else a0, fun i hi => by simp only [dif_pos hi]; exact Classical.choose_spec (each i hi)⟩
   refine ⟨some a, len, m, (List.range len).map f, rfl, by simp, by omega, by simpa using hs.1, fun x hx => ?_, fun _ => ?_⟩
   ·obtain ⟨i, hi', rfl⟩ := List.mem_map.1 hx
    obtain ⟨cs', -, h2, -⟩ := hf i (List.mem_range.1 hi')
    exact ⟨cs', h2⟩
   ·obtain ⟨ab, ao, asp⟩ := a
    have := hsp h0
    simp only at this
    subst this
    refine ⟨ab, ao, rfl, fun i hi' => ?_⟩
    have hil : i < len := by simpa using hi'
    obtain ⟨cs', h1, h2, h3⟩ := hf i hil
    refine ⟨cs', h1, by simpa using h2, fun j u hu => ?_⟩
    have hj : j < K := by
     rw [← h1]
     exact (List.getElem?_eq_some_iff.1 hu).1
    have := h3 j hj
    rw [Lex.add_none, Lex.add_none, hu] at this
    exact this
set_option maxRecDepth 100000 in
/-- A program among a law's arguments. -/
theorem open_prog3 {r : Reach} {b0 : Nat} {v : Value} {d : DataW H} {p : List MemPlace} (hv : Value.okWide Tryz.prog w r b0 25 v) (h : DataW.Trod enc Tryz.prog w 0 (fun _ => true) held 25 v d p) (hz : Wt Tryz.prog 25 d) :
  ∃ (no fo : Option Addr) (n nc k fc : Nat) (L : List Nd) (F : List Fw), v = .agg #[.slice no n nc, .slice fo k fc] ∧ NArg w no n L ∧ FArg w fo k F ∧ n ≤ 4611686018427387904 ∧ k ≤ 4611686018427387904 ∧ Rch L F ∧ n ≤ nc ∧ k ≤ fc := by
 have hc2 : Tryz.prog.cellsOf 25 = 2 := by kernel_rfl
 obtain ⟨t0, t1, y0, y1, m, rfl, rfl, rfl, h0, h1⟩ := Joins.open_agg2 Tryz.underlying25 (by kernel_rfl) hc2 hv h
 have z0 : Wt Tryz.prog 22 y0.1 := hz.agg Tryz.underlying25 (j := 0) rfl rfl
 have z1 : Wt Tryz.prog 23 y1.1 := hz.agg Tryz.underlying25 (j := 1) rfl rfl
 have hn5 : Tryz.prog.cellsOf 60 = 5 := by kernel_rfl
 have hf3 : Tryz.prog.cellsOf 55 = 3 := by kernel_rfl
 have b5 : Tryz.prog.bytesOf 60 = 80 := by kernel_rfl
 have b3 : Tryz.prog.bytesOf 55 = 48 := by kernel_rfl
 obtain ⟨no, n, nc, L, e0, l0, c0, w0, g0, r0⟩ := rows_open3 (R := RNd2 w) Tryz.underlying22 hn5 (by omega) node_open2 h0 z0
 obtain ⟨fo, k, fc, F, e1, l1, c1, w1, g1, r1⟩ := rows_open3 (R := RFw2 w) Tryz.underlying23 hf3 (by omega) func_open2 h1 z1
 simp only [List.cons.injEq, and_true] at e0 e1
 subst e0 e1
 rw [b5] at w0
 rw [b3] at w1
 refine ⟨no, fo, n, nc, k, fc, L, F, rfl, ⟨l0, fun h0 => ?_⟩, ⟨l1, fun h0 => ?_⟩, reach_lt (by omega) w0, reach_lt (by omega) w1, ⟨fun x hx => ?_, fun x hx => ?_, fun x hx => ?_, fun x hx => ?_⟩, c0, c1⟩
 ·obtain ⟨b, off, ho, hr⟩ := r0 h0
  refine ⟨b, off, ho, fun i hi => ?_⟩
  obtain ⟨cs', -, ⟨v, rfl, hv, -⟩, hcell⟩ := hr i hi
  exact ⟨v, hv, hcell⟩
 ·obtain ⟨b, off, ho, hr⟩ := r1 h0
  refine ⟨b, off, ho, fun i hi => ?_⟩
  obtain ⟨cs', -, ⟨v, rfl, hv, -⟩, hcell⟩ := hr i hi
  exact ⟨v, hv, hcell⟩
 ·obtain ⟨cs, v, -, -, q1, q2, q3, -⟩ := g0 x hx
  exact ⟨q1, q2, q3⟩
 ·obtain ⟨cs, v, -, -, q1, q2, -⟩ := g1 x hx
  exact ⟨q1, q2⟩
 ·obtain ⟨cs, v, -, -, -, -, -, q⟩ := g0 x hx
  exact q
 ·obtain ⟨cs, v, -, -, -, -, q⟩ := g1 x hx
  exact q
end
end Syn
end Go.Proofs.YtmifookckpelaaaGreatDoor
