/-
  Layer 8, texts merged: SvA, SvB, SvC, SvD. For every argument within the bounds that each theorem names.
-/
import Derived.Test.YtcapkeaedpabjaaGreatDoorWL2
import Derived.WalkSmall
import Derived.Test.YtcapkeaedpabjaaGreatDoorWF1
import Derived.Test.YtcapkeaedpabjaaGreatDoorWK2

/-
 Layer 9, the reference: function, repeated.
-/
namespace Go.Proofs.YtcapkeaedpabjaaGreatDoor
open Go.RowKit Go.ChangeShapes Go.WideShapes
namespace Syn
set_option maxRecDepth 100000 in
set_option maxHeartbeats 4000000 in
theorem rfun_any (no fo : Option Addr) (n nc k fc : Nat) (F : List Fw) (s : Txt) (hk : k ≤ 4611686018427387904) (w : World) (hF : FArg w fo k F) :
  Calls Tryz.prog 53 #[.agg #[.slice no n nc, .slice fo k fc], .string ⟨s.toArray⟩] w fun e w' => e = .returned (.int .i64 (fixI (fun f => decide (f.name = s)) 0 F)) ∧ Bel w w' := by
 obtain ⟨V, hV⟩ : ∃ V, w.alloc (.cells #[.slice no n nc, .slice fo k fc] 25) = V := ⟨_, rfl⟩
 have BV : Bel w V := by rw [← hV]; exact Bel.alloc (Bel.refl w) _
 have v1 : V.cell? ⟨w.heap.size, 1, none⟩ = some (.slice fo k fc) := by rw [← hV]; exact World.cell?_alloc_new ..
 obtain ⟨X, hX⟩ : ∃ X, fixI (fun f : Fw => decide (f.name = s)) 0 F = X := ⟨_, rfl⟩
 rw [hX]
 have HX : Hid (fixI (fun f : Fw => decide (f.name = s)) 0 (F.drop 0) = X) := Lib.hid hX
 have HV := Lib.hid hV
 have HB := Lib.hid BV
 have HL := Lib.hid hF.1
 by_cases h0 : k = 0
 ·have hz : Hid (X = -1) := Lib.hid (by
   have e : F = [] := List.eq_nil_of_length_eq_zero (hF.1.trans h0)
   rw [← hX, e]
   rfl)
  subst h0
  clear hF hX hV BV
  go_enter Tryz.func53, Tryz.ntmps53
  go_wp2_with fail
  go_loopw [5] (fun iv wr => iv = .int .i64 0 ∧ wr = V) (fun _ _ => 0)
  case atStart => exact ⟨rfl, HV.out⟩
  case round =>
   obtain ⟨rfl, rfl⟩ := hrel
   go_wp2
   go_ret
   exact ⟨by rw [hz.out]; rfl, HB.out⟩
 ·obtain ⟨b, off, rfl, hc⟩ := hF.2 (by omega)
  have hc' : ∀ i (h : i < F.length), V.cell? ⟨b, off + i * 3, none⟩ = some (.string ⟨F[i].name.toArray⟩) := fun i h => by
   obtain ⟨v, hv, hcell⟩ := hc i h
   rw [← hv.s]
   exact BV.cell' (hcell 0 _ rfl)
  have HC := Lib.hid hc'
  have hk0 : (0 : Int) < (k : Int) := by omega
  clear hF hX hV BV hc hc'
  go_enter Tryz.func53, Tryz.ntmps53
  go_wp2_with fail
  go_loopw [5] (fun iv wr => ∃ j : Nat, iv = .int .i64 (j : Int) ∧ j ≤ k ∧ Hid (fixI (fun f : Fw => decide (f.name = s)) j (F.drop j) = X) ∧ wr = V) (fun iv _ => k - (intOf iv).toNat)
  case atStart => exact ⟨0, rfl, Nat.zero_le _, HX, HV.out⟩
  case round =>
   obtain ⟨j, rfl, hj, HM, rfl⟩ := hrel
   rcases Nat.lt_or_ge j k with hjn | hjn
   ·have q1 : j < F.length := by rw [HL.out]; exact hjn
    have c0 := HC.out j q1
    have hM := HM.out
    rw [List.drop_eq_getElem_cons q1, fixI] at hM
    generalize hu : F[j].name = u at *
    by_cases huv : u = s
    ·have hz : Hid (X = (j : Int)) := Lib.hid (by rw [← hM, if_pos (by simpa using huv)])
     have buv : (u == s) = true := by simpa using huv
     clear hM HM hu
     go_wp2_with fail
     go_ret
     exact ⟨by rw [hz.out]; rfl, HB.out⟩
    ·rw [if_neg (by simpa using huv)] at hM
     have hM2 := Lib.hid hM
     have buv : (u == s) = false := by simpa using huv
     clear hM HM hu
     go_wp2_with fail
     go_round
     case rel => exact ⟨j + 1, by go_num, by omega, hM2, trivial⟩
     case measure => simp [intOf]; omega
   ·have hz : Hid (X = -1) := Lib.hid (by
     have := HM.out
     rw [List.drop_eq_nil_of_le (by rw [HL.out]; exact hjn)] at this
     rw [← this]
     rfl)
    obtain rfl : j = k := by omega
    go_wp2_with fail
    go_ret
    exact ⟨by rw [hz.out]; rfl, HB.out⟩
theorem nodup_take {l : List Txt} {i : Nat} (hi : i < l.length) (h : (l.take i).Nodup) (hn : ∀ j (hj : j < i), l[j]'(by omega) ≠ l[i]) : (l.take (i + 1)).Nodup := by
 rw [List.take_succ_eq_append_getElem hi, List.nodup_append]
 refine ⟨h, by simp, fun a ha b hb e => ?_⟩
 rw [List.mem_singleton.1 hb] at e
 obtain ⟨j, hj, rfl⟩ := List.getElem_of_mem ha
 rw [List.length_take] at hj
 rw [List.getElem_take] at e
 exact hn j (by omega) e
set_option maxRecDepth 100000 in
set_option maxHeartbeats 8000000 in
theorem rrep_any (o : Option Addr) (n c : Nat) (ps : List Txt) (hn : n ≤ 100000) (w : World) (hA : KArg w o n ps) :
  Calls Tryz.prog 54 #[.slice o n c] w fun e w' => e = .returned (.bool (twiceB ps)) ∧ Bel w w' := by
 obtain ⟨hl, hat⟩ := karg_at hA
 obtain ⟨X, hX⟩ : ∃ X, twiceB ps = X := ⟨_, rfl⟩
 have HX1 := Lib.hid (show ¬ ps.Nodup → X = true from fun h => by rw [← hX]; exact (twice_iff ps).2 h)
 have HX2 := Lib.hid (show ps.Nodup → X = false from fun h => by
  rw [← hX]
  cases ht : twiceB ps with
  | false => rfl
  | true => exact absurd h ((twice_iff ps).1 ht))
 rw [hX]
 have HAt := Lib.hid hat
 have Hl := Lib.hid hl
 clear hX hA hat hl
 go_enter Tryz.func54, Tryz.ntmps54
 go_wp2_with fail
 go_loopw [3] (fun iv wr => ∃ i : Nat, iv = .int .i64 (i : Int) ∧ i ≤ n ∧ Hid (Bel w wr) ∧ Hid ((ps.take i).Nodup)) (fun iv _ => n - (intOf iv).toNat)
 case atStart => exact ⟨0, rfl, Nat.zero_le _, Lib.hid (Bel.refl _), Lib.hid (by rw [List.take_zero]; exact List.Pairwise.nil)⟩
 case round =>
  obtain ⟨i, rfl, hi, HB, HN⟩ := hrel
  rename World => wr
  rcases Nat.lt_or_ge i n with hin | hin
  ·have hil : i < ps.length := by rw [Hl.out]; exact hin
   obtain ⟨b, off, rfl, hc⟩ := HAt.out (by omega)
   have HC := Lib.hid hc
   have hi1 : (i : Int) < (n : Int) := by omega
   have hi0 : (0 : Int) ≤ (i : Int) := by omega
   obtain ⟨x, hx⟩ : ∃ x, ps[i] = x := ⟨_, rfl⟩
   have HNs := Lib.hid (show (∀ j (hj : j < i), ps[j]'(by omega) ≠ x) → (ps.take (i + 1)).Nodup from fun h => nodup_take hil HN.out (fun j hj => by rw [hx]; exact h j hj))
   have HNo := Lib.hid (show ∀ j (hj : j < i), ps[j]'(by omega) = x → X = true from fun j hj e => HX1.out (fun hnd => by
    exact List.pairwise_iff_getElem.1 hnd j i (by omega) hil hj (by rw [e, hx])))
   have Hci := Lib.hid (hc i hil)
   rw [hx] at Hci
   clear hc hx
   go_wp2_with fail
   go_loopw [4] (fun kv w5 => ∃ j : Nat, kv = .int .i64 (j : Int) ∧ j ≤ i ∧ Hid (Bel w w5) ∧ Hid (∀ m (hm : m < j) (hml : m < ps.length), ps[m] ≠ x)) (fun kv _ => i - (intOf kv).toNat)
   case atStart => exact ⟨0, rfl, Nat.zero_le _, HB, Lib.hid (fun m hm => absurd hm (Nat.not_lt_zero m))⟩
   case round =>
    obtain ⟨j, rfl, hj, HB5, HM⟩ := hrel
    rename World => w5
    rcases Nat.lt_or_ge j i with hji | hji
    ·have hjl : j < ps.length := by omega
     have c0 := HB5.out.cell' (HC.out j hjl)
     have c1 := HB5.out.cell' Hci.out
     have hj1 : (j : Int) < (n : Int) := by omega
     have hj2 : (j : Int) < (i : Int) := by omega
     have hj0 : (0 : Int) ≤ (j : Int) := by omega
     obtain ⟨y, hy⟩ : ∃ y, ps[j] = y := ⟨_, rfl⟩
     rw [hy] at c0
     by_cases hxy : y = x
     ·have hz := Lib.hid (HNo.out j hji (by rw [hy, hxy]))
      subst hxy
      clear hy
      go_wp2_with fail
      go_quiet (fail)
      go_wp2_with fail
      go_ret
      rw [hz.out]
      exact ⟨rfl, Bel.drewN HB5.out _⟩
     ·have HM2 := Lib.hid (show ∀ m (hm : m < j + 1) (hml : m < ps.length), ps[m] ≠ x from fun m hm hml => by
       rcases Nat.lt_or_ge m j with q | q
       ·exact HM.out m q hml
       ·obtain rfl : m = j := by omega
        rw [hy]
        exact hxy)
      have bxy : (x == y) = false := by simpa using fun h : x = y => hxy h.symm
      clear hy hxy
      go_wp2_with fail
      go_quiet (fail)
      go_wp2_with fail
      go_round
      case rel => exact ⟨j + 1, by go_num, by omega, Lib.hid (Bel.drewN HB5.out _), HM2⟩
      case measure => first | (simp [intOf]; done) | (simp [intOf]; omega)
    ·obtain rfl : j = i := by omega
     have HN2 := Lib.hid (HNs.out (fun m hm => HM.out m hm (by omega)))
     go_wp2_with fail
     go_round
     case rel => exact ⟨j + 1, by go_num, by omega, HB5, HN2⟩
     case measure => first | (simp [intOf]; done) | (simp [intOf]; omega)
  ·obtain rfl : i = n := by omega
   have hz := Lib.hid (HX2.out (by have := HN.out; rw [List.take_of_length_le (by rw [Hl.out]; exact Nat.le_refl _)] at this; exact this))
   go_wp2_with fail
   go_ret
   rw [hz.out]
   exact ⟨rfl, HB.out⟩
end Syn
end Go.Proofs.YtcapkeaedpabjaaGreatDoor

/-
 Layer 9, the reference: the state of its walk; fail, visible.
-/
namespace Go.Proofs.YtcapkeaedpabjaaGreatDoor
open Go.RowKit Go.ChangeShapes Go.WideShapes
namespace Syn
theorem own_setW {w : World} {base : Nat} {e : TypeId} {z : Nat} {v : Value} {n : Nat} {xs : List Value} (h : w.ownsRow base e z v n xs) {p : Addr} (hp : p.block < base) (u : Value) : (w.setCell p u).ownsRow base e z v n xs :=
 own_kept (F := fun k => k = p.block) h (Mod.setCell (F := fun k => k = p.block) (Mod.refl _ w) (p := p) (Or.inl rfl) u) (fun b hb q => by have := h.lt b hb; omega)
/-- The walk's state in memory: its struct in the block wb, the nodes' slots in the block G, the visible names and their slots in blocks of its own from base on. -/
structure WkAt (w : World) (wb G base : Nat) (no fo : Option Addr) (n nc k fc : Nat) (K : Wk) (a1 : Option Addr) (c1 : Nat) (a2 : Option Addr) (c2 : Nat) : Prop where
 p0 : w.cell? ⟨wb, 0, none⟩ = some (.slice no n nc)
 p1 : w.cell? ⟨wb, 1, none⟩ = some (.slice fo k fc)
 e2 : w.cell? ⟨wb, 2, none⟩ = some (.slice a1 K.nms.length c1)
 e3 : w.cell? ⟨wb, 3, none⟩ = some (.slice a2 K.sls.length c2)
 e4 : w.cell? ⟨wb, 4, none⟩ = some (.int .i64 (K.nx : Int))
 e5 : w.cell? ⟨wb, 5, none⟩ = some (.slice (some ⟨G, 0, none⟩) n n)
 e6 : w.cell? ⟨wb, 6, none⟩ = some (.int .i64 K.nd)
 e7 : w.cell? ⟨wb, 7, none⟩ = some (.int .i64 K.er)
 fz : ∀ j, 2 ≤ j → j ≤ 7 → w.frozen? ⟨wb, j, none⟩ = false
 nm : w.ownsRow base 9 1 (.slice a1 K.nms.length c1) K.nms.length (encK K.nms)
 sl : w.ownsRow base 3 1 (.slice a2 K.sls.length c2) K.sls.length (encZ K.sls)
 row : ∀ j (h : j < K.sl.length), w.cell? ⟨G, j, none⟩ = some (.int .i64 K.sl[j]) ∧ w.frozen? ⟨G, j, none⟩ = false
 len : K.sl.length = n
 wlt : wb < base
 glt : G < base
 wg : wb ≠ G
 ne : ∀ b, (Value.slice a1 K.nms.length c1).ownBlock = some b → (Value.slice a2 K.sls.length c2).ownBlock ≠ some b
/-- The blocks that the walk may change: its own. -/
def OB (a : Option Addr) (b : Nat) : Prop := ∃ o s, a = some ⟨b, o, s⟩
theorem ob_own {a : Option Addr} {m c b : Nat} (h : (Value.slice a m c).ownBlock = some b) : OB a b := by
 cases a with
 | none => cases h
 | some a =>
  obtain ⟨x, o, s⟩ := a
  have e : x = b := Option.some.inj h
  subst e
  exact ⟨o, s, rfl⟩
theorem own_ob {a : Option Addr} {m c b : Nat} (h : OB a b) : (Value.slice a m c).ownBlock = some b := by
 obtain ⟨o, s, rfl⟩ := h
 rfl
def WkO (wb G : Nat) (a1 a2 : Option Addr) (b : Nat) : Prop := b = wb ∨ b = G ∨ OB a1 b ∨ OB a2 b
theorem WkAt.bel {w w' : World} {wb G base : Nat} {no fo : Option Addr} {n nc k fc : Nat} {K : Wk} {a1 a2 : Option Addr} {c1 c2 : Nat} (h : WkAt w wb G base no fo n nc k fc K a1 c1 a2 c2) (g : Bel w w') : WkAt w' wb G base no fo n nc k fc K a1 c1 a2 c2 :=
 ⟨g.cell' h.p0, g.cell' h.p1, g.cell' h.e2, g.cell' h.e3, g.cell' h.e4, g.cell' h.e5, g.cell' h.e6, g.cell' h.e7,
  fun j h1 h2 => by
   have hc : ∃ v, w.cell? ⟨wb, j, none⟩ = some v := by
    obtain rfl | rfl | rfl | rfl | rfl | rfl : j = 2 ∨ j = 3 ∨ j = 4 ∨ j = 5 ∨ j = 6 ∨ j = 7 := by omega
    ·exact ⟨_, h.e2⟩
    ·exact ⟨_, h.e3⟩
    ·exact ⟨_, h.e4⟩
    ·exact ⟨_, h.e5⟩
    ·exact ⟨_, h.e6⟩
    ·exact ⟨_, h.e7⟩
   obtain ⟨v, hv⟩ := hc
   exact (mod_froz (Mod.of_bel (F := fun _ => False) g) hv (fun h => h)).trans (h.fz j h1 h2),
  own_kept (F := fun _ => False) h.nm (Mod.of_bel g) (fun _ _ h => h), own_kept (F := fun _ => False) h.sl (Mod.of_bel g) (fun _ _ h => h),
  fun j hj => ⟨g.cell' (h.row j hj).1, (mod_froz (Mod.of_bel (F := fun _ => False) g) (h.row j hj).1 (fun h => h)).trans (h.row j hj).2⟩, h.len, h.wlt, h.glt, h.wg, h.ne⟩
theorem WkAt.set4 {w : World} {wb G base : Nat} {no fo : Option Addr} {n nc k fc : Nat} {K : Wk} {a1 a2 : Option Addr} {c1 c2 : Nat} (h : WkAt w wb G base no fo n nc k fc K a1 c1 a2 c2) (v : Nat) : WkAt (w.setCell ⟨wb, 4, none⟩ (.int .i64 (v : Int))) wb G base no fo n nc k fc { K with nx := v } a1 c1 a2 c2 :=
 ⟨(World.cell?_setCell_other _ _ _ _ (by simp)).trans h.p0, (World.cell?_setCell_other _ _ _ _ (by simp)).trans h.p1, (World.cell?_setCell_other _ _ _ _ (by simp)).trans h.e2, (World.cell?_setCell_other _ _ _ _ (by simp)).trans h.e3, World.cell?_setCell_same _ _ _ h.e4, (World.cell?_setCell_other _ _ _ _ (by simp)).trans h.e5, (World.cell?_setCell_other _ _ _ _ (by simp)).trans h.e6, (World.cell?_setCell_other _ _ _ _ (by simp)).trans h.e7, fun j h1 h2 => by rw [World.frozen?_setCell]; exact h.fz j h1 h2, own_setW h.nm (p := ⟨wb, 4, none⟩) h.wlt _, own_setW h.sl (p := ⟨wb, 4, none⟩) h.wlt _, fun j hj => ⟨(World.cell?_setCell_other _ _ _ _ (by intro e; exact h.wg (congrArg Addr.block e))).trans (h.row j hj).1, by rw [World.frozen?_setCell]; exact (h.row j hj).2⟩, h.len, h.wlt, h.glt, h.wg, h.ne⟩
theorem WkAt.set6 {w : World} {wb G base : Nat} {no fo : Option Addr} {n nc k fc : Nat} {K : Wk} {a1 a2 : Option Addr} {c1 c2 : Nat} (h : WkAt w wb G base no fo n nc k fc K a1 c1 a2 c2) (v : Int) : WkAt (w.setCell ⟨wb, 6, none⟩ (.int .i64 v)) wb G base no fo n nc k fc { K with nd := v } a1 c1 a2 c2 :=
 ⟨(World.cell?_setCell_other _ _ _ _ (by simp)).trans h.p0, (World.cell?_setCell_other _ _ _ _ (by simp)).trans h.p1, (World.cell?_setCell_other _ _ _ _ (by simp)).trans h.e2, (World.cell?_setCell_other _ _ _ _ (by simp)).trans h.e3, (World.cell?_setCell_other _ _ _ _ (by simp)).trans h.e4, (World.cell?_setCell_other _ _ _ _ (by simp)).trans h.e5, World.cell?_setCell_same _ _ _ h.e6, (World.cell?_setCell_other _ _ _ _ (by simp)).trans h.e7, fun j h1 h2 => by rw [World.frozen?_setCell]; exact h.fz j h1 h2, own_setW h.nm (p := ⟨wb, 6, none⟩) h.wlt _, own_setW h.sl (p := ⟨wb, 6, none⟩) h.wlt _, fun j hj => ⟨(World.cell?_setCell_other _ _ _ _ (by intro e; exact h.wg (congrArg Addr.block e))).trans (h.row j hj).1, by rw [World.frozen?_setCell]; exact (h.row j hj).2⟩, h.len, h.wlt, h.glt, h.wg, h.ne⟩
theorem WkAt.set7 {w : World} {wb G base : Nat} {no fo : Option Addr} {n nc k fc : Nat} {K : Wk} {a1 a2 : Option Addr} {c1 c2 : Nat} (h : WkAt w wb G base no fo n nc k fc K a1 c1 a2 c2) (v : Int) : WkAt (w.setCell ⟨wb, 7, none⟩ (.int .i64 v)) wb G base no fo n nc k fc { K with er := v } a1 c1 a2 c2 :=
 ⟨(World.cell?_setCell_other _ _ _ _ (by simp)).trans h.p0, (World.cell?_setCell_other _ _ _ _ (by simp)).trans h.p1, (World.cell?_setCell_other _ _ _ _ (by simp)).trans h.e2, (World.cell?_setCell_other _ _ _ _ (by simp)).trans h.e3, (World.cell?_setCell_other _ _ _ _ (by simp)).trans h.e4, (World.cell?_setCell_other _ _ _ _ (by simp)).trans h.e5, (World.cell?_setCell_other _ _ _ _ (by simp)).trans h.e6, World.cell?_setCell_same _ _ _ h.e7, fun j h1 h2 => by rw [World.frozen?_setCell]; exact h.fz j h1 h2, own_setW h.nm (p := ⟨wb, 7, none⟩) h.wlt _, own_setW h.sl (p := ⟨wb, 7, none⟩) h.wlt _, fun j hj => ⟨(World.cell?_setCell_other _ _ _ _ (by intro e; exact h.wg (congrArg Addr.block e))).trans (h.row j hj).1, by rw [World.frozen?_setCell]; exact (h.row j hj).2⟩, h.len, h.wlt, h.glt, h.wg, h.ne⟩
theorem WkAt.app1 {w w' : World} {wb G base : Nat} {no fo : Option Addr} {n nc k fc : Nat} {K : Wk} {a1 a2 o3 : Option Addr} {c1 c2 c3 : Nat} {s : Txt} (h : WkAt w wb G base no fo n nc k fc K a1 c1 a2 c2) (ho : w'.ownsRow base 9 1 (.slice o3 (K.nms.length + 1) c3) (K.nms.length + 1) (encK (K.nms ++ [s]))) (hg : w.grownBy w' (Value.slice a1 K.nms.length c1).ownBlock)
  (hat : (Value.slice o3 (K.nms.length + 1) c3).ownBlock = (Value.slice a1 K.nms.length c1).ownBlock ∨ (Value.slice o3 (K.nms.length + 1) c3).ownBlock = some w.heap.size) : WkAt (w'.setCell ⟨wb, 2, none⟩ (.slice o3 (K.nms.length + 1) c3)) wb G base no fo n nc k fc { K with nms := K.nms ++ [s] } o3 c3 a2 c2 := by
 have g := Mod.grown (F := fun b => base ≤ b) hg (fun i e => (h.nm.lt i e).1)
 have hw : ¬ base ≤ wb := by have := h.wlt; omega
 have hG : ¬ base ≤ G := by have := h.glt; omega
 have hne : (Value.slice a2 K.sls.length c2).ownBlock = none ∨ (Value.slice a2 K.sls.length c2).ownBlock ≠ (Value.slice a1 K.nms.length c1).ownBlock := by
  cases hv : (Value.slice a1 K.nms.length c1).ownBlock with
  | none =>
   cases hq : (Value.slice a2 K.sls.length c2).ownBlock with
   | none => exact .inl rfl
   | some q => exact .inr (by simp)
  | some q => exact .inr (h.ne q hv)
 have e0 : ∀ {j : Nat} {v : Value}, j ≠ 2 → w.cell? ⟨wb, j, none⟩ = some v → (w'.setCell ⟨wb, 2, none⟩ (.slice o3 (K.nms.length + 1) c3)).cell? ⟨wb, j, none⟩ = some v := fun hj hc => (World.cell?_setCell_other _ _ _ _ (by intro e; exact hj (congrArg Addr.off e).symm)).trans (g.cell hc hw)
 have hl : (K.nms ++ [s]).length = K.nms.length + 1 := by simp
 refine ⟨e0 (by decide) h.p0, e0 (by decide) h.p1, ?_, e0 (by decide) h.e3, e0 (by decide) h.e4, e0 (by decide) h.e5, e0 (by decide) h.e6, e0 (by decide) h.e7, fun j h1 h2 => ?_, ?_, own_setW (h.sl.kept hg hne) (p := ⟨wb, 2, none⟩) h.wlt _, fun j hj => ⟨(World.cell?_setCell_other _ _ _ _ (by intro e; exact h.wg (congrArg Addr.block e))).trans (g.cell (h.row j hj).1 hG), by rw [World.frozen?_setCell]; exact (mod_froz g (h.row j hj).1 hG).trans (h.row j hj).2⟩, h.len, h.wlt, h.glt, h.wg, fun b hb => ?_⟩
 ·simp only [hl]
  exact World.cell?_setCell_same _ _ _ (g.cell h.e2 hw)
 ·rw [World.frozen?_setCell]
  obtain ⟨v, hv⟩ : ∃ v, w.cell? ⟨wb, j, none⟩ = some v := by
   obtain rfl | rfl | rfl | rfl | rfl | rfl : j = 2 ∨ j = 3 ∨ j = 4 ∨ j = 5 ∨ j = 6 ∨ j = 7 := by omega
   ·exact ⟨_, h.e2⟩
   ·exact ⟨_, h.e3⟩
   ·exact ⟨_, h.e4⟩
   ·exact ⟨_, h.e5⟩
   ·exact ⟨_, h.e6⟩
   ·exact ⟨_, h.e7⟩
  exact (mod_froz g hv hw).trans (h.fz j h1 h2)
 ·simp only [hl]
  exact own_setW ho (p := ⟨wb, 2, none⟩) h.wlt _
 ·simp only [hl] at hb
  rcases hat with q | q
  ·rw [q] at hb
   exact h.ne b hb
  ·rw [q] at hb
   cases hb
   intro hv
   have := (h.sl.lt _ hv).2
   omega
theorem WkAt.app2 {w w' : World} {wb G base : Nat} {no fo : Option Addr} {n nc k fc : Nat} {K : Wk} {a1 a2 o3 : Option Addr} {c1 c2 c3 : Nat} {z : Int} (h : WkAt w wb G base no fo n nc k fc K a1 c1 a2 c2) (ho : w'.ownsRow base 3 1 (.slice o3 (K.sls.length + 1) c3) (K.sls.length + 1) (encZ (K.sls ++ [z]))) (hg : w.grownBy w' (Value.slice a2 K.sls.length c2).ownBlock)
  (hat : (Value.slice o3 (K.sls.length + 1) c3).ownBlock = (Value.slice a2 K.sls.length c2).ownBlock ∨ (Value.slice o3 (K.sls.length + 1) c3).ownBlock = some w.heap.size) : WkAt (w'.setCell ⟨wb, 3, none⟩ (.slice o3 (K.sls.length + 1) c3)) wb G base no fo n nc k fc { K with sls := K.sls ++ [z] } a1 c1 o3 c3 := by
 have g := Mod.grown (F := fun b => base ≤ b) hg (fun i e => (h.sl.lt i e).1)
 have hw : ¬ base ≤ wb := by have := h.wlt; omega
 have hG : ¬ base ≤ G := by have := h.glt; omega
 have hne : (Value.slice a1 K.nms.length c1).ownBlock = none ∨ (Value.slice a1 K.nms.length c1).ownBlock ≠ (Value.slice a2 K.sls.length c2).ownBlock := by
  cases hv : (Value.slice a1 K.nms.length c1).ownBlock with
  | none => exact .inl rfl
  | some q => exact .inr (fun e => h.ne q hv e.symm)
 have e0 : ∀ {j : Nat} {v : Value}, j ≠ 3 → w.cell? ⟨wb, j, none⟩ = some v → (w'.setCell ⟨wb, 3, none⟩ (.slice o3 (K.sls.length + 1) c3)).cell? ⟨wb, j, none⟩ = some v := fun hj hc => (World.cell?_setCell_other _ _ _ _ (by intro e; exact hj (congrArg Addr.off e).symm)).trans (g.cell hc hw)
 have hl : (K.sls ++ [z]).length = K.sls.length + 1 := by simp
 refine ⟨e0 (by decide) h.p0, e0 (by decide) h.p1, e0 (by decide) h.e2, ?_, e0 (by decide) h.e4, e0 (by decide) h.e5, e0 (by decide) h.e6, e0 (by decide) h.e7, fun j h1 h2 => ?_, own_setW (h.nm.kept hg hne) (p := ⟨wb, 3, none⟩) h.wlt _, ?_, fun j hj => ⟨(World.cell?_setCell_other _ _ _ _ (by intro e; exact h.wg (congrArg Addr.block e))).trans (g.cell (h.row j hj).1 hG), by rw [World.frozen?_setCell]; exact (mod_froz g (h.row j hj).1 hG).trans (h.row j hj).2⟩, h.len, h.wlt, h.glt, h.wg, fun b hb hv => ?_⟩
 ·simp only [hl]
  exact World.cell?_setCell_same _ _ _ (g.cell h.e3 hw)
 ·rw [World.frozen?_setCell]
  obtain ⟨v, hv⟩ : ∃ v, w.cell? ⟨wb, j, none⟩ = some v := by
   obtain rfl | rfl | rfl | rfl | rfl | rfl : j = 2 ∨ j = 3 ∨ j = 4 ∨ j = 5 ∨ j = 6 ∨ j = 7 := by omega
   ·exact ⟨_, h.e2⟩
   ·exact ⟨_, h.e3⟩
   ·exact ⟨_, h.e4⟩
   ·exact ⟨_, h.e5⟩
   ·exact ⟨_, h.e6⟩
   ·exact ⟨_, h.e7⟩
  exact (mod_froz g hv hw).trans (h.fz j h1 h2)
 ·simp only [hl]
  exact own_setW ho (p := ⟨wb, 3, none⟩) h.wlt _
 ·simp only [hl] at hv
  rcases hat with q | q
  ·rw [q] at hv
   exact h.ne b hb hv
  ·rw [q] at hv
   cases hv
   have := (h.nm.lt _ hb).2
   omega
theorem wk_mod (w : World) (wb q : Nat) (u : Value) : Mod (fun b => b = wb) w (w.setCell ⟨wb, q, none⟩ u) := (Mod.refl (fun b => b = wb) w).setCell (p := ⟨wb, q, none⟩) (Or.inl rfl) u
theorem mod_tr {F : Nat → Prop} {a b c : World} (h : Mod F a b) (g : Mod F b c) : Mod F a c := h.trans g (fun _ k => Or.inl k)
set_option maxRecDepth 100000 in
set_option maxHeartbeats 4000000 in
theorem wfail_any (wb G base : Nat) (no fo : Option Addr) (n nc k fc : Nat) (K : Wk) (a1 a2 : Option Addr) (c1 c2 : Nat) (i : Nat) (er : Int) (w : World) (hW : WkAt w wb G base no fo n nc k fc K a1 c1 a2 c2) :
  Calls Tryz.prog 158 #[.pointer (some ⟨wb, 0, none⟩), .int .i64 (i : Int), .int .i64 er] w fun e w' => e = .returned (.tuple #[]) ∧ WkAt w' wb G base no fo n nc k fc (K.fail i er) a1 c1 a2 c2 ∧ Mod (fun b => b = wb) w w' := by
 have HW := Lib.hid hW
 have e6 := hW.e6
 have e7 := hW.e7
 have f6 := hW.fz 6 (by omega) (by omega)
 have f7 := hW.fz 7 (by omega) (by omega)
 unfold Wk.fail
 by_cases h : K.er = 0
 ·rw [if_pos h]
  rw [h] at e7
  have HS := Lib.hid ((hW.set6 (i : Int)).set7 er)
  have g7 : (w.setCell ⟨wb, 6, none⟩ (.int .i64 (i : Int))).cell? ⟨wb, 7, none⟩ = some (.int .i64 0) := (World.cell?_setCell_other _ _ _ _ (by simp)).trans e7
  have k7 : (w.setCell ⟨wb, 6, none⟩ (.int .i64 (i : Int))).frozen? ⟨wb, 7, none⟩ = false := by rw [World.frozen?_setCell]; exact f7
  clear hW h
  go_enter Tryz.func158, Tryz.ntmps158
  go_wp2_with fail
  go_end0
  exact ⟨rfl, HS.out, mod_tr (wk_mod _ _ _ _) (wk_mod _ _ _ _)⟩
 ·rw [if_neg h]
  obtain ⟨ke, hke⟩ : ∃ ke, K.er = ke := ⟨_, rfl⟩
  rw [hke] at e7 h
  have b7 : (ke == 0) = false := by simpa using h
  clear hW h hke
  go_enter Tryz.func158, Tryz.ntmps158
  go_wp2_with fail
  go_end0
  exact ⟨rfl, HW.out, Mod.refl _ _⟩
end Syn
end Go.Proofs.YtcapkeaedpabjaaGreatDoor

/-
 Layer 9, the reference: visible, call.
-/
namespace Go.Proofs.YtcapkeaedpabjaaGreatDoor
open Go.RowKit Go.ChangeShapes Go.WideShapes
namespace Syn
theorem visI_cons (n : Txt) (ns : List Txt) (s : Int) (ss : List Int) (x : Txt) : visI (n :: ns) (s :: ss) x = if n = x then s else visI ns ss x := rfl
set_option maxRecDepth 100000 in
set_option maxHeartbeats 4000000 in
theorem wvisible_any (wb G base : Nat) (no fo : Option Addr) (n nc k fc : Nat) (K : Wk) (a1 a2 : Option Addr) (c1 c2 : Nat) (s : Txt) (hl : K.nms.length ≤ 100000) (hln : K.sls.length = K.nms.length) (w : World) (hW : WkAt w wb G base no fo n nc k fc K a1 c1 a2 c2) :
  Calls Tryz.prog 157 #[.pointer (some ⟨wb, 0, none⟩), .string ⟨s.toArray⟩] w fun e w' => e = .returned (.int .i64 (visI K.nms K.sls s)) ∧ w' = w := by
 have e2 := hW.e2
 have e3 := hW.e3
 obtain ⟨hkl, hka⟩ := karg_at (own_karg hW.nm)
 have hZ := own_zarg hW.sl
 have hzl := hln
 rw [hln] at e3 hZ
 obtain ⟨m, hm⟩ : ∃ m, K.nms.length = m := ⟨_, rfl⟩
 obtain ⟨X, hX⟩ : ∃ X, visI K.nms K.sls s = X := ⟨_, rfl⟩
 rw [hX]
 have HX := Lib.hid (show visI (K.nms.drop 0) (K.sls.drop 0) s = X from hX)
 rw [hm] at e2 e3 hzl hl hZ
 have HK := Lib.hid hka
 have HZ := Lib.hid hZ
 have Hm := Lib.hid hm
 generalize K.nms = nms at *
 generalize K.sls = sls at *
 clear hW hX hkl hka hZ hm hln
 go_enter Tryz.func157, Tryz.ntmps157
 go_wp2_with fail
 go_loopw [5] (fun iv wr => ∃ i : Nat, iv = .int .i64 (i : Int) ∧ i ≤ m ∧ wr = w ∧ Hid (visI (nms.drop i) (sls.drop i) s = X)) (fun iv _ => m - (intOf iv).toNat)
 case atStart => exact ⟨0, rfl, Nat.zero_le _, rfl, HX⟩
 case round =>
  obtain ⟨i, rfl, hi, hw, HM⟩ := hrel
  obtain rfl := hw.symm
  rcases Nat.lt_or_ge i m with him | him
  ·have hil : i < nms.length := by rw [Hm.out]; exact him
   have his : i < sls.length := by omega
   have hM := HM.out
   rw [List.drop_eq_getElem_cons hil, List.drop_eq_getElem_cons his, visI_cons] at hM
   obtain ⟨b, off, rfl, hc⟩ := HK.out (by have := Hm.out; omega)
   obtain ⟨zb, zo, rfl, hz⟩ := za_addr HZ.out (by omega)
   have c0 := hc i hil
   have c1 := hz i his
   have hi1 : (i : Int) < (m : Int) := by omega
   have hi0 : (0 : Int) ≤ (i : Int) := by omega
   obtain ⟨y, hy⟩ : ∃ y, nms[i] = y := ⟨_, rfl⟩
   obtain ⟨v, hv⟩ : ∃ v, sls[i] = v := ⟨_, rfl⟩
   rw [hy] at c0 hM
   rw [hv] at c1 hM
   clear hc hz hy hv
   by_cases hys : y = s
   ·rw [if_pos hys] at hM
    subst hys
    subst hM
    go_wp2_with fail
    go_ret
    exact ⟨rfl, rfl⟩
   ·rw [if_neg hys] at hM
    have HM2 := Lib.hid hM
    have b0 : (y == s) = false := by simpa using hys
    clear hM hys
    go_wp2_with fail
    go_round
    case rel => exact ⟨i + 1, by go_num, by omega, by first | rfl | trivial, HM2⟩
    case measure => first | (simp [intOf]; done) | (simp [intOf]; omega)
  ·have hz : Hid (X = -1) := Lib.hid (by
    have := HM.out
    rw [List.drop_eq_nil_of_le (by rw [Hm.out]; exact him)] at this
    rw [← this]
    rfl)
   obtain rfl : i = m := by omega
   go_wp2_with fail
   go_ret
   rw [hz.out]
   exact ⟨rfl, rfl⟩
end Syn
end Go.Proofs.YtcapkeaedpabjaaGreatDoor

/-
 Layer 9, the reference: call.
-/
namespace Go.Proofs.YtcapkeaedpabjaaGreatDoor
open Go.RowKit Go.ChangeShapes Go.WideShapes
namespace Syn
theorem hst_rany (s : Txt) (w : World) : Calls Tryz.prog 212 #[.string ⟨s.toArray⟩] w fun e w' => e = .returned (okN (hstI s)) ∧ w' = w := rhst_any s w
set_option maxRecDepth 100000 in
set_option maxHeartbeats 4000000 in
theorem wcall_hf (wb G base : Nat) (nb nf : Nat) (fo : Option Addr) (n nc k fc : Nat) (F : List Fw) (K : Wk) (a1 a2 : Option Addr) (c1 c2 : Nat) (i : Nat) (s : Txt) (vi : Int) (ko jo : Option Addr) (kn kc jn jc : Nat) (hin : i < n) (hk : k ≤ 1000) (_hjn : jn ≤ 100000) (w : World) (hW : WkAt w wb G base (some ⟨nb, nf, none⟩) fo n nc k fc K a1 c1 a2 c2) (hF : FArg w fo k F)
  (g1 : w.cell? ⟨nb, nf + i * 5 + 1, none⟩ = some (.string ⟨s.toArray⟩)) (g2 : w.cell? ⟨nb, nf + i * 5 + 2, none⟩ = some (.int .i64 vi)) (g3 : w.cell? ⟨nb, nf + i * 5 + 3, none⟩ = some (.slice ko kn kc)) (g4 : w.cell? ⟨nb, nf + i * 5 + 4, none⟩ = some (.slice jo jn jc)) (g0 : w.cell? ⟨nb, nf + i * 5, none⟩ = some (.int .i64 12)) (q : Nat) (hq : q < k) (hfi : findI F s = (q : Int)) (pn : Nat) (hfn : ∃ fb ff po pk pc, fo = some ⟨fb, ff, none⟩ ∧ pk = pn ∧ w.cell? ⟨fb, ff + q * 3 + 1, none⟩ = some (.slice po pk pc)) :
  Calls Tryz.prog 159 #[.pointer (some ⟨wb, 0, none⟩), .int .i64 (i : Int)] w fun e w' => e = .returned (.tuple #[]) ∧ WkAt w' wb G base (some ⟨nb, nf, none⟩) fo n nc k fc (if argE jn (hstI s) = 0 then K else K.fail i (argE jn (hstI s))) a1 c1 a2 c2 ∧ Mod (fun b => b = wb) w w' := by
 have hin1 : (i : Int) < (n : Int) := by omega
 have hin0 : (0 : Int) ≤ (i : Int) := by omega
 have p0 := hW.p0
 obtain ⟨V, hV⟩ : ∃ V, w.alloc (.cells #[.int .i64 12, .string ⟨s.toArray⟩, .int .i64 vi, .slice ko kn kc, .slice jo jn jc] 65) = V := ⟨_, rfl⟩
 have BV : Bel w V := by rw [← hV]; exact Bel.alloc (Bel.refl _) _
 obtain ⟨y0, y1, -, -, y4⟩ := box5 w (.int .i64 12) (.string ⟨s.toArray⟩) (.int .i64 vi) (.slice ko kn kc) (.slice jo jn jc) 65
 rw [hV] at y0 y1 y4
 have HBV := Lib.hid BV
 have HWk := Lib.hid hW
 have HVe := Lib.hid hV
 obtain ⟨C, hC⟩ : ∃ C : World → Prop, C = fun W => W.cell? ⟨wb, 0, none⟩ = some (.slice (some ⟨nb, nf, none⟩) n nc) ∧ W.cell? ⟨wb, 1, none⟩ = some (.slice fo k fc) ∧ W.cell? ⟨w.heap.size, 1, none⟩ = some (.string ⟨s.toArray⟩) ∧ Bel V W := ⟨_, rfl⟩
 have cV : C V.drew := by rw [hC]; exact ⟨BV.cell' hW.p0, BV.cell' hW.p1, y1, Below.drew (Bel.refl _)⟩
 have cO : ∀ W, C W → W.cell? ⟨wb, 0, none⟩ = some (.slice (some ⟨nb, nf, none⟩) n nc) ∧ W.cell? ⟨wb, 1, none⟩ = some (.slice fo k fc) ∧ W.cell? ⟨w.heap.size, 1, none⟩ = some (.string ⟨s.toArray⟩) ∧ Bel V W := fun W h => by rw [hC] at h; exact h
 have cK : ∀ W W', C W → Bel W W' → C W' := fun W W' h g => by
  rw [hC] at h ⊢
  exact ⟨g.cell' h.1, g.cell' h.2.1, g.cell' h.2.2.1, Bel.trans h.2.2.2 g⟩
 have H1 := Lib.hid (fun W (h : C W) => (rfun_any (some ⟨nb, nf, none⟩) fo n nc k fc F s (by omega) W ((hF.on BV).on (cO W h).2.2.2)).mono fun e w' r => show _ ∧ C w' from ⟨r.1, cK W w' h r.2⟩)
 have hX2 : fixI (fun g => decide (g.name = s)) 0 F = findI F s := rfl
 rw [hX2] at H1
 have HB := Lib.hid (rblt_any s V)
 have HH := Lib.hid (fun W => hst_rany s W)
 unfold okN at HB HH
 have HC0 := Lib.hid (fun W h => (cO W h).1)
 have HC1 := Lib.hid (fun W h => (cO W h).2.1)
 have HC2 := Lib.hid (fun W h => (cO W h).2.2.1)
 have HC3 := Lib.hid (fun W h => (cO W h).2.2.2)
 have HcV := Lib.hid cV
 have Hy0 := Lib.hid y0
 have Hy1 := Lib.hid y1
 have Hy4 := Lib.hid y4
 have HFl := Lib.hid (fun (er : Int) W (g : Bel w W) => wfail_any wb G base (some ⟨nb, nf, none⟩) fo n nc k fc K a1 a2 c1 c2 i er W (hW.bel g))
 rw [hfi] at H1
 obtain ⟨fb, ff, po, pk, pc, hfo, hpl, hfc⟩ := hfn
 subst hfo
 have Hfc := Lib.hid (show ∀ W, Bel w W → W.cell? ⟨fb, ff + q * 3 + 1, none⟩ = some (.slice po pk pc) from fun W g => g.cell' hfc)
 have hq1 : (q : Int) < (k : Int) := by omega
 have hq0 : (0 : Int) ≤ (q : Int) := by omega
 generalize (if bltI s < 0 then 0 else bltI s) = r1 at *
 generalize decide (0 ≤ bltI s) = b1 at *
 clear hC cV cO cK hX2 hV BV hW y0 y1 y4
 by_cases hw : (hstI s) < 0
 ·have ha : argE (jn : Int) (hstI s) = 4 := by unfold argE; rw [if_pos hw]
  rw [ha, if_neg (by decide)]
  rw [if_pos hw] at HH
  rw [decide_eq_false (show ¬ 0 ≤ hstI s by omega)] at HH
  clear ha hw
  go_enter Tryz.func159, Tryz.ntmps159
  go_wp2_with fail
  rw [HVe.out]
  refine HB.out.mono ?_
  rintro e w2 ⟨rfl, rfl⟩
  have q1 := Hy1.out
  go_wp2_with fail
  refine region_held (C := C) (by kernel_rfl) (by kernel_rfl) HcV.out ?_
  repeat (refine wpQuiet_step (fun K hK => ?_); go_simp; first | (refine hK _ ?_; clear hK K) | (apply Exists.intro; refine ⟨fun V hV => ?_, hK _ ?_⟩; (· (first | with_reducible rfl | with_reducible exact H1.out V hV | (have z0 := HC0.out V hV; have z1 := HC1.out V hV; have z2 := HC2.out V hV; go_simp; first | with_reducible rfl | with_reducible exact ⟨rfl, rfl⟩))); clear hK K))
  refine wpQuiet_nil ?_
  intro w9 hw9
  have B9 := Lib.hid (HC3.out w9 hw9)
  have q0 := B9.out.cell' Hy0.out
  have q2 := B9.out.cell' Hy1.out
  have q4 := B9.out.cell' Hy4.out
  have z1 := HC1.out w9 hw9
  have G9 := Lib.hid (Bel.trans HBV.out B9.out)
  have d1 := Hfc.out w9 G9.out
  clear hw9
  go_wp2_with fail
  refine (HH.out _).mono ?_
  rintro e w10 ⟨rfl, rfl⟩
  go_wp2_with fail
  refine (HFl.out 4 _ G9.out).mono ?_
  rintro e w11 ⟨rfl, k1, k2⟩
  go_wp2_with fail
  go_end0
  exact ⟨rfl, k1, (Mod.of_bel G9.out).trans k2 (fun _ h => Or.inl h)⟩
 rw [if_neg hw] at HH
 rw [decide_eq_true (show 0 ≤ hstI s by omega)] at HH
 generalize hstI s = wv at *
 by_cases hl : (jn : Int) = wv
 ·have ha : argE (jn : Int) wv = 0 := by unfold argE; rw [if_neg hw, if_pos hl]
  rw [ha, if_pos rfl]
  subst hl
  clear ha hw
  go_enter Tryz.func159, Tryz.ntmps159
  go_wp2_with fail
  rw [HVe.out]
  refine HB.out.mono ?_
  rintro e w2 ⟨rfl, rfl⟩
  have q1 := Hy1.out
  go_wp2_with fail
  refine region_held (C := C) (by kernel_rfl) (by kernel_rfl) HcV.out ?_
  repeat (refine wpQuiet_step (fun K hK => ?_); go_simp; first | (refine hK _ ?_; clear hK K) | (apply Exists.intro; refine ⟨fun V hV => ?_, hK _ ?_⟩; (· (first | with_reducible rfl | with_reducible exact H1.out V hV | (have z0 := HC0.out V hV; have z1 := HC1.out V hV; have z2 := HC2.out V hV; go_simp; first | with_reducible rfl | with_reducible exact ⟨rfl, rfl⟩))); clear hK K))
  refine wpQuiet_nil ?_
  intro w9 hw9
  have B9 := Lib.hid (HC3.out w9 hw9)
  have q0 := B9.out.cell' Hy0.out
  have q2 := B9.out.cell' Hy1.out
  have q4 := B9.out.cell' Hy4.out
  have z1 := HC1.out w9 hw9
  have G9 := Lib.hid (Bel.trans HBV.out B9.out)
  have d1 := Hfc.out w9 G9.out
  clear hw9
  go_wp2_with fail
  refine (HH.out _).mono ?_
  rintro e w10 ⟨rfl, rfl⟩
  go_wp2_with fail
  go_end0
  exact ⟨rfl, HWk.out.bel G9.out, Mod.of_bel G9.out⟩
 ·have ha : argE (jn : Int) wv = 7 := by unfold argE; rw [if_neg hw, if_neg hl]
  rw [ha, if_neg (by decide)]
  have hb1 : ((jn : Int) == wv) = false := by simpa using hl
  have hb2 : ((jn : Int) != wv) = true := by simpa using hl
  clear ha hw hl
  go_enter Tryz.func159, Tryz.ntmps159
  go_wp2_with fail
  rw [HVe.out]
  refine HB.out.mono ?_
  rintro e w2 ⟨rfl, rfl⟩
  have q1 := Hy1.out
  go_wp2_with fail
  refine region_held (C := C) (by kernel_rfl) (by kernel_rfl) HcV.out ?_
  repeat (refine wpQuiet_step (fun K hK => ?_); go_simp; first | (refine hK _ ?_; clear hK K) | (apply Exists.intro; refine ⟨fun V hV => ?_, hK _ ?_⟩; (· (first | with_reducible rfl | with_reducible exact H1.out V hV | (have z0 := HC0.out V hV; have z1 := HC1.out V hV; have z2 := HC2.out V hV; go_simp; first | with_reducible rfl | with_reducible exact ⟨rfl, rfl⟩))); clear hK K))
  refine wpQuiet_nil ?_
  intro w9 hw9
  have B9 := Lib.hid (HC3.out w9 hw9)
  have q0 := B9.out.cell' Hy0.out
  have q2 := B9.out.cell' Hy1.out
  have q4 := B9.out.cell' Hy4.out
  have z1 := HC1.out w9 hw9
  have G9 := Lib.hid (Bel.trans HBV.out B9.out)
  have d1 := Hfc.out w9 G9.out
  clear hw9
  go_wp2_with fail
  refine (HH.out _).mono ?_
  rintro e w10 ⟨rfl, rfl⟩
  go_wp2_with fail
  refine (HFl.out 7 _ G9.out).mono ?_
  rintro e w11 ⟨rfl, k1, k2⟩
  go_wp2_with fail
  go_end0
  exact ⟨rfl, k1, (Mod.of_bel G9.out).trans k2 (fun _ h => Or.inl h)⟩
set_option maxRecDepth 100000 in
set_option maxHeartbeats 4000000 in
theorem wcall_hn (wb G base : Nat) (nb nf : Nat) (fo : Option Addr) (n nc k fc : Nat) (F : List Fw) (K : Wk) (a1 a2 : Option Addr) (c1 c2 : Nat) (i : Nat) (s : Txt) (vi : Int) (ko jo : Option Addr) (kn kc jn jc : Nat) (hin : i < n) (hk : k ≤ 1000) (_hjn : jn ≤ 100000) (w : World) (hW : WkAt w wb G base (some ⟨nb, nf, none⟩) fo n nc k fc K a1 c1 a2 c2) (hF : FArg w fo k F)
  (g1 : w.cell? ⟨nb, nf + i * 5 + 1, none⟩ = some (.string ⟨s.toArray⟩)) (g2 : w.cell? ⟨nb, nf + i * 5 + 2, none⟩ = some (.int .i64 vi)) (g3 : w.cell? ⟨nb, nf + i * 5 + 3, none⟩ = some (.slice ko kn kc)) (g4 : w.cell? ⟨nb, nf + i * 5 + 4, none⟩ = some (.slice jo jn jc)) (g0 : w.cell? ⟨nb, nf + i * 5, none⟩ = some (.int .i64 12)) (hfi : findI F s = -1) :
  Calls Tryz.prog 159 #[.pointer (some ⟨wb, 0, none⟩), .int .i64 (i : Int)] w fun e w' => e = .returned (.tuple #[]) ∧ WkAt w' wb G base (some ⟨nb, nf, none⟩) fo n nc k fc (if argE jn (hstI s) = 0 then K else K.fail i (argE jn (hstI s))) a1 c1 a2 c2 ∧ Mod (fun b => b = wb) w w' := by
 have hin1 : (i : Int) < (n : Int) := by omega
 have hin0 : (0 : Int) ≤ (i : Int) := by omega
 have p0 := hW.p0
 obtain ⟨V, hV⟩ : ∃ V, w.alloc (.cells #[.int .i64 12, .string ⟨s.toArray⟩, .int .i64 vi, .slice ko kn kc, .slice jo jn jc] 65) = V := ⟨_, rfl⟩
 have BV : Bel w V := by rw [← hV]; exact Bel.alloc (Bel.refl _) _
 obtain ⟨y0, y1, -, -, y4⟩ := box5 w (.int .i64 12) (.string ⟨s.toArray⟩) (.int .i64 vi) (.slice ko kn kc) (.slice jo jn jc) 65
 rw [hV] at y0 y1 y4
 have HBV := Lib.hid BV
 have HWk := Lib.hid hW
 have HVe := Lib.hid hV
 obtain ⟨C, hC⟩ : ∃ C : World → Prop, C = fun W => W.cell? ⟨wb, 0, none⟩ = some (.slice (some ⟨nb, nf, none⟩) n nc) ∧ W.cell? ⟨wb, 1, none⟩ = some (.slice fo k fc) ∧ W.cell? ⟨w.heap.size, 1, none⟩ = some (.string ⟨s.toArray⟩) ∧ Bel V W := ⟨_, rfl⟩
 have cV : C V.drew := by rw [hC]; exact ⟨BV.cell' hW.p0, BV.cell' hW.p1, y1, Below.drew (Bel.refl _)⟩
 have cO : ∀ W, C W → W.cell? ⟨wb, 0, none⟩ = some (.slice (some ⟨nb, nf, none⟩) n nc) ∧ W.cell? ⟨wb, 1, none⟩ = some (.slice fo k fc) ∧ W.cell? ⟨w.heap.size, 1, none⟩ = some (.string ⟨s.toArray⟩) ∧ Bel V W := fun W h => by rw [hC] at h; exact h
 have cK : ∀ W W', C W → Bel W W' → C W' := fun W W' h g => by
  rw [hC] at h ⊢
  exact ⟨g.cell' h.1, g.cell' h.2.1, g.cell' h.2.2.1, Bel.trans h.2.2.2 g⟩
 have H1 := Lib.hid (fun W (h : C W) => (rfun_any (some ⟨nb, nf, none⟩) fo n nc k fc F s (by omega) W ((hF.on BV).on (cO W h).2.2.2)).mono fun e w' r => show _ ∧ C w' from ⟨r.1, cK W w' h r.2⟩)
 have hX2 : fixI (fun g => decide (g.name = s)) 0 F = findI F s := rfl
 rw [hX2] at H1
 have HB := Lib.hid (rblt_any s V)
 have HH := Lib.hid (fun W => hst_rany s W)
 unfold okN at HB HH
 have HC0 := Lib.hid (fun W h => (cO W h).1)
 have HC1 := Lib.hid (fun W h => (cO W h).2.1)
 have HC2 := Lib.hid (fun W h => (cO W h).2.2.1)
 have HC3 := Lib.hid (fun W h => (cO W h).2.2.2)
 have HcV := Lib.hid cV
 have Hy0 := Lib.hid y0
 have Hy1 := Lib.hid y1
 have Hy4 := Lib.hid y4
 have HFl := Lib.hid (fun (er : Int) W (g : Bel w W) => wfail_any wb G base (some ⟨nb, nf, none⟩) fo n nc k fc K a1 a2 c1 c2 i er W (hW.bel g))
 rw [hfi] at H1
 generalize (if bltI s < 0 then 0 else bltI s) = r1 at *
 generalize decide (0 ≤ bltI s) = b1 at *
 clear hC cV cO cK hX2 hV BV hW y0 y1 y4
 by_cases hw : (hstI s) < 0
 ·have ha : argE (jn : Int) (hstI s) = 4 := by unfold argE; rw [if_pos hw]
  rw [ha, if_neg (by decide)]
  rw [if_pos hw] at HH
  rw [decide_eq_false (show ¬ 0 ≤ hstI s by omega)] at HH
  clear ha hw
  go_enter Tryz.func159, Tryz.ntmps159
  go_wp2_with fail
  rw [HVe.out]
  refine HB.out.mono ?_
  rintro e w2 ⟨rfl, rfl⟩
  have q1 := Hy1.out
  go_wp2_with fail
  refine region_held (C := C) (by kernel_rfl) (by kernel_rfl) HcV.out ?_
  repeat (refine wpQuiet_step (fun K hK => ?_); go_simp; first | (refine hK _ ?_; clear hK K) | (apply Exists.intro; refine ⟨fun V hV => ?_, hK _ ?_⟩; (· (first | with_reducible rfl | with_reducible exact H1.out V hV | (have z0 := HC0.out V hV; have z1 := HC1.out V hV; have z2 := HC2.out V hV; go_simp; first | with_reducible rfl | with_reducible exact ⟨rfl, rfl⟩))); clear hK K))
  refine wpQuiet_nil ?_
  intro w9 hw9
  have B9 := Lib.hid (HC3.out w9 hw9)
  have q0 := B9.out.cell' Hy0.out
  have q2 := B9.out.cell' Hy1.out
  have q4 := B9.out.cell' Hy4.out
  have z1 := HC1.out w9 hw9
  have G9 := Lib.hid (Bel.trans HBV.out B9.out)
  clear hw9
  go_wp2_with fail
  refine (HH.out _).mono ?_
  rintro e w10 ⟨rfl, rfl⟩
  go_wp2_with fail
  refine (HFl.out 4 _ G9.out).mono ?_
  rintro e w11 ⟨rfl, k1, k2⟩
  go_wp2_with fail
  go_end0
  exact ⟨rfl, k1, (Mod.of_bel G9.out).trans k2 (fun _ h => Or.inl h)⟩
 rw [if_neg hw] at HH
 rw [decide_eq_true (show 0 ≤ hstI s by omega)] at HH
 generalize hstI s = wv at *
 by_cases hl : (jn : Int) = wv
 ·have ha : argE (jn : Int) wv = 0 := by unfold argE; rw [if_neg hw, if_pos hl]
  rw [ha, if_pos rfl]
  subst hl
  clear ha hw
  go_enter Tryz.func159, Tryz.ntmps159
  go_wp2_with fail
  rw [HVe.out]
  refine HB.out.mono ?_
  rintro e w2 ⟨rfl, rfl⟩
  have q1 := Hy1.out
  go_wp2_with fail
  refine region_held (C := C) (by kernel_rfl) (by kernel_rfl) HcV.out ?_
  repeat (refine wpQuiet_step (fun K hK => ?_); go_simp; first | (refine hK _ ?_; clear hK K) | (apply Exists.intro; refine ⟨fun V hV => ?_, hK _ ?_⟩; (· (first | with_reducible rfl | with_reducible exact H1.out V hV | (have z0 := HC0.out V hV; have z1 := HC1.out V hV; have z2 := HC2.out V hV; go_simp; first | with_reducible rfl | with_reducible exact ⟨rfl, rfl⟩))); clear hK K))
  refine wpQuiet_nil ?_
  intro w9 hw9
  have B9 := Lib.hid (HC3.out w9 hw9)
  have q0 := B9.out.cell' Hy0.out
  have q2 := B9.out.cell' Hy1.out
  have q4 := B9.out.cell' Hy4.out
  have z1 := HC1.out w9 hw9
  have G9 := Lib.hid (Bel.trans HBV.out B9.out)
  clear hw9
  go_wp2_with fail
  refine (HH.out _).mono ?_
  rintro e w10 ⟨rfl, rfl⟩
  go_wp2_with fail
  go_end0
  exact ⟨rfl, HWk.out.bel G9.out, Mod.of_bel G9.out⟩
 ·have ha : argE (jn : Int) wv = 7 := by unfold argE; rw [if_neg hw, if_neg hl]
  rw [ha, if_neg (by decide)]
  have hb1 : ((jn : Int) == wv) = false := by simpa using hl
  have hb2 : ((jn : Int) != wv) = true := by simpa using hl
  clear ha hw hl
  go_enter Tryz.func159, Tryz.ntmps159
  go_wp2_with fail
  rw [HVe.out]
  refine HB.out.mono ?_
  rintro e w2 ⟨rfl, rfl⟩
  have q1 := Hy1.out
  go_wp2_with fail
  refine region_held (C := C) (by kernel_rfl) (by kernel_rfl) HcV.out ?_
  repeat (refine wpQuiet_step (fun K hK => ?_); go_simp; first | (refine hK _ ?_; clear hK K) | (apply Exists.intro; refine ⟨fun V hV => ?_, hK _ ?_⟩; (· (first | with_reducible rfl | with_reducible exact H1.out V hV | (have z0 := HC0.out V hV; have z1 := HC1.out V hV; have z2 := HC2.out V hV; go_simp; first | with_reducible rfl | with_reducible exact ⟨rfl, rfl⟩))); clear hK K))
  refine wpQuiet_nil ?_
  intro w9 hw9
  have B9 := Lib.hid (HC3.out w9 hw9)
  have q0 := B9.out.cell' Hy0.out
  have q2 := B9.out.cell' Hy1.out
  have q4 := B9.out.cell' Hy4.out
  have z1 := HC1.out w9 hw9
  have G9 := Lib.hid (Bel.trans HBV.out B9.out)
  clear hw9
  go_wp2_with fail
  refine (HH.out _).mono ?_
  rintro e w10 ⟨rfl, rfl⟩
  go_wp2_with fail
  refine (HFl.out 7 _ G9.out).mono ?_
  rintro e w11 ⟨rfl, k1, k2⟩
  go_wp2_with fail
  go_end0
  exact ⟨rfl, k1, (Mod.of_bel G9.out).trans k2 (fun _ h => Or.inl h)⟩
set_option maxRecDepth 100000 in
set_option maxHeartbeats 4000000 in
theorem wcall_cf (wb G base : Nat) (nb nf : Nat) (fo : Option Addr) (n nc k fc : Nat) (F : List Fw) (K : Wk) (a1 a2 : Option Addr) (c1 c2 : Nat) (i : Nat) (s : Txt) (vi : Int) (ko jo : Option Addr) (kn kc jn jc : Nat) (hin : i < n) (hk : k ≤ 1000) (_hjn : jn ≤ 100000) (w : World) (hW : WkAt w wb G base (some ⟨nb, nf, none⟩) fo n nc k fc K a1 c1 a2 c2) (hF : FArg w fo k F)
  (g1 : w.cell? ⟨nb, nf + i * 5 + 1, none⟩ = some (.string ⟨s.toArray⟩)) (g2 : w.cell? ⟨nb, nf + i * 5 + 2, none⟩ = some (.int .i64 vi)) (g3 : w.cell? ⟨nb, nf + i * 5 + 3, none⟩ = some (.slice ko kn kc)) (g4 : w.cell? ⟨nb, nf + i * 5 + 4, none⟩ = some (.slice jo jn jc)) (g0 : w.cell? ⟨nb, nf + i * 5, none⟩ = some (.int .i64 11)) (q : Nat) (hq : q < k) (hfi : findI F s = (q : Int)) (pn : Nat) (hfn : ∃ fb ff po pk pc, fo = some ⟨fb, ff, none⟩ ∧ pk = pn ∧ w.cell? ⟨fb, ff + q * 3 + 1, none⟩ = some (.slice po pk pc)) :
  Calls Tryz.prog 159 #[.pointer (some ⟨wb, 0, none⟩), .int .i64 (i : Int)] w fun e w' => e = .returned (.tuple #[]) ∧ WkAt w' wb G base (some ⟨nb, nf, none⟩) fo n nc k fc (if argE jn (pn : Int) = 0 then K else K.fail i (argE jn (pn : Int))) a1 c1 a2 c2 ∧ Mod (fun b => b = wb) w w' := by
 have hin1 : (i : Int) < (n : Int) := by omega
 have hin0 : (0 : Int) ≤ (i : Int) := by omega
 have p0 := hW.p0
 obtain ⟨V, hV⟩ : ∃ V, w.alloc (.cells #[.int .i64 11, .string ⟨s.toArray⟩, .int .i64 vi, .slice ko kn kc, .slice jo jn jc] 65) = V := ⟨_, rfl⟩
 have BV : Bel w V := by rw [← hV]; exact Bel.alloc (Bel.refl _) _
 obtain ⟨y0, y1, -, -, y4⟩ := box5 w (.int .i64 11) (.string ⟨s.toArray⟩) (.int .i64 vi) (.slice ko kn kc) (.slice jo jn jc) 65
 rw [hV] at y0 y1 y4
 have HBV := Lib.hid BV
 have HWk := Lib.hid hW
 have HVe := Lib.hid hV
 obtain ⟨C, hC⟩ : ∃ C : World → Prop, C = fun W => W.cell? ⟨wb, 0, none⟩ = some (.slice (some ⟨nb, nf, none⟩) n nc) ∧ W.cell? ⟨wb, 1, none⟩ = some (.slice fo k fc) ∧ W.cell? ⟨w.heap.size, 1, none⟩ = some (.string ⟨s.toArray⟩) ∧ Bel V W := ⟨_, rfl⟩
 have cV : C V.drew := by rw [hC]; exact ⟨BV.cell' hW.p0, BV.cell' hW.p1, y1, Below.drew (Bel.refl _)⟩
 have cO : ∀ W, C W → W.cell? ⟨wb, 0, none⟩ = some (.slice (some ⟨nb, nf, none⟩) n nc) ∧ W.cell? ⟨wb, 1, none⟩ = some (.slice fo k fc) ∧ W.cell? ⟨w.heap.size, 1, none⟩ = some (.string ⟨s.toArray⟩) ∧ Bel V W := fun W h => by rw [hC] at h; exact h
 have cK : ∀ W W', C W → Bel W W' → C W' := fun W W' h g => by
  rw [hC] at h ⊢
  exact ⟨g.cell' h.1, g.cell' h.2.1, g.cell' h.2.2.1, Bel.trans h.2.2.2 g⟩
 have H1 := Lib.hid (fun W (h : C W) => (rfun_any (some ⟨nb, nf, none⟩) fo n nc k fc F s (by omega) W ((hF.on BV).on (cO W h).2.2.2)).mono fun e w' r => show _ ∧ C w' from ⟨r.1, cK W w' h r.2⟩)
 have hX2 : fixI (fun g => decide (g.name = s)) 0 F = findI F s := rfl
 rw [hX2] at H1
 have HB := Lib.hid (rblt_any s V)
 have HH := Lib.hid (fun W => hst_rany s W)
 unfold okN at HB HH
 have HC0 := Lib.hid (fun W h => (cO W h).1)
 have HC1 := Lib.hid (fun W h => (cO W h).2.1)
 have HC2 := Lib.hid (fun W h => (cO W h).2.2.1)
 have HC3 := Lib.hid (fun W h => (cO W h).2.2.2)
 have HcV := Lib.hid cV
 have Hy0 := Lib.hid y0
 have Hy1 := Lib.hid y1
 have Hy4 := Lib.hid y4
 have HFl := Lib.hid (fun (er : Int) W (g : Bel w W) => wfail_any wb G base (some ⟨nb, nf, none⟩) fo n nc k fc K a1 a2 c1 c2 i er W (hW.bel g))
 rw [hfi] at H1
 obtain ⟨fb, ff, po, pk, pc, hfo, hpl, hfc⟩ := hfn
 subst hfo
 have Hfc := Lib.hid (show ∀ W, Bel w W → W.cell? ⟨fb, ff + q * 3 + 1, none⟩ = some (.slice po pk pc) from fun W g => g.cell' hfc)
 have hq1 : (q : Int) < (k : Int) := by omega
 have hq0 : (0 : Int) ≤ (q : Int) := by omega
 generalize (if bltI s < 0 then 0 else bltI s) = r1 at *
 generalize decide (0 ≤ bltI s) = b1 at *
 clear hC cV cO cK hX2 hV BV hW y0 y1 y4
 have hw : ¬ (pn : Int) < 0 := by omega
 subst hpl
 by_cases hl : (jn : Int) = (pk : Int)
 ·have ha : argE (jn : Int) (pk : Int) = 0 := by unfold argE; rw [if_neg hw, if_pos hl]
  rw [ha, if_pos rfl]
  have hl2 : jn = pk := by omega
  subst hl2
  clear ha hw
  go_enter Tryz.func159, Tryz.ntmps159
  go_wp2_with fail
  rw [HVe.out]
  refine HB.out.mono ?_
  rintro e w2 ⟨rfl, rfl⟩
  have q1 := Hy1.out
  go_wp2_with fail
  refine region_held (C := C) (by kernel_rfl) (by kernel_rfl) HcV.out ?_
  repeat (refine wpQuiet_step (fun K hK => ?_); go_simp; first | (refine hK _ ?_; clear hK K) | (apply Exists.intro; refine ⟨fun V hV => ?_, hK _ ?_⟩; (· (first | with_reducible rfl | with_reducible exact H1.out V hV | (have z0 := HC0.out V hV; have z1 := HC1.out V hV; have z2 := HC2.out V hV; go_simp; first | with_reducible rfl | with_reducible exact ⟨rfl, rfl⟩))); clear hK K))
  refine wpQuiet_nil ?_
  intro w9 hw9
  have B9 := Lib.hid (HC3.out w9 hw9)
  have q0 := B9.out.cell' Hy0.out
  have q2 := B9.out.cell' Hy1.out
  have q4 := B9.out.cell' Hy4.out
  have z1 := HC1.out w9 hw9
  have G9 := Lib.hid (Bel.trans HBV.out B9.out)
  have d1 := Hfc.out w9 G9.out
  clear hw9
  go_wp2_with fail
  go_end0
  exact ⟨rfl, HWk.out.bel G9.out, Mod.of_bel G9.out⟩
 ·have ha : argE (jn : Int) (pk : Int) = 7 := by unfold argE; rw [if_neg hw, if_neg hl]
  rw [ha, if_neg (by decide)]
  have hb1 : ((jn : Int) == (pk : Int)) = false := by simpa using hl
  have hb2 : ((jn : Int) != (pk : Int)) = true := by simpa using hl
  clear ha hw hl
  go_enter Tryz.func159, Tryz.ntmps159
  go_wp2_with fail
  rw [HVe.out]
  refine HB.out.mono ?_
  rintro e w2 ⟨rfl, rfl⟩
  have q1 := Hy1.out
  go_wp2_with fail
  refine region_held (C := C) (by kernel_rfl) (by kernel_rfl) HcV.out ?_
  repeat (refine wpQuiet_step (fun K hK => ?_); go_simp; first | (refine hK _ ?_; clear hK K) | (apply Exists.intro; refine ⟨fun V hV => ?_, hK _ ?_⟩; (· (first | with_reducible rfl | with_reducible exact H1.out V hV | (have z0 := HC0.out V hV; have z1 := HC1.out V hV; have z2 := HC2.out V hV; go_simp; first | with_reducible rfl | with_reducible exact ⟨rfl, rfl⟩))); clear hK K))
  refine wpQuiet_nil ?_
  intro w9 hw9
  have B9 := Lib.hid (HC3.out w9 hw9)
  have q0 := B9.out.cell' Hy0.out
  have q2 := B9.out.cell' Hy1.out
  have q4 := B9.out.cell' Hy4.out
  have z1 := HC1.out w9 hw9
  have G9 := Lib.hid (Bel.trans HBV.out B9.out)
  have d1 := Hfc.out w9 G9.out
  clear hw9
  go_wp2_with fail
  refine (HFl.out 7 _ G9.out).mono ?_
  rintro e w11 ⟨rfl, k1, k2⟩
  go_wp2_with fail
  go_end0
  exact ⟨rfl, k1, (Mod.of_bel G9.out).trans k2 (fun _ h => Or.inl h)⟩
set_option maxRecDepth 100000 in
set_option maxHeartbeats 4000000 in
theorem wcall_cn (wb G base : Nat) (nb nf : Nat) (fo : Option Addr) (n nc k fc : Nat) (F : List Fw) (K : Wk) (a1 a2 : Option Addr) (c1 c2 : Nat) (i : Nat) (s : Txt) (vi : Int) (ko jo : Option Addr) (kn kc jn jc : Nat) (hin : i < n) (hk : k ≤ 1000) (_hjn : jn ≤ 100000) (w : World) (hW : WkAt w wb G base (some ⟨nb, nf, none⟩) fo n nc k fc K a1 c1 a2 c2) (hF : FArg w fo k F)
  (g1 : w.cell? ⟨nb, nf + i * 5 + 1, none⟩ = some (.string ⟨s.toArray⟩)) (g2 : w.cell? ⟨nb, nf + i * 5 + 2, none⟩ = some (.int .i64 vi)) (g3 : w.cell? ⟨nb, nf + i * 5 + 3, none⟩ = some (.slice ko kn kc)) (g4 : w.cell? ⟨nb, nf + i * 5 + 4, none⟩ = some (.slice jo jn jc)) (g0 : w.cell? ⟨nb, nf + i * 5, none⟩ = some (.int .i64 11)) (hfi : findI F s = -1) :
  Calls Tryz.prog 159 #[.pointer (some ⟨wb, 0, none⟩), .int .i64 (i : Int)] w fun e w' => e = .returned (.tuple #[]) ∧ WkAt w' wb G base (some ⟨nb, nf, none⟩) fo n nc k fc (if argE jn (bltI s) = 0 then K else K.fail i (argE jn (bltI s))) a1 c1 a2 c2 ∧ Mod (fun b => b = wb) w w' := by
 have hin1 : (i : Int) < (n : Int) := by omega
 have hin0 : (0 : Int) ≤ (i : Int) := by omega
 have p0 := hW.p0
 obtain ⟨V, hV⟩ : ∃ V, w.alloc (.cells #[.int .i64 11, .string ⟨s.toArray⟩, .int .i64 vi, .slice ko kn kc, .slice jo jn jc] 65) = V := ⟨_, rfl⟩
 have BV : Bel w V := by rw [← hV]; exact Bel.alloc (Bel.refl _) _
 obtain ⟨y0, y1, -, -, y4⟩ := box5 w (.int .i64 11) (.string ⟨s.toArray⟩) (.int .i64 vi) (.slice ko kn kc) (.slice jo jn jc) 65
 rw [hV] at y0 y1 y4
 have HBV := Lib.hid BV
 have HWk := Lib.hid hW
 have HVe := Lib.hid hV
 obtain ⟨C, hC⟩ : ∃ C : World → Prop, C = fun W => W.cell? ⟨wb, 0, none⟩ = some (.slice (some ⟨nb, nf, none⟩) n nc) ∧ W.cell? ⟨wb, 1, none⟩ = some (.slice fo k fc) ∧ W.cell? ⟨w.heap.size, 1, none⟩ = some (.string ⟨s.toArray⟩) ∧ Bel V W := ⟨_, rfl⟩
 have cV : C V.drew := by rw [hC]; exact ⟨BV.cell' hW.p0, BV.cell' hW.p1, y1, Below.drew (Bel.refl _)⟩
 have cO : ∀ W, C W → W.cell? ⟨wb, 0, none⟩ = some (.slice (some ⟨nb, nf, none⟩) n nc) ∧ W.cell? ⟨wb, 1, none⟩ = some (.slice fo k fc) ∧ W.cell? ⟨w.heap.size, 1, none⟩ = some (.string ⟨s.toArray⟩) ∧ Bel V W := fun W h => by rw [hC] at h; exact h
 have cK : ∀ W W', C W → Bel W W' → C W' := fun W W' h g => by
  rw [hC] at h ⊢
  exact ⟨g.cell' h.1, g.cell' h.2.1, g.cell' h.2.2.1, Bel.trans h.2.2.2 g⟩
 have H1 := Lib.hid (fun W (h : C W) => (rfun_any (some ⟨nb, nf, none⟩) fo n nc k fc F s (by omega) W ((hF.on BV).on (cO W h).2.2.2)).mono fun e w' r => show _ ∧ C w' from ⟨r.1, cK W w' h r.2⟩)
 have hX2 : fixI (fun g => decide (g.name = s)) 0 F = findI F s := rfl
 rw [hX2] at H1
 have HB := Lib.hid (rblt_any s V)
 have HH := Lib.hid (fun W => hst_rany s W)
 unfold okN at HB HH
 have HC0 := Lib.hid (fun W h => (cO W h).1)
 have HC1 := Lib.hid (fun W h => (cO W h).2.1)
 have HC2 := Lib.hid (fun W h => (cO W h).2.2.1)
 have HC3 := Lib.hid (fun W h => (cO W h).2.2.2)
 have HcV := Lib.hid cV
 have Hy0 := Lib.hid y0
 have Hy1 := Lib.hid y1
 have Hy4 := Lib.hid y4
 have HFl := Lib.hid (fun (er : Int) W (g : Bel w W) => wfail_any wb G base (some ⟨nb, nf, none⟩) fo n nc k fc K a1 a2 c1 c2 i er W (hW.bel g))
 rw [hfi] at H1
 clear hC cV cO cK hX2 hV BV hW y0 y1 y4
 by_cases hw : (bltI s) < 0
 ·have ha : argE (jn : Int) (bltI s) = 4 := by unfold argE; rw [if_pos hw]
  rw [ha, if_neg (by decide)]
  rw [if_pos hw] at HB
  rw [decide_eq_false (show ¬ 0 ≤ bltI s by omega)] at HB
  clear ha hw
  go_enter Tryz.func159, Tryz.ntmps159
  go_wp2_with fail
  rw [HVe.out]
  refine HB.out.mono ?_
  rintro e w2 ⟨rfl, rfl⟩
  have q1 := Hy1.out
  go_wp2_with fail
  refine region_held (C := C) (by kernel_rfl) (by kernel_rfl) HcV.out ?_
  repeat (refine wpQuiet_step (fun K hK => ?_); go_simp; first | (refine hK _ ?_; clear hK K) | (apply Exists.intro; refine ⟨fun V hV => ?_, hK _ ?_⟩; (· (first | with_reducible rfl | with_reducible exact H1.out V hV | (have z0 := HC0.out V hV; have z1 := HC1.out V hV; have z2 := HC2.out V hV; go_simp; first | with_reducible rfl | with_reducible exact ⟨rfl, rfl⟩))); clear hK K))
  refine wpQuiet_nil ?_
  intro w9 hw9
  have B9 := Lib.hid (HC3.out w9 hw9)
  have q0 := B9.out.cell' Hy0.out
  have q2 := B9.out.cell' Hy1.out
  have q4 := B9.out.cell' Hy4.out
  have z1 := HC1.out w9 hw9
  have G9 := Lib.hid (Bel.trans HBV.out B9.out)
  clear hw9
  go_wp2_with fail
  refine (HFl.out 4 _ G9.out).mono ?_
  rintro e w11 ⟨rfl, k1, k2⟩
  go_wp2_with fail
  go_end0
  exact ⟨rfl, k1, (Mod.of_bel G9.out).trans k2 (fun _ h => Or.inl h)⟩
 rw [if_neg hw] at HB
 rw [decide_eq_true (show 0 ≤ bltI s by omega)] at HB
 generalize bltI s = wv at *
 by_cases hl : (jn : Int) = wv
 ·have ha : argE (jn : Int) wv = 0 := by unfold argE; rw [if_neg hw, if_pos hl]
  rw [ha, if_pos rfl]
  subst hl
  clear ha hw
  go_enter Tryz.func159, Tryz.ntmps159
  go_wp2_with fail
  rw [HVe.out]
  refine HB.out.mono ?_
  rintro e w2 ⟨rfl, rfl⟩
  have q1 := Hy1.out
  go_wp2_with fail
  refine region_held (C := C) (by kernel_rfl) (by kernel_rfl) HcV.out ?_
  repeat (refine wpQuiet_step (fun K hK => ?_); go_simp; first | (refine hK _ ?_; clear hK K) | (apply Exists.intro; refine ⟨fun V hV => ?_, hK _ ?_⟩; (· (first | with_reducible rfl | with_reducible exact H1.out V hV | (have z0 := HC0.out V hV; have z1 := HC1.out V hV; have z2 := HC2.out V hV; go_simp; first | with_reducible rfl | with_reducible exact ⟨rfl, rfl⟩))); clear hK K))
  refine wpQuiet_nil ?_
  intro w9 hw9
  have B9 := Lib.hid (HC3.out w9 hw9)
  have q0 := B9.out.cell' Hy0.out
  have q2 := B9.out.cell' Hy1.out
  have q4 := B9.out.cell' Hy4.out
  have z1 := HC1.out w9 hw9
  have G9 := Lib.hid (Bel.trans HBV.out B9.out)
  clear hw9
  go_wp2_with fail
  go_end0
  exact ⟨rfl, HWk.out.bel G9.out, Mod.of_bel G9.out⟩
 ·have ha : argE (jn : Int) wv = 7 := by unfold argE; rw [if_neg hw, if_neg hl]
  rw [ha, if_neg (by decide)]
  have hb1 : ((jn : Int) == wv) = false := by simpa using hl
  have hb2 : ((jn : Int) != wv) = true := by simpa using hl
  clear ha hw hl
  go_enter Tryz.func159, Tryz.ntmps159
  go_wp2_with fail
  rw [HVe.out]
  refine HB.out.mono ?_
  rintro e w2 ⟨rfl, rfl⟩
  have q1 := Hy1.out
  go_wp2_with fail
  refine region_held (C := C) (by kernel_rfl) (by kernel_rfl) HcV.out ?_
  repeat (refine wpQuiet_step (fun K hK => ?_); go_simp; first | (refine hK _ ?_; clear hK K) | (apply Exists.intro; refine ⟨fun V hV => ?_, hK _ ?_⟩; (· (first | with_reducible rfl | with_reducible exact H1.out V hV | (have z0 := HC0.out V hV; have z1 := HC1.out V hV; have z2 := HC2.out V hV; go_simp; first | with_reducible rfl | with_reducible exact ⟨rfl, rfl⟩))); clear hK K))
  refine wpQuiet_nil ?_
  intro w9 hw9
  have B9 := Lib.hid (HC3.out w9 hw9)
  have q0 := B9.out.cell' Hy0.out
  have q2 := B9.out.cell' Hy1.out
  have q4 := B9.out.cell' Hy4.out
  have z1 := HC1.out w9 hw9
  have G9 := Lib.hid (Bel.trans HBV.out B9.out)
  clear hw9
  go_wp2_with fail
  refine (HFl.out 7 _ G9.out).mono ?_
  rintro e w11 ⟨rfl, k1, k2⟩
  go_wp2_with fail
  go_end0
  exact ⟨rfl, k1, (Mod.of_bel G9.out).trans k2 (fun _ h => Or.inl h)⟩
end Syn
end Go.Proofs.YtcapkeaedpabjaaGreatDoor
