/-
  order: the table of scores and the closure over it; Score; Rendezvous and the reference's.
-/
import Derived.Test.YtkdahjaflgebiaaDoorHshP
namespace Go.Proofs.YtkdahjaflgebiaaDoor
open Go.RowKit
namespace Hsh

/-- The score of node i. -/
def sco (xs : List ByteArray) (key : ByteArray) : Nat → Nat := fun i => if h : i < xs.length then fnv (ctext [xs[i], key]) else 0
theorem sco_at {xs : List ByteArray} {key : ByteArray} {i : Nat} (h : i < xs.length) : sco xs key i = fnv (ctext [xs[i], key]) := by unfold sco; rw [dif_pos h]
/-- A table of scores. -/
def Tab (B : Nat) (f : Nat → Nat) (w : World) : Prop := ∀ j, j < 64 → w.cell? ⟨B, j, none⟩ = some (.int .u64 (f j : Int)) ∧ w.frozen? ⟨B, j, none⟩ = false
theorem Tab.on {B : Nat} {f : Nat → Nat} {w w' : World} (h : Tab B f w) (b : Bel w w') : Tab B f w' := fun j hj =>
  ⟨b.cell (h j hj).1, (Below.frozen (p := ⟨B, j, none⟩) b (cell_lt (h j hj).1)).trans (h j hj).2⟩
theorem Tab.step {B k v : Nat} {f : Nat → Nat} {w : World} (h : Tab B f w) (hk : k < 64) : Tab B (fun j => if j = k then v else f j) (w.setCell ⟨B, k, none⟩ (.int .u64 (v : Int))) := fun j hj => by
  refine ⟨?_, by rw [World.frozen?_setCell]; exact (h j hj).2⟩
  show _ = some (Value.int .u64 ((if j = k then v else f j : Nat) : Int))
  by_cases e : j = k
  · subst e
    rw [if_pos rfl]
    exact World.cell?_setCell_same _ _ _ (h j hj).1
  · rw [if_neg e, World.cell?_setCell_other _ _ _ _ (fun h => e (Addr.mk.inj h).2.1.symm)]
    exact (h j hj).1
theorem Tab.congr {B : Nat} {f g : Nat → Nat} {w : World} (h : Tab B f w) (e : ∀ j, j < 64 → f j = g j) : Tab B g w := fun j hj => by rw [← e j hj]; exact h j hj
def zeros64 : Array Value := #[Value.int .u64 0, Value.int .u64 0, Value.int .u64 0, Value.int .u64 0, Value.int .u64 0, Value.int .u64 0, Value.int .u64 0, Value.int .u64 0, Value.int .u64 0, Value.int .u64 0, Value.int .u64 0, Value.int .u64 0, Value.int .u64 0, Value.int .u64 0, Value.int .u64 0, Value.int .u64 0, Value.int .u64 0, Value.int .u64 0, Value.int .u64 0, Value.int .u64 0, Value.int .u64 0, Value.int .u64 0, Value.int .u64 0, Value.int .u64 0, Value.int .u64 0, Value.int .u64 0, Value.int .u64 0, Value.int .u64 0, Value.int .u64 0, Value.int .u64 0, Value.int .u64 0, Value.int .u64 0, Value.int .u64 0, Value.int .u64 0, Value.int .u64 0, Value.int .u64 0, Value.int .u64 0, Value.int .u64 0, Value.int .u64 0, Value.int .u64 0, Value.int .u64 0, Value.int .u64 0, Value.int .u64 0, Value.int .u64 0, Value.int .u64 0, Value.int .u64 0, Value.int .u64 0, Value.int .u64 0, Value.int .u64 0, Value.int .u64 0, Value.int .u64 0, Value.int .u64 0, Value.int .u64 0, Value.int .u64 0, Value.int .u64 0, Value.int .u64 0, Value.int .u64 0, Value.int .u64 0, Value.int .u64 0, Value.int .u64 0, Value.int .u64 0, Value.int .u64 0, Value.int .u64 0, Value.int .u64 0]
theorem zeros64_at (i : Nat) (h : i < 64) : zeros64[i]? = some (.int .u64 0) := by
  have e : zeros64 = Array.replicate 64 (.int .u64 0) := rfl
  rw [e, Array.getElem?_replicate, if_pos h]
theorem tab0 (w : World) (t : TypeId) : Tab w.heap.size (fun _ => 0) (w.alloc (.cells zeros64 t)) := fun j hj => ⟨by rw [World.cell?_alloc_new]; exact zeros64_at j hj, World.frozen?_alloc_new _ _ _ _⟩
theorem alloc_lt (w : World) (o : Obj) : w.heap.size < (w.alloc o).heap.size := by show w.heap.size < (w.heap.push o).size; simp
set_option maxHeartbeats 4000000 in
set_option maxRecDepth 100000 in
theorem order_ok (o : Option Addr) (n c : Nat) (xs : List ByteArray) (key : ByteArray) (h1 : 1 ≤ n) (hn : n ≤ 64) (hx : ∀ x ∈ xs, x.size ≤ 400) (hkey : key.size ≤ 400) (w : World) (hL : Lad w) (hA : SlArg w o n xs) :
    Calls Tryd.prog 34 #[.string key, .slice o n c] w fun e w' => (∃ B, w.heap.size ≤ B ∧ Tab B (sco xs key) w' ∧ e = .returned (.tuple #[.func (.func 48) #[] #[.pointer (some ⟨B, 0, none⟩)], .int .i64 0])) ∧ Bel w w' := by
  have hmf : ∀ (fn : Fn) (first cap : Array Value) (w : World), (Instr.makeFunc fn first cap).run Tryd.prog w = .ok (.func fn first cap) w := fun _ _ _ _ => rfl
  have HA := Lib.hid hA
  have hlen := hA.1
  have HL := Lib.hid hL
  have hT := Lib.hid (tab0 w 75)
  have hsz := Lib.hid (alloc_lt w (.cells zeros64 75))
  clear hA hL
  have e0 : ((n : Int) == 0) = false := by simp; omega
  have e1 : (64 < (n : Int)) = False := eq_false (by omega)
  go_enter Tryd.func34, Tryd.ntmps34
  go_wp2
  go_loopw [18] (fun i wr => ∃ k : Nat, k ≤ n ∧ i = .int .i64 (k : Int) ∧ Hid (Bel w wr) ∧ Hid (w.heap.size < wr.heap.size) ∧ Hid (Tab w.heap.size (fun j => if j < k then sco xs key j else 0) wr)) (fun i _ => n - (intOf i).toNat)
  case atStart => exact ⟨0, Nat.zero_le _, rfl, Lib.hid ((Bel.refl w).alloc _), hsz, Lib.hid (hT.out.congr fun j _ => by rw [if_neg (by omega)])⟩
  case round =>
    obtain ⟨k, hk, rfl, hb, hz, ht⟩ := hrel
    rename World => W0
    clear hT hsz
    by_cases hlt : k < n
    · have hkx : k < xs.length := by omega
      obtain ⟨p, rfl, hc⟩ := (HA.out.on hb.out).2 k hkx
      have hxs := hx xs[k] (List.getElem_mem hkx)
      have hsc := Lib.hid (sco_at (key := key) hkx)
      obtain ⟨x, hxe⟩ : ∃ x, xs[k] = x := ⟨_, rfl⟩
      rw [hxe] at hc hxs hsc
      have hch := chain2 x key (by omega) hkey 9 W0 (HL.out.on hb.out)
      rw [← hsc.out] at hch
      obtain ⟨v, hv⟩ : ∃ v, sco xs key k = v := ⟨_, rfl⟩
      rw [hv] at hch
      have Hch := Lib.hid hch
      have Hv := Lib.hid hv
      clear hxe hsc hch hv
      go_wp2_with fail
      refine Hch.out.mono ?_
      rintro e w1 ⟨rfl, g1⟩
      have t1 := ht.out.on g1
      have hcell := (t1 k (by omega)).1
      have hfr := (t1 k (by omega)).2
      have k64 : (k : Int) < 64 := by omega
      have ht' := Lib.hid ((t1.step (v := v) (show k < 64 by omega)).congr (g := fun j => if j < k + 1 then sco xs key j else 0) fun j hj => by
        by_cases e : j = k
        · subst e
          rw [if_pos rfl, if_pos (by omega), Hv.out]
        · rw [if_neg e]
          by_cases e2 : j < k
          · rw [if_pos e2, if_pos (by omega)]
          · rw [if_neg e2, if_neg (by omega)])
      have hb' := Lib.hid ((Bel.trans hb.out g1).setCell (p := ⟨w.heap.size, k, none⟩) (Nat.le_refl _) (.int .u64 (v : Int)))
      have hz' : Hid (w.heap.size < (w1.setCell ⟨w.heap.size, k, none⟩ (.int .u64 (v : Int))).heap.size) := Lib.hid (Nat.lt_of_lt_of_le hz.out (Nat.le_trans g1.size ((Bel.refl w1 |> fun h => (Below.setCell (B := 0) (Below.refl 0 w1) (p := ⟨w.heap.size, k, none⟩) (Nat.zero_le _) (.int .u64 (v : Int))).size))))
      clear t1 g1
      go_wp2_with fail
      go_round
      case rel => exact ⟨k + 1, by omega, by go_num, hb', hz', ht'⟩
      case measure => simp [intOf]; omega
    · obtain rfl : k = n := by omega
      have ht' := Lib.hid (ht.out.congr (g := sco xs key) fun j hj => by
        by_cases e : j < k
        · rw [if_pos e]
        · rw [if_neg e]; unfold sco; rw [dif_neg (by omega)])
      clear ht
      go_wp2
      go_ret2
      exact ⟨⟨w.heap.size, Nat.le_refl _, ht'.out, rfl⟩, hb.out⟩
theorem order_none (key : ByteArray) (o : Option Addr) (c : Nat) (w : World) : Calls Tryd.prog 34 #[.string key, .slice o 0 c] w fun e w' => e = .returned (.tuple #[.nilFunc, .int .i64 5]) ∧ w' = w := by
  go_enter Tryd.func34, Tryd.ntmps34
  go_wp2
  go_ret2
  exact ⟨rfl, rfl⟩
theorem order_many (key : ByteArray) (o : Option Addr) (n c : Nat) (h : 64 < n) (hn : n ≤ 4611686018427387904) (w : World) : Calls Tryd.prog 34 #[.string key, .slice o n c] w fun e w' => e = .returned (.tuple #[.nilFunc, .int .i64 3]) ∧ w' = w := by
  have e0 : ((n : Int) == 0) = false := by simp; omega
  go_enter Tryd.func34, Tryd.ntmps34
  go_wp2
  go_ret2
  exact ⟨rfl, rfl⟩
theorem score_core (x key : ByteArray) (v : Nat) (w : World) (hc : Hid (∀ t, Calls Tryd.prog 16 #[.slice (some ⟨w.heap.size, 0, none⟩) 2 2] (w.alloc (.cells #[.string x, .string key] t)) fun e w' => e = .returned (.int .u64 (v : Int)) ∧ Bel w w')) :
    Calls Tryd.prog 35 #[.string x, .string key] w fun e w' => e = .returned (.int .u64 (v : Int)) ∧ Bel w w' := by
  go_enter Tryd.func35, Tryd.ntmps35
  go_wp2_with fail
  refine (hc.out _).mono ?_
  rintro e w1 ⟨rfl, g1⟩
  go_wp2_with fail
  go_ret
  exact ⟨rfl, g1⟩
theorem score_any (x key : ByteArray) (hx : x.size ≤ 400) (hk : key.size ≤ 400) (w : World) (hL : Lad w) :
    Calls Tryd.prog 35 #[.string x, .string key] w fun e w' => e = .returned (.int .u64 (fnv (ctext [x, key]) : Int)) ∧ Bel w w' :=
  score_core x key _ w (Lib.hid fun t => (rchain_any _ 2 2 [x, key] (by omega) (all2 hx hk) _ (Lad.alloc hL _) (lit2 w x key t)).mono fun _ _ ⟨he, g⟩ => ⟨he, bel_after g⟩)
/-- Score, at any world in the middle of a region. -/
theorem scoreS (x key : ByteArray) (v : Nat) (hv : Hid (∀ W : World, Lad W → Calls Tryd.prog 35 #[.string x, .string key] W fun e w' => e = .returned (.int .u64 (v : Int)) ∧ Bel W w')) (w W : World) (hL : Hid (Lad w)) (p q : Addr) (a b : ByteArray) (h1 : W.cell? p = some (.string a)) (h2 : W.cell? q = some (.string b)) (g : Bel w W) :
    Calls Tryd.prog 35 #[.string x, .string key] W fun e w' => e = .returned (.int .u64 (v : Int)) ∧ w'.cell? p = some (.string a) ∧ w'.cell? q = some (.string b) ∧ Bel w w' :=
  (hv.out W (hL.out.on g)).mono fun _ _ ⟨he, k⟩ => ⟨he, k.cell' h1, k.cell' h2, Bel.trans g k⟩
/-- What Rendezvous answers. -/
def rvE (n : Nat) : Int := if n = 0 then 5 else if 64 < n then 3 else 0
def rvV (sc : Nat → Nat) (n : Nat) : Nat := if n = 0 then 0 else if 64 < n then 0 else bst sc n
set_option maxHeartbeats 4000000 in
theorem rv_ok (o : Option Addr) (n c : Nat) (key : ByteArray) (sc : Nat → Nat) (h1 : 1 ≤ n) (hn : n ≤ 64) (w : World)
    (ho : Hid (Calls Tryd.prog 34 #[.string key, .slice o n c] w fun e w' => (∃ B, w.heap.size ≤ B ∧ Tab B sc w' ∧ e = .returned (.tuple #[.func (.func 48) #[] #[.pointer (some ⟨B, 0, none⟩)], .int .i64 0])) ∧ Bel w w')) :
    Calls Tryd.prog 22 #[.string key, .slice o n c] w fun e w' => e = .returned (.tuple #[.int .i64 (bst sc n : Int), .int .i64 0]) ∧ Bel w w' := by
  go_enter Tryd.func22, Tryd.ntmps22
  go_wp2_with fail
  refine ho.out.mono ?_
  rintro e w1 ⟨⟨B, hB, ht, rfl⟩, g1⟩
  have HT := Lib.hid ht
  clear ht ho
  go_wp2
  go_loopw [8, 21] (fun b i wr => ∃ k : Nat, k ≤ n ∧ b = .int .i64 (bst sc k : Int) ∧ i = .int .i64 (k : Int) ∧ Hid (Bel w wr) ∧ Hid (Tab B sc wr)) (fun _ i _ => n - (intOf i).toNat)
  case atStart => exact ⟨0, Nat.zero_le _, rfl, rfl, Lib.hid g1, HT⟩
  case round =>
    obtain ⟨k, hk, rfl, rfl, hb, ht⟩ := hrel
    rename World => W0
    by_cases hlt : k < n
    · have hbk := bst_le sc k
      have hcl := closure_any B k (bst sc k) sc (by omega) (by omega) W0 (ht.out k (by omega)).1 (ht.out _ (by omega)).1
      have hst : Hid (bst sc (k + 1) = if cfN sc k (bst sc k) < 0 then k else bst sc k) := Lib.hid (by
        rw [bst]
        cases hl : lt sc k (bst sc k) with
        | true => rw [if_pos rfl, if_pos ((cfN_lt _ _ _).2 hl)]
        | false => rw [if_neg (by simp), if_neg (fun h => by rw [(cfN_lt _ _ _).1 h] at hl; cases hl)])
      obtain ⟨b, hbe⟩ : ∃ b, bst sc k = b := ⟨_, rfl⟩
      rw [hbe] at hcl hst hbk ⊢
      obtain ⟨v, hv⟩ : ∃ v, cfN sc k b = v := ⟨_, rfl⟩
      rw [hv] at hcl hst
      have HC := Lib.hid hcl
      clear hcl hv hbe
      by_cases hneg : v < 0
      · have hs2 : Hid (bst sc (k + 1) = k) := Lib.hid (by rw [hst.out, if_pos hneg])
        clear hst
        go_wp2_with fail
        refine HC.out.mono ?_
        rintro e w2 ⟨rfl, g2⟩
        have T2 := Lib.hid (ht.out.on g2.bel)
        have B2 := Lib.hid (Bel.trans hb.out g2.bel)
        go_wp2_with fail
        go_round
        case rel => exact ⟨k + 1, by omega, by rw [hs2.out], by go_num, B2, T2⟩
        case measure => simp [intOf]; omega
      · have hs2 : Hid (bst sc (k + 1) = b) := Lib.hid (by rw [hst.out, if_neg hneg])
        clear hst
        go_wp2_with fail
        refine HC.out.mono ?_
        rintro e w2 ⟨rfl, g2⟩
        have T2 := Lib.hid (ht.out.on g2.bel)
        have B2 := Lib.hid (Bel.trans hb.out g2.bel)
        go_wp2_with fail
        go_round
        case rel => exact ⟨k + 1, by omega, by rw [hs2.out], by go_num, B2, T2⟩
        case measure => simp [intOf]; omega
    · obtain rfl : k = n := by omega
      go_wp2
      go_ret2
      exact ⟨rfl, hb.out⟩
end Hsh
end Go.Proofs.YtkdahjaflgebiaaDoor
