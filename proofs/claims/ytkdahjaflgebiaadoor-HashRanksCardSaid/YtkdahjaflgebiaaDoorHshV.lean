/-
  Ranking: the indices sorted by slices.SortFunc with the closure.
-/
import Derived.Test.YtkdahjaflgebiaaDoorHshU
import Derived.Test.YtkdahjaflgebiaaDoorShelf
import Derived.Laws.MakeOwn
import Derived.Laws.OwnMore
namespace Go.Proofs.YtkdahjaflgebiaaDoor
open Go.RowKit Go.Shelf Go.Lib Go.Sort

/-- A slice of numbers, as a walk reads it. -/
def IArg (w : World) (o : Option Addr) (n : Nat) (l : List Nat) : Prop := l.length = n ∧ ∀ i (h : i < l.length), ∃ a, o = some a ∧ w.cell? (a.add i) = some (.int .i64 (l[i] : Int))
theorem IArg.on {w w' : World} {o : Option Addr} {n : Nat} {l : List Nat} (h : IArg w o n l) (b : Bel w w') : IArg w' o n l :=
  ⟨h.1, fun i hi => let ⟨a, e, c⟩ := h.2 i hi; ⟨a, e, b.cell' c⟩⟩
theorem IArg.nil (w : World) : IArg w none 0 [] := ⟨rfl, fun i h => absurd h (Nat.not_lt_zero i)⟩
namespace Hsh

def encF (i : Fin 64) : Value := .int .i64 (i.val : Int)
def cfF (sc : Nat → Nat) (x y : Fin 64) : Int := cfN sc x.val y.val
theorem ltF (sc : Nat → Nat) (x y : Fin 64) : ltOf (cfF sc) x y = lt sc x.val y.val := by
  unfold ltOf cfF
  cases h : lt sc x.val y.val with
  | true => exact decide_eq_true ((cfN_lt _ _ _).2 h)
  | false => exact decide_eq_false fun k => by rw [(cfN_lt _ _ _).1 k] at h; cases h
theorem swoF (sc : Nat → Nat) : SWO (ltOf (cfF sc)) where
  irrefl x := by rw [ltF]; exact lt_irrefl _ _
  trans x y z h1 h2 := by rw [ltF] at *; exact lt_trans h1 h2
  ntrans x y z h1 h2 := by rw [ltF] at *; exact lt_ntrans h1 h2
theorem totF (sc : Nat → Nat) (x y : Fin 64) (h1 : ltOf (cfF sc) x y = false) (h2 : ltOf (cfF sc) y x = false) : x = y := by rw [ltF] at *; exact Fin.ext (lt_anti h1 h2)
/-- The indices below n. -/
def idx (n : Nat) : Array (Fin 64) := ((List.range n).map fun i => Fin.ofNat 64 i).toArray
theorem idx_size (n : Nat) : (idx n).size = n := by simp [idx]
theorem idx_get (n j : Nat) (h : j < n) (h64 : n ≤ 64) : ((idx n)[j]!).val = j := by
  rw [getElem!_pos (idx n) j (by rw [idx_size]; exact h)]
  simp [idx]
  omega
def ranked (sc : Nat → Nat) (n : Nat) : List (Fin 64) := (idx n).toList.mergeSort fun x y => !(ltOf (cfF sc)) y x
theorem ranked_is (sc : Nat → Nat) (n : Nat) (h64 : n ≤ 64) : IsRank sc n ((ranked sc n).map Fin.val) := by
  constructor
  · have h := (List.mergeSort_perm (idx n).toList fun x y => !(ltOf (cfF sc)) y x).map Fin.val
    refine h.trans ?_
    have e : (idx n).toList.map Fin.val = List.range n := by
      unfold idx
      rw [List.toList_toArray, List.map_map]
      refine (List.map_congr_left fun i hi => ?_).trans (List.map_id _)
      have := List.mem_range.1 hi
      show (Fin.ofNat 64 i).val = i
      simp
      omega
    rw [e]
  · rw [List.pairwise_map]
    have h := List.pairwise_mergeSort (le := fun x y => !(ltOf (cfF sc)) y x) (fun a b c h1 h2 => by
      simp only [Bool.not_eq_true'] at h1 h2 ⊢
      exact (swoF sc).ntrans _ _ _ h2 h1) (fun a b => by
      simp only [Bool.or_eq_true, Bool.not_eq_true']
      cases h : ltOf (cfF sc) b a with
      | false => exact Or.inl rfl
      | true => exact Or.inr (by rw [ltF] at h ⊢; exact lt_asymm h)) (idx n).toList
    refine h.imp fun {a b} hab => ?_
    simp only [Bool.not_eq_true'] at hab
    rw [ltF] at hab
    exact hab
theorem ranked_len (sc : Nat → Nat) (n : Nat) : (ranked sc n).length = n := by
  unfold ranked
  rw [List.length_mergeSort, Array.length_toList, idx_size]
theorem ahd_of {W w : World} (h : Ahd W w) : ∃ q os', w = Go.Sort.grow (W.drewN q) os' := h
theorem cmpF (B g n : Nat) (sc : Nat → Nat) (w : World) (ht : Tab B sc w) (hne : B ≠ g) :
    CmpLays1 Tryd.prog 48 #[.pointer (some ⟨B, 0, none⟩)] encF (cfF sc) g 0 n w := fun m os dk _ x y => by
  have hB := cell_lt (ht 0 (by omega)).1
  have hc : ∀ j, j < 64 → (sortWorld encF w g 0 m dk os).cell? ⟨B, j, none⟩ = some (.int .u64 (sc j : Int)) := fun j hj =>
    (by
      unfold sortWorld
      rw [cell?_grow _ _ _ (by rw [size_putRow]; exact hB), cell?_putRow_other _ _ _ _ _ _ (Or.inl hne)]
      exact (ht j hj).1)
  exact closure_any B x.val y.val sc x.isLt y.isLt _ (hc _ x.isLt) (hc _ y.isLt)
theorem bel_sortWorld {w0 w : World} {g : Nat} (h : Bel w0 w) (hg : w0.heap.size ≤ g) (m : Nat) (dk : Array (Fin 64)) (os : Array Obj) : Bel w0 (sortWorld encF w g 0 m dk os) := by
  have hs : (putRow encF (Go.Sort.ahead w m) g 0 dk).heap.size = w.heap.size := by rw [size_putRow]; rfl
  refine ⟨h.os, h.tape, h.output, ?_, fun k hk => ?_⟩
  · show w0.heap.size ≤ ((putRow encF (Go.Sort.ahead w m) g 0 dk).heap ++ os).size
    have := h.size
    simp only [Array.size_append]
    omega
  · show ((putRow encF (Go.Sort.ahead w m) g 0 dk).heap ++ os)[k]? = _
    have hk2 : k < w.heap.size := Nat.lt_of_lt_of_le hk h.size
    rw [Array.getElem?_append_left (by omega)]
    have : (putRow encF (Go.Sort.ahead w m) g 0 dk).heap[k]? = w.heap[k]? := by
      show (w.heap.modify g _)[k]? = _
      rw [Array.getElem?_modify, if_neg (by omega)]
    rw [this]
    exact h.block k hk
/-- The row behind the sort. -/
theorem row_sorted (sc : Nat → Nat) (n g m : Nat) (w : World) (os : Array Obj) (hg : g < w.heap.size) (hH : Holds encF w g 0 (idx n)) :
    IArg (sortWorld encF w g 0 m (ranked sc n).toArray os) (some ⟨g, 0, none⟩) n ((ranked sc n).map Fin.val) := by
  have hl := ranked_len sc n
  have hh := holds_sortWorld encF w g 0 m (idx n) (ranked sc n).toArray os hg hH (by rw [idx_size]; simp [hl])
  refine ⟨by simp [hl], fun i hi => ⟨_, rfl, ?_⟩⟩
  have hi' : i < n := by simpa [hl] using hi
  have := (hh i (by simp; omega)).1
  rw [Lib.add_plain]
  rw [this, getElem!_pos _ i (by simp; omega)]
  simp [encF]
/-- The new row of zeros, and what it holds behind k rounds. -/
def RowTo (g n k : Nat) (w : World) : Prop := ∀ j, j < n → w.cell? ⟨g, j, none⟩ = some (.int .i64 ((if j < k then j else 0 : Nat) : Int)) ∧ w.frozen? ⟨g, j, none⟩ = false
theorem RowTo.step {g n k : Nat} {w : World} (h : RowTo g n k w) (hk : k < n) : RowTo g n (k + 1) (w.setCell ⟨g, k, none⟩ (.int .i64 (k : Int))) := fun j hj => by
  refine ⟨?_, by rw [World.frozen?_setCell]; exact (h j hj).2⟩
  by_cases e : j = k
  · subst e
    rw [if_pos (by omega)]
    exact World.cell?_setCell_same _ _ _ (h j hj).1
  · rw [World.cell?_setCell_other _ _ _ _ (fun h => e (Addr.mk.inj h).2.1.symm), (h j hj).1]
    by_cases e2 : j < k
    · rw [if_pos e2, if_pos (by omega)]
    · rw [if_neg e2, if_neg (by omega)]
theorem RowTo.holds {g n : Nat} {w : World} (h : RowTo g n n w) (h64 : n ≤ 64) : Holds encF w g 0 (idx n) := fun j hj => by
  rw [idx_size] at hj
  rw [Nat.zero_add]
  refine ⟨?_, (h j hj).2⟩
  rw [(h j hj).1, if_pos hj]
  unfold encF
  rw [idx_get n j hj h64]
theorem info_int : (Tryd.prog.info? 3).map (fun i => (i.zero, i.size, i.bytes)) = some (some (.int .i64 0), 1, 8) := by kernel_rfl
theorem make_ints (n : Nat) (hn : n ≤ 64) (W : World) : (Instr.makeSlice 41 (.int .i64 (n : Int)) (.int .i64 (n : Int))).run Tryd.prog W = .ok (.slice (some ⟨W.heap.size, 0, none⟩) n n) (W.alloc (.cells (madeCells #[.int .i64 0] n) 3)) := by
  obtain ⟨i0, hi, hz0, hz1, hz2⟩ := info_parts info_int
  have h := run_make (P := Tryd.prog) (w := W) 41 3 i0 _ Tryd.underlying41 hi hz0 .i64 .i64 (n : Int) (n : Int) (by omega) (by omega) (by rw [hz2]; omega) (by omega)
  rw [h, hz1]
  simp only [Int.toNat_natCast, Nat.mul_one]
  rfl
theorem row0 (w : World) (n : Nat) (t : TypeId) : RowTo w.heap.size n 0 (w.alloc (.cells (madeCells #[.int .i64 0] n) t)) := fun j hj => ⟨by
  rw [World.cell?_alloc_new]
  have : (madeCells #[Value.int .i64 0] n).toList[j]? = some (.int .i64 0) := by rw [toList_madeCells_one, List.getElem?_replicate, if_pos hj]
  simpa using this, World.frozen?_alloc_new _ _ _ _⟩
theorem setCell_size (w : World) (p : Addr) (v : Value) : w.heap.size ≤ (w.setCell p v).heap.size := (Below.setCell (B := 0) (Below.refl 0 w) (p := p) (Nat.zero_le _) v).size
theorem Tab.set {B g k : Nat} {f : Nat → Nat} {w : World} {v : Value} (h : Tab B f w) (hne : B ≠ g) : Tab B f (w.setCell ⟨g, k, none⟩ v) := fun j hj =>
  ⟨by rw [World.cell?_setCell_other _ _ _ _ (fun h => hne (Addr.mk.inj h).1.symm)]; exact (h j hj).1, by rw [World.frozen?_setCell]; exact (h j hj).2⟩
theorem egF : ∀ args w, (callFunc 48 args).run Tryd.prog w = .ok (.enter 48 args) w := enters_of Tryd.func48 (by kernel_rfl) rfl
/-- The sort, at the row of all indices. -/
theorem sort_any (B g n : Nat) (sc : Nat → Nat) (w0 w : World) (hn : n ≤ 64) (hb : Bel w0 w) (hg : w0.heap.size ≤ g) (hgw : g < w.heap.size) (hne : B ≠ g) (ht : Tab B sc w) (hr : RowTo g n n w) :
    Calls Tryd.prog 36 #[.slice (some ⟨g, 0, none⟩) n n, .func (.func 48) #[] #[.pointer (some ⟨B, 0, none⟩)]] w fun e w' => e = .returned (.tuple #[]) ∧ IArg w' (some ⟨g, 0, none⟩) n ((ranked sc n).map Fin.val) ∧ Bel w0 w' := by
  have h := Tryd.slices_SortFunc_total encF (fun _ => rfl) (cfF sc) (swoF sc) 48 #[.pointer (some ⟨B, 0, none⟩)] g 0 n (idx n) w egF (by rw [idx_size]; exact cmpF B g n sc w ht hne) (hr.holds hn) hgw (by rw [idx_size]; omega) (totF sc)
  rw [idx_size] at h
  refine h.mono ?_
  rintro e w' ⟨he, m, os, hw⟩
  subst hw
  exact ⟨he, row_sorted sc n g m w os hgw (hr.holds hn), bel_sortWorld hb hg m _ os⟩
set_option maxHeartbeats 4000000 in
set_option maxRecDepth 100000 in
theorem rank_ok (o : Option Addr) (n c : Nat) (key : ByteArray) (sc : Nat → Nat) (h1 : 1 ≤ n) (hn : n ≤ 64) (w : World)
    (ho : Hid (Calls Tryd.prog 34 #[.string key, .slice o n c] w fun e w' => (∃ B, w.heap.size ≤ B ∧ Tab B sc w' ∧ e = .returned (.tuple #[.func (.func 48) #[] #[.pointer (some ⟨B, 0, none⟩)], .int .i64 0])) ∧ Bel w w')) :
    Calls Tryd.prog 25 #[.string key, .slice o n c] w fun e w' => (∃ g l, IsRank sc n l ∧ IArg w' (some ⟨g, 0, none⟩) n l ∧ e = .returned (.slice (some ⟨g, 0, none⟩) n n)) ∧ Bel w w' := by
  have hmk := make_ints n hn
  go_enter Tryd.func25, Tryd.ntmps25
  go_wp2_with fail
  refine ho.out.mono ?_
  rintro e w1 ⟨⟨B, hB, ht, rfl⟩, g1⟩
  have HT := Lib.hid (ht.on ((Bel.refl w1).alloc (.cells (madeCells #[.int .i64 0] n) 3)))
  have hBw := cell_lt (ht 0 (by omega)).1
  have hne : B ≠ w1.heap.size := by omega
  have HR := Lib.hid (row0 w1 n 3)
  have HZ := Lib.hid (alloc_lt w1 (.cells (madeCells #[.int .i64 0] n) 3))
  have HB := Lib.hid (g1.alloc (.cells (madeCells #[.int .i64 0] n) 3))
  have hg := g1.size
  clear ht ho
  go_wp2
  go_loopw [22] (fun i wr => ∃ k : Nat, k ≤ n ∧ i = .int .i64 (k : Int) ∧ Hid (Bel w wr) ∧ Hid (Tab B sc wr) ∧ Hid (RowTo w1.heap.size n k wr) ∧ Hid (w1.heap.size < wr.heap.size)) (fun i _ => n - (intOf i).toNat)
  case atStart => exact ⟨0, Nat.zero_le _, rfl, HB, HT, HR, HZ⟩
  case round =>
    obtain ⟨k, hk, rfl, hb, ht, hr, hz⟩ := hrel
    rename World => W0
    clear HT HR HZ HB hmk
    by_cases hlt : k < n
    · have hcell := (hr.out k hlt).1
      have hfr := (hr.out k hlt).2
      have b' := Lib.hid (hb.out.setCell (p := ⟨w1.heap.size, k, none⟩) hg (.int .i64 (k : Int)))
      have t' := Lib.hid (Tab.set (g := w1.heap.size) (k := k) (v := .int .i64 (k : Int)) ht.out hne)
      have r' := Lib.hid (hr.out.step hlt)
      have z' : Hid (w1.heap.size < (W0.setCell ⟨w1.heap.size, k, none⟩ (.int .i64 (k : Int))).heap.size) := Lib.hid (Nat.lt_of_lt_of_le hz.out (setCell_size _ _ _))
      go_wp2
      go_round
      case rel => exact ⟨k + 1, by omega, by go_num, b', t', r', z'⟩
      case measure => simp [intOf]; omega
    · obtain rfl : k = n := by omega
      have hs := Lib.hid (sort_any B w1.heap.size k sc w W0 hn hb.out hg hz.out hne ht.out hr.out)
      clear hb ht hr hz
      go_wp2_with fail
      refine hs.out.mono ?_
      rintro e w3 ⟨rfl, i3, b3⟩
      have I3 := Lib.hid i3
      have rk := Lib.hid (ranked_is sc k hn)
      go_wp2_with fail
      go_ret
      exact ⟨⟨_, _, rk.out, I3.out, rfl⟩, b3⟩
end Hsh
end Go.Proofs.YtkdahjaflgebiaaDoor
