/-
  The law HashMovesOnlyOwn.
-/
import Derived.Test.YtkdahjaflgebiaaDoorHshX
import Derived.Deep.AppendLies
import Derived.Laws.MakeOwn
import Derived.Laws.OwnMore
namespace Go.Proofs.YtkdahjaflgebiaaDoor
open Go.RowKit
namespace Hsh

/-- What is left of the nodes when the one at a place is taken out. -/
def restL (xs : List ByteArray) (at_ : Nat) : List ByteArray := xs.take at_ ++ xs.drop (at_ + 1)
def encS (l : List ByteArray) : List Value := l.map Value.string
theorem encS_len (l : List ByteArray) : (encS l).length = l.length := by simp [encS]
theorem own_sarg {w : World} {base : Nat} {e : TypeId} {o : Option Addr} {k c : Nat} {l : List ByteArray} (h : w.ownsRow base e 1 (.slice o k c) k (encS l)) : SlArg w o k l := by
  have hl : l.length = k := by have := h.1; rw [encS_len] at this; omega
  refine ⟨hl, fun i hi => ?_⟩
  rcases h.2 with ⟨hv, hk⟩ | ⟨g, cap, cur, hv, _, _, _⟩
  · omega
  · simp only [Value.slice.injEq] at hv
    obtain ⟨rfl, -, rfl⟩ := hv
    exact ⟨_, rfl, h.cells rfl i _ (by simp [encS, List.getElem?_eq_getElem hi])⟩
theorem info_str : (Tryd.prog.info? 9).map (fun i => (i.zero, i.size, i.bytes)) = some (some (.string ByteArray.empty), 1, 16) := by kernel_rfl
theorem sizeOf_str (w : World) : (sizeOf (Tryd.prog.elem 22)).run Tryd.prog w = .ok 1 w := by kernel_rfl
theorem und_elem : Tryd.prog.underlying 22 = some (.slice (Tryd.prog.elem 22)) := by kernel_rfl
/-- nodes[:at]. -/
theorem cut_lo (b off n c at_ : Nat) (h : at_ ≤ c) (W : World) : (Instr.slice 22 (.slice (some ⟨b, off, none⟩) n c) none (some (.int .i64 (at_ : Int))) none).run Tryd.prog W = .ok (.slice (some ⟨b, off, none⟩) at_ c) W := by
  rw [run_slice_h W 22 _ n c und_elem .i64 (at_ : Int) (by omega) (by omega), sizeOf_str]
  simp only [Result.andThen, sliced, Int.toNat_natCast, Nat.zero_mul, Nat.sub_zero, Option.map_some, Addr.add_zero', ite_self]
/-- nodes[at+1:]. -/
theorem cut_hi (b off n c at_ : Nat) (h : at_ + 1 ≤ n) (hc : n ≤ c) : ∃ q : Addr, (∀ W : World, (Instr.slice 22 (.slice (some ⟨b, off, none⟩) n c) (some (.int .i64 ((at_ : Int) + 1))) none none).run Tryd.prog W = .ok (.slice (some q) (n - (at_ + 1)) (c - (at_ + 1))) W) ∧ (at_ + 1 < n → q = ⟨b, off + (at_ + 1), none⟩) := by
  refine ⟨if c = at_ + 1 then ⟨b, off, none⟩ else ⟨b, off + (at_ + 1), none⟩, fun W => ?_, fun h' => if_neg (by omega)⟩
  rw [run_slice_l W 22 _ n c und_elem .i64 ((at_ : Int) + 1) (by omega) (by omega), sizeOf_str]
  have e : ((at_ : Int) + 1).toNat = at_ + 1 := by omega
  simp only [Result.andThen, sliced, e, Nat.mul_one, Option.map_some, Addr.add_lit]
  by_cases hh : c = at_ + 1
  · simp [hh]
  · simp [hh]
theorem str_one {l : List ByteArray} : ∀ u ∈ encS l, u.oneCell' = true := fun u hu => by
  simp only [encS, List.mem_map] at hu
  obtain ⟨x, _, rfl⟩ := hu
  rfl
/-- The two appends. -/
theorem rest_made (w X : World) (b off n c at_ : Nat) (q : Addr) (xs : List ByteArray) (h64 : n ≤ 64) (ha : at_ < n) (hq : at_ + 1 < n → q = ⟨b, off + (at_ + 1), none⟩) (hb : Bel w X) (hA : SlArg w (some ⟨b, off, none⟩) n xs) :
    ∃ v1 w1 v2 w2, (Builtin.append_ #[22, 22] 22 #[.slice (some ⟨X.heap.size, 0, none⟩) 0 0, .slice (some ⟨b, off, none⟩) at_ c]).run Tryd.prog (X.alloc (.cells #[] 9)).drew = .ok v1 w1 ∧
      (Builtin.append_ #[22, 22] 22 #[v1, .slice (some q) (n - (at_ + 1)) (c - (at_ + 1))]).run Tryd.prog w1 = .ok v2 w2 ∧ Bel w w1 ∧ Bel w w2 ∧ ∃ o2 c2, v2 = .slice o2 (n - 1) c2 ∧ SlArg w2 o2 (n - 1) (restL xs at_) := by
  obtain ⟨i0, hi, hz0, hz1, hz2⟩ := info_parts info_str
  have hlen := hA.1
  have cell : ∀ {Y : World}, Bel w Y → ∀ k, (hk : k < xs.length) → Y.cell? ⟨b, off + k, none⟩ = some (.string xs[k]) := fun hY k hk => by
    obtain ⟨a, e, h⟩ := (hA.on hY).2 k hk
    obtain rfl := Option.some.inj e
    rw [Addr.add_lit] at h
    exact h
  have b1 : Bel w (X.alloc (.cells #[] 9)).drew := (hb.alloc _).drewN 1
  have own0 : (X.alloc (.cells #[] 9)).drew.ownsRow w.heap.size 9 1 (.slice (some ⟨X.heap.size, 0, none⟩) 0 0) 0 [] :=
    (World.ownsRow_made X #[] 0 hb.size (by decide) rfl)
  obtain ⟨v1, w1, r1, o1, g1, -⟩ := run_append_own (P := Tryd.prog) _ w.heap.size 22 22 9 i0 _ 1 16 Tryd.underlying22 hi hz0 hz1 hz2 rfl (by decide) _ 0 [] own0 ⟨b, off, none⟩ at_ c (encS (xs.take at_)) (by rw [encS_len, List.length_take]; omega)
    (fun j u hu => by
      have hj : j < at_ := by
        have := (List.getElem?_eq_some_iff.1 hu).1
        rw [encS_len, List.length_take] at this
        omega
      rw [Addr.add_lit, cell b1 j (by omega)]
      simp only [encS, List.getElem?_map, List.getElem?_take, if_pos hj, List.getElem?_eq_getElem (show j < xs.length by omega), Option.map_some, Option.some.injEq] at hu
      rw [hu]) str_one (by unfold maxLen; omega) (by omega) b1.size
  have b2 : Bel w w1 := own_bel own0 b1 g1
  rw [List.nil_append, Nat.zero_add] at o1
  obtain ⟨v2, w2, r2, o2, g2, -⟩ := run_append_own (P := Tryd.prog) _ w.heap.size 22 22 9 i0 _ 1 16 Tryd.underlying22 hi hz0 hz1 hz2 rfl (by decide) v1 at_ _ o1 q (n - (at_ + 1)) (c - (at_ + 1)) (encS (xs.drop (at_ + 1))) (by rw [encS_len, List.length_drop]; omega)
    (fun j u hu => by
      have hj : j < n - (at_ + 1) := by
        have := (List.getElem?_eq_some_iff.1 hu).1
        rw [encS_len, List.length_drop] at this
        omega
      rw [hq (by omega), Addr.add_lit, show off + (at_ + 1) + j = off + (at_ + 1 + j) by omega, cell b2 (at_ + 1 + j) (by omega)]
      simp only [encS, List.getElem?_map, List.getElem?_drop, List.getElem?_eq_getElem (show at_ + 1 + j < xs.length by omega), Option.map_some, Option.some.injEq] at hu
      rw [hu]) str_one (by unfold maxLen; omega) (by omega) b2.size
  have b3 : Bel w w2 := own_bel o1 b2 g2
  obtain ⟨p2, c2, rfl⟩ := own_shape o2
  have e : encS (xs.take at_) ++ encS (xs.drop (at_ + 1)) = encS (restL xs at_) := by simp [encS, restL]
  rw [e, show at_ + (n - (at_ + 1)) = n - 1 by omega] at o2
  rw [show at_ + (n - (at_ + 1)) = n - 1 by omega] at r2
  exact ⟨v1, w1, _, w2, r1, r2, b2, b3, p2, c2, rfl, own_sarg o2⟩
theorem info_bool : (Tryd.prog.info? 4).map (fun i => (i.zero, i.size, i.bytes)) = some (some (.bool false), 1, 1) := by kernel_rfl
theorem make_bools (n : Nat) (hn : n ≤ 64) (W : World) : (Instr.makeSlice 43 (.int .i64 (n : Int)) (.int .i64 (n : Int))).run Tryd.prog W = .ok (.slice (some ⟨W.heap.size, 0, none⟩) n n) (W.alloc (.cells (madeCells #[.bool false] n) 4)) := by
  obtain ⟨i0, hi, hz0, hz1, hz2⟩ := info_parts info_bool
  have h := run_make (P := Tryd.prog) (w := W) 43 4 i0 _ Tryd.underlying43 hi hz0 .i64 .i64 (n : Int) (n : Int) (by omega) (by omega) (by rw [hz2]; omega) (by omega)
  rw [h, hz1]
  simp only [Int.toNat_natCast, Nat.mul_one]
  rfl
/-- Which indices were seen. -/
def Seen (G n : Nat) (l : List Nat) (w : World) : Prop := ∀ j, j < n → w.cell? ⟨G, j, none⟩ = some (.bool (decide (j ∈ l))) ∧ w.frozen? ⟨G, j, none⟩ = false
theorem seen0 (w : World) (n : Nat) (t : TypeId) : Seen w.heap.size n [] (w.alloc (.cells (madeCells #[.bool false] n) t)) := fun j hj => ⟨by
  rw [World.cell?_alloc_new]
  have : (madeCells #[Value.bool false] n).toList[j]? = some (.bool false) := by rw [toList_madeCells_one, List.getElem?_replicate, if_pos hj]
  simpa using this, World.frozen?_alloc_new _ _ _ _⟩
theorem Seen.step {G n x : Nat} {l : List Nat} {w : World} (h : Seen G n l w) (hx : x < n) : Seen G n (l ++ [x]) (w.setCell ⟨G, x, none⟩ (.bool true)) := fun j hj => by
  refine ⟨?_, by rw [World.frozen?_setCell]; exact (h j hj).2⟩
  by_cases e : j = x
  · subst e
    rw [World.cell?_setCell_same _ _ _ (h j hj).1]
    simp
  · rw [World.cell?_setCell_other _ _ _ _ (fun h => e (Addr.mk.inj h).2.1.symm), (h j hj).1]
    simp [e]
theorem step_run {P : Program} {w w' : World} {v' v sl : Value} {ops : Array Oper} {o : Oper} {a : Act} {K : Act → World → Prop} {Q : Exit → Act → World → Prop} {E : Prop} (s x : Operand) (t : TypeId)
    (ho : o.op = .call { callee := .builtin .append, args := #[s, x], argTypes := #[t, t] }) (hgd : o.guard = none) (hs : a.eval s = v) (hx : a.eval x = sl)
    (hr : (Builtin.append_ #[t, t] o.type #[v, sl]).run P w = .ok v' w') (h : K (a.put o.dst v') w') :
    if Region.wanted o (yielded ops a.tmps) = true then Oper.wp P o a w K Q else E := by
  have hw : Region.wanted o (yielded ops a.tmps) = true := by simp [Region.wanted, hgd]
  rw [if_pos hw]
  unfold Oper.wp execOp
  simp only [ho, resolve, invoke, builtin, Sem.run_bind, Sem.run_pure, Result.andThen_ok, List.map_toArray, List.map_cons, List.map_nil, hs, hx, hr]
  exact h
set_option maxHeartbeats 8000000 in
set_option maxRecDepth 100000 in
theorem moves_core (key : ByteArray) (b off n r c at_ : Nat) (xs : List ByteArray) (V K : Nat) (P : List Nat → Prop) (hk : key.size ≤ 200) (h2 : 2 ≤ n) (hrn : r + 1 = n) (h64 : n ≤ 64) (ha : at_ < n) (hnc : n ≤ c) (hc : c ≤ maxLen) (hVn : V < n) (hKr : K < r) (w : World) (hL : Lad w) (hA : SlArg w (some ⟨b, off, none⟩) n xs)
    (hP : Hid (∀ l, P l → l.length = n ∧ l.Nodup ∧ (∀ x ∈ l, x < n) ∧ l[0]? = some V)) (hVK : Hid (V ≠ at_ → K = if at_ < V then V - 1 else V))
    (hb : Hid (Calls Tryd.prog 9 #[.slice (some ⟨b, off, none⟩) n c, .int .i64 64] w fun e w' => e = .returned (.bool true) ∧ w' = w))
    (hr : Hid (∀ W, Bel w W → Calls Tryd.prog 22 #[.string key, .slice (some ⟨b, off, none⟩) n c] W fun e w' => e = .returned (.tuple #[.int .i64 (V : Int), .int .i64 0]) ∧ Bel W w'))
    (hrr : Hid (∀ o c2 W, Bel w W → SlArg W o r (restL xs at_) → Calls Tryd.prog 22 #[.string key, .slice o r c2] W fun e w' => e = .returned (.tuple #[.int .i64 (K : Int), .int .i64 0]) ∧ Bel W w'))
    (hl : Hid (∀ W, Bel w W → Calls Tryd.prog 25 #[.string key, .slice (some ⟨b, off, none⟩) n c] W fun e w' => (∃ g l, P l ∧ IArg w' (some ⟨g, 0, none⟩) n l ∧ e = .returned (.slice (some ⟨g, 0, none⟩) n n)) ∧ Bel W w')) :
    Calls Tryd.prog 7 #[.string key, .slice (some ⟨b, off, none⟩) n c, .int .i64 (at_ : Int)] w fun e w' => e = .returned (.bool true) ∧ Bel w w' := by
  have hAw := Lib.hid awakeT
  have HA := Lib.hid hA
  have HL := Lib.hid hL
  have s1 := cut_lo b off n c at_ (by omega)
  obtain ⟨q, s2, hq⟩ := cut_hi b off n c at_ (by omega) hnc
  have Hq := Lib.hid hq
  clear hA hL hq
  unfold maxLen at hc
  have k0 : (200 < (key.size : Int)) = False := eq_false (by omega)
  have k1 : ((at_ : Int) < 0) = False := eq_false (by omega)
  have k2 : ((n : Int) < 2) = False := eq_false (by omega)
  have k3 : ((n : Int) ≤ (at_ : Int)) = False := eq_false (by omega)
  go_enter Tryd.func7, Tryd.ntmps7
  go_wp2_with fail
  refine hb.out.mono ?_
  rintro e w1 ⟨rfl, rfl⟩
  go_wp2_with fail
  refine (hr.out _ (Bel.refl _)).mono ?_
  rintro e w2 ⟨rfl, g2⟩
  go_upto_region 4 with (fail)
  obtain ⟨v1, x1, v2, x2, r1, r2, b1, b2, hv2⟩ := rest_made w1 w2 b off n c at_ q xs h64 ha Hq.out g2 HA.out
  rw [show n - 1 = r by omega] at hv2
  have Hv2 := Lib.hid hv2
  clear hv2
  have i1 : IntKind.i64.wrap ((at_ : Int) + 1) = (at_ : Int) + 1 := by rw [IntKind.wrap_i64]; omega
  go_region_held3 (fun w' => Bel w1 w') (first | exact Below.drew g2 | exact Below.drew (Bel.alloc g2 _) | exact b1 | exact b2) (first | (refine step_run _ _ _ (by rfl) (by rfl) (by rfl) (by rfl) r1 ?_) | (refine step_run _ _ _ (by rfl) (by rfl) (by rfl) (by rfl) r2 ?_))
  clear i1 s1 s2 r1 g2 b1
  obtain ⟨o2, c2, rfl, hS⟩ := Hv2.out
  have HS := Lib.hid hS
  clear hS r2 Hv2 Hq
  go_wp2_with fail
  refine (hrr.out _ _ _ b2 HS.out).mono ?_
  rintro e w3 ⟨rfl, g3⟩
  have G3 := Bel.trans b2 g3
  clear b2 g3 hrr hr HS
  go_wp2_with fail
  refine (hl.out _ G3).mono ?_
  rintro e w4 ⟨⟨g, l, hp, hI, rfl⟩, g4⟩
  have G4 := Bel.trans G3 g4
  clear G3 g4 hl
  obtain ⟨p1, p2, p3, p4⟩ := hP.out l hp
  have HI := Lib.hid hI
  have h0 : w4.cell? ⟨g, 0, none⟩ = some (.int .i64 (V : Int)) := by
    obtain ⟨a, ea, hca⟩ := hI.2 0 (by omega)
    obtain rfl := Option.some.inj ea
    rw [Addr.add_zero'] at hca
    rw [List.getElem?_eq_getElem (show 0 < l.length by omega), Option.some.injEq] at p4
    rw [hca, p4]
  have p2 := Lib.hid p2
  have p3 := Lib.hid p3
  clear p4 hp hI hP
  have hmk := make_bools n h64
  have j1 : ((V : Int) < 0) = False := eq_false (by omega)
  have j2 : ((n : Int) ≤ (V : Int)) = False := eq_false (by omega)
  have j3 : ((K : Int) < 0) = False := eq_false (by omega)
  have j4 : ((r : Int) ≤ (K : Int)) = False := eq_false (by omega)
  go_upto_region 11 with (fail)
  have hS0 := Lib.hid (seen0 w4 n 4)
  have hB0 := Lib.hid ((Bel.refl w4).alloc (.cells (madeCells #[.bool false] n) 4))
  clear hmk h0
  go_loopw [110] (fun i wr => ∃ k : Nat, k ≤ n ∧ i = .int .i64 (k : Int) ∧ Hid (Bel w4 wr) ∧ Hid (Seen w4.heap.size n (l.take k) wr)) (fun i _ => n - (intOf i).toNat)
  case atStart => exact ⟨0, Nat.zero_le _, rfl, hB0, hS0⟩
  case round =>
    obtain ⟨k, hkn, rfl, hbw, hse⟩ := hrel
    rename World => W0
    clear hS0 hB0
    by_cases hlt : k < n
    · have hkl : k < l.length := by omega
      have hc0 : W0.cell? ⟨g, k, none⟩ = some (.int .i64 (l[k] : Int)) := by
        obtain ⟨a, ea, hca⟩ := (HI.out.on hbw.out).2 k hkl
        obtain rfl := Option.some.inj ea
        rw [Addr.add_lit, Nat.zero_add] at hca
        exact hca
      have hxn := p3.out l[k] (List.getElem_mem hkl)
      have htl := Lib.hid (List.take_succ_eq_append_getElem hkl)
      have hnot : l[k] ∉ l.take k := by
        intro hm
        have hsplit : l.take k ++ l[k] :: l.drop (k + 1) = l := by rw [List.getElem_cons_drop, List.take_append_drop]
        have hn := p2.out
        rw [← hsplit, List.nodup_append] at hn
        exact hn.2.2 _ hm _ (List.mem_cons_self ..) rfl
      obtain ⟨x, hx⟩ : ∃ x, l[k] = x := ⟨_, rfl⟩
      rw [hx] at hc0 hxn hnot htl
      clear hx
      have hsx := hse.out x hxn
      rw [decide_eq_false hnot] at hsx
      have hcx := hsx.1
      have hfx := hsx.2
      have hse' : Hid (Seen w4.heap.size n (l.take (k + 1)) (W0.setCell ⟨w4.heap.size, x, none⟩ (.bool true))) := Lib.hid (by rw [htl.out]; exact hse.out.step hxn)
      have hb' := Lib.hid (hbw.out.setCell (p := ⟨w4.heap.size, x, none⟩) (Nat.le_refl _) (.bool true))
      have x1 : ((x : Int) < 0) = False := eq_false (by omega)
      have x2 : ((n : Int) ≤ (x : Int)) = False := eq_false (by omega)
      have x3 : (x : Int) < (n : Int) := by omega
      clear hnot hsx htl hse hbw
      go_wp2
      go_round
      case rel => exact ⟨k + 1, by omega, by go_num, hb', hse'⟩
      case measure => simp [intOf]; omega
    · obtain rfl : k = n := by omega
      have G5 := Bel.trans G4 hbw.out
      have LW := HL.out.on G5
      clear hse hbw G4 HI HA HL
      by_cases hva : V = at_
      · subst hva
        go_wp2_with fail
        refine (hAw.out _ LW).mono ?_
        rintro e w7 ⟨rfl, g7⟩
        go_wp2_with fail
        go_ret
        exact ⟨rfl, Bel.trans G5 g7⟩
      · have hK := hVK.out hva
        have e1 : ((V : Int) == (at_ : Int)) = false := by simp; omega
        by_cases hgt : at_ < V
        · rw [if_pos hgt] at hK
          obtain rfl : V = K + 1 := by omega
          have e2 : (at_ : Int) < ((K : Int) + 1) := by omega
          clear hK hVK hva
          go_wp2_with fail
          refine (hAw.out _ LW).mono ?_
          rintro e w7 ⟨rfl, g7⟩
          go_wp2_with fail
          go_ret
          exact ⟨rfl, Bel.trans G5 g7⟩
        · rw [if_neg hgt] at hK
          subst hK
          have hle : K ≤ at_ := by omega
          clear hVK hva hgt
          go_wp2_with fail
          refine (hAw.out _ LW).mono ?_
          rintro e w7 ⟨rfl, g7⟩
          go_wp2_with fail
          go_ret
          exact ⟨rfl, Bel.trans G5 g7⟩
theorem restL_len {xs : List ByteArray} {n at_ : Nat} (h : xs.length = n) (ha : at_ < n) : (restL xs at_).length = n - 1 := by
  unfold restL
  simp
  omega
theorem restL_get {xs : List ByteArray} {n at_ i : Nat} (h : xs.length = n) (ha : at_ < n) (hi : i < n - 1) : (restL xs at_)[i]'(by rw [restL_len h ha]; exact hi) = xs[skip at_ i]'(by unfold skip; split <;> omega) := by
  unfold restL skip
  rw [List.getElem_append]
  by_cases hlt : i < at_
  · rw [dif_pos (by simp; omega)]
    simp [hlt]
  · rw [dif_neg (by simp; omega)]
    simp only [List.length_take, List.getElem_drop, if_neg hlt]
    congr 1
    omega
theorem sco_rest {xs : List ByteArray} {n at_ : Nat} (key : ByteArray) (h : xs.length = n) (ha : at_ < n) {i : Nat} (hi : i < n - 1) : sco (restL xs at_) key i = sco xs key (skip at_ i) := by
  rw [sco_at (by rw [restL_len h ha]; exact hi), sco_at (by unfold skip; split <;> omega), restL_get h ha hi]
theorem restL_mem {xs : List ByteArray} {at_ : Nat} {x : ByteArray} (h : x ∈ restL xs at_) : x ∈ xs := by
  unfold restL at h
  rcases List.mem_append.1 h with h | h
  · exact List.mem_of_mem_take h
  · exact List.mem_of_mem_drop h
/-- Where the law asks nothing but the examples. -/
theorem moves_idle (key : ByteArray) (o : Option Addr) (n c : Nat) (bb : Bool) (a : Int) (hz : key.size ≤ 140737488355328) (hn : n ≤ 4611686018427387904) (ha : -9223372036854775808 ≤ a ∧ a ≤ 9223372036854775807) (w : World) (hL : Lad w)
    (hb : Hid (Calls Tryd.prog 9 #[.slice o n c, .int .i64 64] w fun e w' => e = .returned (.bool bb) ∧ w' = w)) (h : 200 < key.size ∨ bb = false ∨ a < 0 ∨ (n : Int) ≤ a ∨ n < 2) :
    Calls Tryd.prog 7 #[.string key, .slice o n c, .int .i64 a] w fun e w' => e = .returned (.bool true) ∧ Bel w w' := by
  have hA := Lib.hid awakeT
  by_cases hs : 200 < key.size
  · clear h hb
    go_enter Tryd.func7, Tryd.ntmps7
    go_wp2_with fail
    refine (hA.out _ hL).mono ?_
    rintro e w2 ⟨rfl, g2⟩
    go_wp2_with fail
    go_ret
    exact ⟨rfl, g2⟩
  have hs' : key.size ≤ 200 := by omega
  cases bb
  · clear h
    go_enter Tryd.func7, Tryd.ntmps7
    go_wp2_with fail
    refine hb.out.mono ?_
    rintro e w1 ⟨rfl, rfl⟩
    go_wp2_with fail
    refine (hA.out _ hL).mono ?_
    rintro e w2 ⟨rfl, g2⟩
    go_wp2_with fail
    go_ret
    exact ⟨rfl, g2⟩
  by_cases h3 : a < 0
  · clear h
    go_enter Tryd.func7, Tryd.ntmps7
    go_wp2_with fail
    refine hb.out.mono ?_
    rintro e w1 ⟨rfl, rfl⟩
    go_wp2_with fail
    refine (hA.out _ hL).mono ?_
    rintro e w2 ⟨rfl, g2⟩
    go_wp2_with fail
    go_ret
    exact ⟨rfl, g2⟩
  by_cases h4 : (n : Int) ≤ a
  · clear h
    go_enter Tryd.func7, Tryd.ntmps7
    go_wp2_with fail
    refine hb.out.mono ?_
    rintro e w1 ⟨rfl, rfl⟩
    go_wp2_with fail
    refine (hA.out _ hL).mono ?_
    rintro e w2 ⟨rfl, g2⟩
    go_wp2_with fail
    go_ret
    exact ⟨rfl, g2⟩
  · have h5 : n < 2 := by
      rcases h with h | h | h | h | h
      · omega
      · cases h
      · omega
      · omega
      · exact h
    have h3' : 0 ≤ a := by omega
    have h4' : a < (n : Int) := by omega
    clear h h3 h4
    go_enter Tryd.func7, Tryd.ntmps7
    go_wp2_with fail
    refine hb.out.mono ?_
    rintro e w1 ⟨rfl, rfl⟩
    go_wp2_with fail
    refine (hA.out _ hL).mono ?_
    rintro e w2 ⟨rfl, g2⟩
    go_wp2_with fail
    go_ret
    exact ⟨rfl, g2⟩
theorem law_moves (key : ByteArray) (o : Option Addr) (n c : Nat) (xs : List ByteArray) (a : Int) (hz : key.size ≤ 140737488355328) (hn : n ≤ 4611686018427387904) (hnc : n ≤ c) (hc : c ≤ maxLen) (ha : -9223372036854775808 ≤ a ∧ a ≤ 9223372036854775807) (w : World) (hL : Lad w) (hA : SlArg w o n xs) (hx : ∀ x ∈ xs, x.size ≤ maxLen) :
    Calls Tryd.prog 7 #[.string key, .slice o n c, .int .i64 a] w fun e w' => e = .returned (.bool true) ∧ Bel w w' := by
  have hsh := Lib.hid (short_any o n c 64 xs hn (by omega) hx w hA)
  by_cases hi : 200 < key.size ∨ shortB xs 64 = false ∨ a < 0 ∨ (n : Int) ≤ a ∨ n < 2
  · exact moves_idle key o n c (shortB xs 64) a hz hn ha w hL hsh hi
  · have q1 : key.size ≤ 200 := by omega
    have q2 : shortB xs 64 = true := by
      cases h : shortB xs 64 with
      | true => rfl
      | false => exact absurd (Or.inr (Or.inl h)) hi
    have q3 : 0 ≤ a := by omega
    have q4 : a < (n : Int) := by omega
    have q5 : 2 ≤ n := by omega
    obtain ⟨at_, rfl⟩ : ∃ k : Nat, a = (k : Int) := ⟨a.toNat, by omega⟩
    have hat : at_ < n := by omega
    have hxl := hA.1
    have h64 : n ≤ 64 := by have := (shortB_true q2).1; omega
    rw [q2] at hsh
    obtain ⟨p, rfl, hc0⟩ := hA.2 0 (by omega)
    obtain ⟨b, off, spot⟩ := p
    have hspot : spot = none := by simpa [Addr.add] using World.cell?_spot hc0
    subst hspot
    have hrl := restL_len hxl hat
    have hb4 := b400 q2
    have hb4r : ∀ x ∈ restL xs at_, x.size ≤ 400 := fun x h => hb4 x (restL_mem h)
    have hKe : bst (sco (restL xs at_) key) (n - 1) = bst (fun i => sco xs key (skip at_ i)) (n - 1) := bst_congr _ fun i hi => sco_rest key hxl hat hi
    exact moves_core key b off n (n - 1) c at_ xs (bst (sco xs key) n) (bst (sco (restL xs at_) key) (n - 1)) (IsRank (sco xs key) n) q1 q5 (by omega) h64 hat hnc hc (bst_lt _ n (by omega)) (bst_lt _ (n - 1) (by omega)) w hL hA
      (Lib.hid fun l hl => ⟨hl.len, hl.nodup, fun x h => hl.mem.1 h, by rw [List.getElem?_eq_getElem (show 0 < l.length by rw [hl.len]; omega), rank_head hl (by omega)]⟩)
      (Lib.hid fun hne => by rw [hKe]; exact bst_skip q5 hat hne)
      hsh
      (Lib.hid fun W g => rv_ok _ n c key (sco xs key) (by omega) h64 W (Lib.hid (order_ok _ n c xs key (by omega) h64 hb4 (by omega) W (hL.on g) (hA.on g))))
      (Lib.hid fun o2 c2 W g hS => rv_ok o2 (n - 1) c2 key (sco (restL xs at_) key) (by omega) (by omega) W (Lib.hid (order_ok o2 (n - 1) c2 (restL xs at_) key (by omega) (by omega) hb4r (by omega) W (hL.on g) hS)))
      (Lib.hid fun W g => rank_ok _ n c key (sco xs key) (by omega) h64 W (Lib.hid (order_ok _ n c xs key (by omega) h64 hb4 (by omega) W (hL.on g) (hA.on g))))
end Hsh
end Go.Proofs.YtkdahjaflgebiaaDoor
