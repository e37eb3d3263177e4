/-
  Layer 5, the reference: Sorted.
-/
import Derived.Test.YtgchjfdldbadlaaIdnN
import Derived.Laws.OwnMore
namespace Go.Proofs.Ytgchjfdldbadlaa
open Go.RowKit Go.ChangeShapes Go.WideShapes
namespace Idn

theorem sizeOf_str (w : World) : (sizeOf (Try.prog.elem 36)).run Try.prog w = .ok 1 w := by kernel_rfl
theorem und_elem : Try.prog.underlying 36 = some (.slice (Try.prog.elem 36)) := by kernel_rfl
/-- out[:at]. -/
theorem cut_lo (b off n c at_ : Nat) (h : at_ ≤ c) (W : World) : (Instr.slice 36 (.slice (some ⟨b, off, none⟩) n c) none (some (.int .i64 (at_ : Int))) none).run Try.prog W = .ok (.slice (some ⟨b, off, none⟩) at_ c) W := by
  rw [run_slice_h W 36 _ n c und_elem .i64 (at_ : Int) (by omega) (by omega), sizeOf_str]
  simp only [Result.andThen, sliced, Int.toNat_natCast, Nat.zero_mul, Nat.sub_zero, Option.map_some, Addr.add_zero', ite_self]
/-- out[at:]. -/
theorem cut_hi (b off n c at_ : Nat) (h : at_ ≤ n) (hc : n ≤ c) : ∃ q : Addr, (∀ W : World, (Instr.slice 36 (.slice (some ⟨b, off, none⟩) n c) (some (.int .i64 (at_ : Int))) none none).run Try.prog W = .ok (.slice (some q) (n - at_) (c - at_)) W) ∧ (at_ < n → q = ⟨b, off + at_, none⟩) := by
  refine ⟨if c = at_ then ⟨b, off, none⟩ else ⟨b, off + at_, none⟩, fun W => ?_, fun h' => if_neg (by omega)⟩
  rw [run_slice_l W 36 _ n c und_elem .i64 (at_ : Int) (by omega) (by omega), sizeOf_str]
  simp only [Result.andThen, sliced, Int.toNat_natCast, Nat.mul_one, Option.map_some, Addr.add_lit]
  by_cases hh : c = at_
  · simp [hh]
  · simp [hh]
theorem own_base {w : World} {a b : Nat} {e : TypeId} {v : Value} {k : Nat} {xs : List Value} (h : w.ownsRow b e 1 v k xs) (hab : a ≤ b) : w.ownsRow a e 1 v k xs := by
  refine ⟨h.1, ?_⟩
  rcases h.2 with h2 | ⟨g, cap, cur, h1, h2, h3⟩
  · exact Or.inl h2
  · exact Or.inr ⟨g, cap, cur, h1, Nat.le_trans hab h2, h3⟩
/-- A slice of one's own that is not nil: where it lies. -/
theorem own_at {w : World} {base : Nat} {e : TypeId} {o : Option Addr} {k c : Nat} {xs : List Value} (h : w.ownsRow base e 1 (.slice o k c) k xs) (ho : o ≠ none) : ∃ g, o = some ⟨g, 0, none⟩ ∧ k ≤ c := by
  rcases h.2 with ⟨h2, _⟩ | ⟨g, cap, cur, h1, h2, h3, h4, h5⟩
  · cases h2; exact absurd rfl ho
  · cases h1; exact ⟨g, rfl, h4⟩
theorem texts_get (D : List ByteArray) (j : Nat) (h : j < D.length) : (D.map ByteArray.toList)[j]'(by simpa using h) = D[j].toList := by simp
theorem enc_cells {w : World} {q : Addr} {E : List ByteArray} (h : ∀ j (h : j < E.length), w.cell? (q.add j) = some (.string E[j])) : ∀ j u, (encS E)[j]? = some u → w.cell? (q.add j) = some u := fun j u hu => by
  have hj : j < E.length := by
    have := (List.getElem?_eq_some_iff.1 hu).1
    rw [encS_len] at this
    exact this
  rw [h j hj]
  simp only [encS, List.getElem?_map, List.getElem?_eq_getElem hj, Option.map_some, Option.some.injEq] at hu
  rw [hu]
set_option maxHeartbeats 4000000 in
theorem rsorted_any (o : Option Addr) (n c : Nat) (xs : List ByteArray) (hn : n ≤ 100000) (w : World) (hA : SlArg w o n xs) :
    Calls Try.prog 31 #[.slice o n c] w fun e w' => (∃ v, e = .returned v ∧ OutS w w' (srt (xs.map ByteArray.toList)) v) ∧ Bel w w' := by
  have hlen := hA.1
  have HA := Lib.hid hA
  clear hA
  obtain ⟨i0, hi, hz0, hz1, hz2⟩ := info_parts info_str
  go_enter Try.func31, Try.ntmps31
  go_wp2
  go_loopw [3, 4] (fun v i wr => ∃ (k m c' g : Nat) (D : List ByteArray), v = .slice (some ⟨g, 0, none⟩) m c' ∧ i = .int .i64 (k : Int) ∧ k ≤ n ∧ m ≤ k ∧ m ≤ c' ∧ Hid (D.map ByteArray.toList = srt ((xs.map ByteArray.toList).take k)) ∧
      Hid (wr.ownsRow w.heap.size 9 1 (.slice (some ⟨g, 0, none⟩) m c') m (encS D)) ∧ Hid (Bel w wr)) (fun _ i _ => n - (intOf i).toNat)
  case atStart => exact ⟨0, 0, 0, w.heap.size, [], rfl, rfl, Nat.zero_le _, Nat.le_refl _, Nat.le_refl _, Lib.hid rfl, Lib.hid (World.ownsRow_made w #[] 0 (Nat.le_refl _) (by decide) rfl), Lib.hid (Bel.alloc (Bel.refl _) _)⟩
  case round =>
    obtain ⟨k, m, c', g, D, rfl, rfl, hk, hm, hmc, hD, hown, hb⟩ := hrel
    rename World => W0
    by_cases hlt : k < n
    · have hkx : k < xs.length := by omega
      obtain ⟨p, rfl, hc0⟩ := HA.out.2 k hkx
      obtain ⟨x, hxe⟩ : ∃ x, xs[k] = x := ⟨_, rfl⟩
      rw [hxe] at hc0
      have hC0 := Lib.hid hc0
      have hDl : D.length = m := by have := hown.out.1; rw [encS_len] at this; omega
      have hst := srt_snoc (xs.map ByteArray.toList) k (by simpa using hkx)
      rw [← hD.out, texts_get xs k hkx, hxe] at hst
      have hS := Lib.hid hst
      clear hst hxe hD hc0
      go_wp2
      go_loopw [5] (fun a wr => ∃ (j : Nat), a = .int .i64 (j : Int) ∧ j ≤ m ∧ Hid (∀ i (h : i < (D.map ByteArray.toList).length), i < j → (D.map ByteArray.toList)[i] < x.toList) ∧
        Hid (wr.ownsRow w.heap.size 9 1 (.slice (some ⟨g, 0, none⟩) m c') m (encS D)) ∧ Hid (Bel w wr)) (fun a _ => m - (intOf a).toNat)
      case atStart => exact ⟨0, rfl, Nat.zero_le _, Lib.hid (fun i h h2 => absurd h2 (Nat.not_lt_zero _)), hown, hb⟩
      case round =>
        obtain ⟨j, rfl, hj, hbel, hown1, hb1⟩ := hrel
        rename World => W1
        clear hown hb
        by_cases hjm : j < m
        · have hjD : j < D.length := by omega
          have hcx := hb1.out.cell' hC0.out
          obtain ⟨a1, e1, hcy⟩ := (own_sarg hown1.out).2 j hjD
          obtain rfl := Option.some.inj e1
          obtain ⟨y, hye⟩ : ∃ y, D[j] = y := ⟨_, rfl⟩
          rw [hye, Addr.add_lit, Nat.zero_add] at hcy
          have i1 : (j : Int) < (m : Int) := by omega
          obtain ⟨b, hb0⟩ : ∃ b, Op.bytesLess y.toList x.toList = b := ⟨_, rfl⟩
          have hlt2 := Lib.hid ((bytesLess_eq _ _).symm.trans hb0)
          have Hye := Lib.hid hye
          clear hye
          cases b with
          | true =>
            have hbel2 : Hid (∀ i (h : i < (D.map ByteArray.toList).length), i < j + 1 → (D.map ByteArray.toList)[i] < x.toList) := Lib.hid (fun i h h2 => by
              rcases Nat.lt_or_ge i j with h3 | h3
              · exact hbel.out i h h3
              · obtain rfl : i = j := by omega
                rw [texts_get D i hjD, Hye.out]
                exact of_decide_eq_true hlt2.out)
            go_upto_region 6 with (fail)
            go_quiet (fail)
            go_wp2_with fail
            go_round
            case rel => exact ⟨j + 1, by go_num, by omega, hbel2, Lib.hid (own_on hown1.out ((Bel.refl _).drewN _)), Lib.hid (hb1.out.drewN _)⟩
            case measure => simp [intOf]; omega
          | false =>
            have hpl : pl x.toList (D.map ByteArray.toList) = j := pl_eq (by simp; omega) (fun i h h2 => hbel.out i h h2) (fun h => by
              rw [texts_get D j hjD, Hye.out]
              exact of_decide_eq_false hlt2.out)
            have Hpl := Lib.hid hpl
            clear hpl
            have Hown := hown1
            go_upto_region 6 with (fail)
            go_quiet (fail)
            clear hb0
            have hjm1 : ((j : Int) == (m : Int)) = false := by simp; omega
            obtain ⟨b2, hb2⟩ : ∃ b2, (y.toList == x.toList) = b2 := ⟨_, rfl⟩
            cases b2 with
            | true =>
              obtain rfl := eq_of_lists hb2
              have hins : Hid (D.map ByteArray.toList = srt ((xs.map ByteArray.toList).take (k + 1))) := Lib.hid (by
                rw [hS.out, ins_eq, if_neg]
                rw [Hpl.out]
                intro h
                rcases h with h | h
                · rw [List.length_map] at h; omega
                · apply h
                  rw [List.getElem?_eq_getElem (by simpa using hjD), texts_get D j hjD, Hye.out])
              clear hS Hpl Hye hbel hlt2
              go_upto_region 8 with (fail)
              go_quiet (fail)
              go_wp2_with fail
              go_round
              case rel => exact ⟨k + 1, m, c', g, D, rfl, by go_num, by omega, by omega, hmc, hins, Lib.hid (own_on Hown.out ((Bel.refl _).drewN _)), Lib.hid (hb1.out.drewN _)⟩
              case measure => simp [intOf]; omega
            | false =>
              go_upto_region 8 with (fail)
              go_quiet (fail)
              have HINS : Hid (pl x.toList (D.map ByteArray.toList) = (D.map ByteArray.toList).length ∨ (D.map ByteArray.toList)[pl x.toList (D.map ByteArray.toList)]? ≠ some x.toList) := Lib.hid (by
                rw [Hpl.out]
                right
                rw [List.getElem?_eq_getElem (by simpa using hjD), texts_get D j hjD, Hye.out]
                intro h
                have := Option.some.inj h
                rw [this] at hb2
                simp at hb2)
              obtain ⟨D2, hD2⟩ : ∃ D2, D.take j ++ x :: D.drop j = D2 := ⟨_, rfl⟩
              have hins : Hid (D2.map ByteArray.toList = srt ((xs.map ByteArray.toList).take (k + 1))) := Lib.hid (by
                rw [hS.out, ins_eq, if_pos HINS.out, Hpl.out, ← hD2]
                simp)
              have hencs : Hid (encS (D.take j) ++ [Value.string x] ++ encS (D.drop j) = encS D2) := Lib.hid (by rw [← hD2]; simp [encS])
              have s1 := cut_lo g 0 m c' j (by omega)
              obtain ⟨q, s2, hq⟩ := cut_hi g 0 m c' j hj hmc
              have Hq := Lib.hid hq
              have cellD : Hid (∀ Y : World, Bel W1 Y → ∀ i, (h : i < D.length) → Y.cell? ⟨g, i, none⟩ = some (.string D[i])) := Lib.hid (fun Y hY i h => by
                obtain ⟨a1, e1, h1⟩ := ((own_sarg Hown.out).on hY).2 i h
                obtain rfl := Option.some.inj e1
                rw [Addr.add_lit, Nat.zero_add] at h1
                exact h1)
              have own0 : Hid (∀ N, ((W1.drewN N).alloc (.cells #[] 9)).ownsRow W1.heap.size 9 1 (.slice (some ⟨W1.heap.size, 0, none⟩) 0 0) 0 []) := Lib.hid (fun N => World.ownsRow_made (W1.drewN N) #[] 0 (Nat.le_refl _) (by decide) rfl)
              have q1 : Hid ((encS (D.take j)).length = j * 1) := Lib.hid (by rw [encS_len, List.length_take]; omega)
              have q2 : Hid (∀ N, ∀ i u, (encS (D.take j))[i]? = some u → ((W1.drewN N).alloc (.cells #[] 9)).cell? ((⟨g, 0, none⟩ : Addr).add i) = some u) := Lib.hid (fun N => enc_cells fun i h => by
                rw [List.length_take] at h
                rw [Addr.add_lit, Nat.zero_add, cellD.out _ (((Bel.refl W1).drewN N).alloc _) i (by omega), List.getElem_take])
              have q3 : Hid (0 + j ≤ maxLen) := Lib.hid (by unfold maxLen; omega)
              have q4 : Hid ((0 + j) * 16 ≤ 140737488355328) := Lib.hid (by omega)
              have q5 : Hid (∀ N, W1.heap.size ≤ ((W1.drewN N).alloc (.cells #[] 9)).heap.size) := Lib.hid (fun N => (((Bel.refl W1).drewN N).alloc _).size)
              clear hq hD2 hbel
              go_wp2_with (at_builtin; refine wpList_append_own _ rfl _ _ 36 rfl W1.heap.size 9 i0 (.string ByteArray.empty) 1 16 Try.underlying36 hi hz0 hz1 hz2 rfl (by decide) _ _ _ rfl (own0.out _) ⟨g, 0, none⟩ j c' (encS (D.take j)) rfl q1.out (q2.out _) str_one q3.out q4.out (q5.out _) ?_; intro v' W3 hown3 hgrow3 hnil3; refine Hid.out ?_)
              refine Lib.hid ?_
              obtain ⟨o1, c1, rfl⟩ := own_shape hown3
              have hne1 : Hid (Value.slice o1 (0 + j) c1 ≠ .slice none 0 0) := Lib.hid (fun h => by cases (hnil3.1 h).1)
              have B1 : Hid (Bel W1 W3) := Lib.hid (own_bel (own0.out _) (((Bel.refl W1).drewN _).alloc _) hgrow3)
              have O1 := Lib.hid hown3
              have hcx3 := (Bel.trans hb1.out B1.out).cell' hC0.out
              clear hnil3 hgrow3 hown3 q1 q2 q3 q4 q5 s1
              have q1 := Lib.hid (cell_new1 W3 (.string x) 9)
              have q2 : Hid (∀ u ∈ [Value.string x], u.oneCell' = true) := Lib.hid (fun u hu => by simp at hu; subst hu; rfl)
              have q3 : Hid (0 + j + 1 ≤ maxLen) := Lib.hid (by unfold maxLen; omega)
              have q4 : Hid ((0 + j + 1) * 16 ≤ 140737488355328) := Lib.hid (by omega)
              have q5 : Hid (W1.heap.size ≤ (W3.alloc (.cells #[.string x] 9)).heap.size) := Lib.hid ((B1.out.alloc _).size)
              go_wp2_with (at_builtin; refine wpList_append_own _ rfl _ _ 36 rfl W1.heap.size 9 i0 (.string ByteArray.empty) 1 16 Try.underlying36 hi hz0 hz1 hz2 rfl (by decide) _ _ _ rfl (O1.out.alloc _) ⟨W3.heap.size, 0, none⟩ 1 1 [.string x] rfl rfl q1.out q2.out q3.out q4.out q5.out ?_; intro v' W4 hown3 hgrow3 hnil3; refine Hid.out ?_)
              refine Lib.hid ?_
              obtain ⟨o2, c2, rfl⟩ := own_shape hown3
              have hne2 : Hid (Value.slice o2 (0 + j + 1) c2 ≠ .slice none 0 0) := Lib.hid (fun h => hne1.out (hnil3.1 h).1)
              have B2 : Hid (Bel W1 W4) := Lib.hid (own_bel (O1.out.alloc _) (B1.out.alloc _) hgrow3)
              have O2 := Lib.hid hown3
              clear hnil3 hgrow3 hown3 q1 q2 q3 q4 q5 hne1 O1 hcx3 B1
              have q1 : Hid ((encS (D.drop j)).length = (m - j) * 1) := Lib.hid (by rw [encS_len, List.length_drop]; omega)
              have q2 : Hid (∀ i u, (encS (D.drop j))[i]? = some u → W4.cell? (q.add i) = some u) := Lib.hid (enc_cells fun i h => by
                rw [List.length_drop] at h
                rw [Hq.out (by omega), Addr.add_lit, Nat.zero_add, cellD.out _ B2.out (j + i) (by omega), List.getElem_drop])
              have q3 : Hid (0 + j + 1 + (m - j) ≤ maxLen) := Lib.hid (by unfold maxLen; omega)
              have q4 : Hid ((0 + j + 1 + (m - j)) * 16 ≤ 140737488355328) := Lib.hid (by omega)
              have q5 : Hid (W1.heap.size ≤ W4.heap.size) := Lib.hid B2.out.size
              go_wp2_with (at_builtin; refine wpList_append_own _ rfl _ _ 36 rfl W1.heap.size 9 i0 (.string ByteArray.empty) 1 16 Try.underlying36 hi hz0 hz1 hz2 rfl (by decide) _ _ _ rfl O2.out q (m - j) (c' - j) (encS (D.drop j)) rfl q1.out q2.out str_one q3.out q4.out q5.out ?_; intro v' W5 hown3 hgrow3 hnil3; refine Hid.out ?_)
              refine Lib.hid ?_
              obtain ⟨o3, c3, rfl⟩ := own_shape hown3
              obtain ⟨g3, rfl, hc3⟩ := own_at hown3 (fun h => by subst h; exact hne2.out (hnil3.1 (by have := hown3.2; rcases this with ⟨h1, _⟩ | ⟨_, _, _, h1, _⟩; exact h1; cases h1)).1)
              have B3 : Hid (Bel w W5) := Lib.hid (Bel.trans hb1.out (own_bel O2.out B2.out hgrow3))
              have hown4 := own_base hown3 hb1.out.size
              rw [List.nil_append, hencs.out] at hown4
              obtain ⟨m3, hm3⟩ : ∃ m3, 0 + j + 1 + (m - j) = m3 := ⟨_, rfl⟩
              rw [hm3] at hown4 hc3 ⊢
              have O4 := Lib.hid hown4
              have zm : m3 = m + 1 := by omega
              have zm1 : m3 ≤ k + 1 := by omega
              clear hnil3 hgrow3 hown3 hown4 q1 q2 q3 q4 q5 hne2 O2 B2 hm3 zm Hq cellD hencs own0 s2
              go_wp2_with fail
              go_round
              case rel => exact ⟨k + 1, m3, c3, g3, D2, rfl, by go_num, by omega, zm1, hc3, hins, O4, B3⟩
              case measure => simp [intOf]; omega
        · have hpl : pl x.toList (D.map ByteArray.toList) = j := pl_eq (by simp; omega) (fun i h h2 => hbel.out i h h2) (fun h => absurd h (by simp; omega))
          have Hpl := Lib.hid hpl
          have Hown := hown1
          have HINS : Hid (pl x.toList (D.map ByteArray.toList) = (D.map ByteArray.toList).length ∨ (D.map ByteArray.toList)[pl x.toList (D.map ByteArray.toList)]? ≠ some x.toList) := Lib.hid (by
            left
            rw [hpl, List.length_map]
            omega)
          have i1 : ¬ (j : Int) < (m : Int) := by omega
          have hjm1 : ((j : Int) == (m : Int)) = true := by simp; omega
          clear hpl
          go_upto_region 6 with (fail)
          go_quiet (fail)
          go_upto_region 8 with (fail)
          go_quiet (fail)
          obtain ⟨D2, hD2⟩ : ∃ D2, D.take j ++ x :: D.drop j = D2 := ⟨_, rfl⟩
          have hins : Hid (D2.map ByteArray.toList = srt ((xs.map ByteArray.toList).take (k + 1))) := Lib.hid (by
            rw [hS.out, ins_eq, if_pos HINS.out, Hpl.out, ← hD2]
            simp)
          have hencs : Hid (encS (D.take j) ++ [Value.string x] ++ encS (D.drop j) = encS D2) := Lib.hid (by rw [← hD2]; simp [encS])
          have s1 := cut_lo g 0 m c' j (by omega)
          obtain ⟨q, s2, hq⟩ := cut_hi g 0 m c' j hj hmc
          have Hq := Lib.hid hq
          have cellD : Hid (∀ Y : World, Bel W1 Y → ∀ i, (h : i < D.length) → Y.cell? ⟨g, i, none⟩ = some (.string D[i])) := Lib.hid (fun Y hY i h => by
            obtain ⟨a1, e1, h1⟩ := ((own_sarg Hown.out).on hY).2 i h
            obtain rfl := Option.some.inj e1
            rw [Addr.add_lit, Nat.zero_add] at h1
            exact h1)
          have own0 : Hid (∀ N, ((W1.drewN N).alloc (.cells #[] 9)).ownsRow W1.heap.size 9 1 (.slice (some ⟨W1.heap.size, 0, none⟩) 0 0) 0 []) := Lib.hid (fun N => World.ownsRow_made (W1.drewN N) #[] 0 (Nat.le_refl _) (by decide) rfl)
          have q1 : Hid ((encS (D.take j)).length = j * 1) := Lib.hid (by rw [encS_len, List.length_take]; omega)
          have q2 : Hid (∀ N, ∀ i u, (encS (D.take j))[i]? = some u → ((W1.drewN N).alloc (.cells #[] 9)).cell? ((⟨g, 0, none⟩ : Addr).add i) = some u) := Lib.hid (fun N => enc_cells fun i h => by
            rw [List.length_take] at h
            rw [Addr.add_lit, Nat.zero_add, cellD.out _ (((Bel.refl W1).drewN N).alloc _) i (by omega), List.getElem_take])
          have q3 : Hid (0 + j ≤ maxLen) := Lib.hid (by unfold maxLen; omega)
          have q4 : Hid ((0 + j) * 16 ≤ 140737488355328) := Lib.hid (by omega)
          have q5 : Hid (∀ N, W1.heap.size ≤ ((W1.drewN N).alloc (.cells #[] 9)).heap.size) := Lib.hid (fun N => (((Bel.refl W1).drewN N).alloc _).size)
          clear hq hD2 hbel
          go_wp2_with (at_builtin; refine wpList_append_own _ rfl _ _ 36 rfl W1.heap.size 9 i0 (.string ByteArray.empty) 1 16 Try.underlying36 hi hz0 hz1 hz2 rfl (by decide) _ _ _ rfl (own0.out _) ⟨g, 0, none⟩ j c' (encS (D.take j)) rfl q1.out (q2.out _) str_one q3.out q4.out (q5.out _) ?_; intro v' W3 hown3 hgrow3 hnil3; refine Hid.out ?_)
          refine Lib.hid ?_
          obtain ⟨o1, c1, rfl⟩ := own_shape hown3
          have hne1 : Hid (Value.slice o1 (0 + j) c1 ≠ .slice none 0 0) := Lib.hid (fun h => by cases (hnil3.1 h).1)
          have B1 : Hid (Bel W1 W3) := Lib.hid (own_bel (own0.out _) (((Bel.refl W1).drewN _).alloc _) hgrow3)
          have O1 := Lib.hid hown3
          have hcx3 := (Bel.trans hb1.out B1.out).cell' hC0.out
          clear hnil3 hgrow3 hown3 q1 q2 q3 q4 q5 s1
          have q1 := Lib.hid (cell_new1 W3 (.string x) 9)
          have q2 : Hid (∀ u ∈ [Value.string x], u.oneCell' = true) := Lib.hid (fun u hu => by simp at hu; subst hu; rfl)
          have q3 : Hid (0 + j + 1 ≤ maxLen) := Lib.hid (by unfold maxLen; omega)
          have q4 : Hid ((0 + j + 1) * 16 ≤ 140737488355328) := Lib.hid (by omega)
          have q5 : Hid (W1.heap.size ≤ (W3.alloc (.cells #[.string x] 9)).heap.size) := Lib.hid ((B1.out.alloc _).size)
          go_wp2_with (at_builtin; refine wpList_append_own _ rfl _ _ 36 rfl W1.heap.size 9 i0 (.string ByteArray.empty) 1 16 Try.underlying36 hi hz0 hz1 hz2 rfl (by decide) _ _ _ rfl (O1.out.alloc _) ⟨W3.heap.size, 0, none⟩ 1 1 [.string x] rfl rfl q1.out q2.out q3.out q4.out q5.out ?_; intro v' W4 hown3 hgrow3 hnil3; refine Hid.out ?_)
          refine Lib.hid ?_
          obtain ⟨o2, c2, rfl⟩ := own_shape hown3
          have hne2 : Hid (Value.slice o2 (0 + j + 1) c2 ≠ .slice none 0 0) := Lib.hid (fun h => hne1.out (hnil3.1 h).1)
          have B2 : Hid (Bel W1 W4) := Lib.hid (own_bel (O1.out.alloc _) (B1.out.alloc _) hgrow3)
          have O2 := Lib.hid hown3
          clear hnil3 hgrow3 hown3 q1 q2 q3 q4 q5 hne1 O1 hcx3 B1
          have q1 : Hid ((encS (D.drop j)).length = (m - j) * 1) := Lib.hid (by rw [encS_len, List.length_drop]; omega)
          have q2 : Hid (∀ i u, (encS (D.drop j))[i]? = some u → W4.cell? (q.add i) = some u) := Lib.hid (enc_cells fun i h => by
            rw [List.length_drop] at h
            rw [Hq.out (by omega), Addr.add_lit, Nat.zero_add, cellD.out _ B2.out (j + i) (by omega), List.getElem_drop])
          have q3 : Hid (0 + j + 1 + (m - j) ≤ maxLen) := Lib.hid (by unfold maxLen; omega)
          have q4 : Hid ((0 + j + 1 + (m - j)) * 16 ≤ 140737488355328) := Lib.hid (by omega)
          have q5 : Hid (W1.heap.size ≤ W4.heap.size) := Lib.hid B2.out.size
          go_wp2_with (at_builtin; refine wpList_append_own _ rfl _ _ 36 rfl W1.heap.size 9 i0 (.string ByteArray.empty) 1 16 Try.underlying36 hi hz0 hz1 hz2 rfl (by decide) _ _ _ rfl O2.out q (m - j) (c' - j) (encS (D.drop j)) rfl q1.out q2.out str_one q3.out q4.out q5.out ?_; intro v' W5 hown3 hgrow3 hnil3; refine Hid.out ?_)
          refine Lib.hid ?_
          obtain ⟨o3, c3, rfl⟩ := own_shape hown3
          obtain ⟨g3, rfl, hc3⟩ := own_at hown3 (fun h => by subst h; exact hne2.out (hnil3.1 (by have := hown3.2; rcases this with ⟨h1, _⟩ | ⟨_, _, _, h1, _⟩; exact h1; cases h1)).1)
          have B3 : Hid (Bel w W5) := Lib.hid (Bel.trans hb1.out (own_bel O2.out B2.out hgrow3))
          have hown4 := own_base hown3 hb1.out.size
          rw [List.nil_append, hencs.out] at hown4
          obtain ⟨m3, hm3⟩ : ∃ m3, 0 + j + 1 + (m - j) = m3 := ⟨_, rfl⟩
          rw [hm3] at hown4 hc3 ⊢
          have O4 := Lib.hid hown4
          have zm : m3 = m + 1 := by omega
          have zm1 : m3 ≤ k + 1 := by omega
          clear hnil3 hgrow3 hown3 hown4 q1 q2 q3 q4 q5 hne2 O2 B2 hm3 zm Hq cellD hencs own0 s2
          go_wp2_with fail
          go_round
          case rel => exact ⟨k + 1, m3, c3, g3, D2, rfl, by go_num, by omega, zm1, hc3, hins, O4, B3⟩
          case measure => simp [intOf]; omega
    · obtain rfl : k = n := by omega
      have hz := hD.out
      rw [List.take_of_length_le (by simp; omega)] at hz
      have hz2 := Lib.hid hz
      clear hz hD
      go_wp2
      go_ret
      exact ⟨⟨_, rfl, _, _, _, D, rfl, hz2.out, hown.out⟩, hb.out⟩
end Idn
end Go.Proofs.Ytgchjfdldbadlaa
