/-
  Layer 6, texts merged: the walk, whatever the visitor. For every argument within the bounds that each theorem names.
-/
import Derived.Test.YtegfcmnbljdcpaaGreatDoorMG
import Derived.Deep.AppendLies

/-
  Layer 6: the walk over cells, whatever the visitor.
-/
namespace Go.Proofs.YtegfcmnbljdcpaaGreatDoor
open Go.RowKit Go.ChangeShapes Go.WideShapes
namespace Val

/-- A slice of cells stays where blocks that it doesn't lie in change. -/
theorem CArg.mod {w w' : World} {o : Option Addr} {n : Nat} {l : List Cel} {F : Nat → Prop} (h : CArg w o n l) (g : Mod F w w') (hs : ∀ b off, o = some ⟨b, off, none⟩ → ¬ F b) : CArg w' o n l :=
  ⟨h.1, h.2.1, fun hn => let ⟨b, off, e, k⟩ := h.2.2 hn; ⟨b, off, e, fun i hi => let ⟨a1, a2, a3, a4⟩ := k i hi; ⟨g.cell a1 (hs b off e), g.cell a2 (hs b off e), g.cell a3 (hs b off e), g.cell a4 (hs b off e)⟩⟩⟩
theorem own_belz {w w' : World} {base : Nat} {e : TypeId} {z : Nat} {v : Value} {n : Nat} {xs : List Value} (h : w.ownsRow base e z v n xs) (g : Bel w w') : w'.ownsRow base e z v n xs :=
  own_kept (F := fun _ => False) h (Mod.of_bel g) (fun _ _ h => h)
/-- A new box of a cell. -/
theorem boxC (w : World) (k i n : Int) (s : ByteArray) (t : TypeId) : (w.alloc (.cells #[.int .i64 k, .int .i64 i, .string s, .int .i64 n] t)).cell? ⟨w.heap.size, 0, none⟩ = some (.int .i64 k) ∧ (w.alloc (.cells #[.int .i64 k, .int .i64 i, .string s, .int .i64 n] t)).cell? ⟨w.heap.size, 1, none⟩ = some (.int .i64 i) ∧ (w.alloc (.cells #[.int .i64 k, .int .i64 i, .string s, .int .i64 n] t)).cell? ⟨w.heap.size, 2, none⟩ = some (.string s) ∧ (w.alloc (.cells #[.int .i64 k, .int .i64 i, .string s, .int .i64 n] t)).cell? ⟨w.heap.size, 3, none⟩ = some (.int .i64 n) :=
  ⟨World.cell?_alloc_new .., World.cell?_alloc_new .., World.cell?_alloc_new .., World.cell?_alloc_new ..⟩
/-- A new box of a spot. -/
theorem boxS (w : World) (a i p : Int) (t : TypeId) : (w.alloc (.cells #[.int .i64 a, .int .i64 i, .int .i64 p] t)).cell? ⟨w.heap.size, 0, none⟩ = some (.int .i64 a) ∧ (w.alloc (.cells #[.int .i64 a, .int .i64 i, .int .i64 p] t)).cell? ⟨w.heap.size, 1, none⟩ = some (.int .i64 i) ∧ (w.alloc (.cells #[.int .i64 a, .int .i64 i, .int .i64 p] t)).cell? ⟨w.heap.size, 2, none⟩ = some (.int .i64 p) :=
  ⟨World.cell?_alloc_new .., World.cell?_alloc_new .., World.cell?_alloc_new ..⟩
theorem celV_str (a b d : Int) (X : ByteArray) : celV ⟨a, b, X.toList, d⟩ = .agg #[.int .i64 a, .int .i64 b, .string X, .int .i64 d] := by
  unfold celV
  rw [str_back]
theorem tk_ngrp {g : Grp} {c : Cel} (h : takesG g c = true) : isGrp c = false := by
  unfold takesG at h
  rw [Bool.and_eq_true, beq_iff_eq] at h
  unfold isGrp
  rw [h.1]
  rfl
theorem enc_set (g : Grp) (r : List Grp) (j : Nat) (u : Value) : (encS (g :: r)).set (r.length * 5 + j) u = encS r ++ (encG g).set j u := by
  show (encS r ++ encG g).set _ u = _
  rw [← encS_len r, List.set_append_right _ _ (by omega)]
  congr 2
  omega
theorem enc_set2 (g : Grp) (r : List Grp) (j i : Nat) (u v : Value) : ((encS (g :: r)).set (r.length * 5 + j) u).set (r.length * 5 + i) v = encS r ++ ((encG g).set j u).set i v := by
  rw [enc_set, ← encS_len r, List.set_append_right _ _ (by omega)]
  congr 2
  omega
theorem enc_set3 (g : Grp) (r : List Grp) (h j i : Nat) (t u v : Value) : (((encS (g :: r)).set (r.length * 5 + h) t).set (r.length * 5 + j) u).set (r.length * 5 + i) v = encS r ++ (((encG g).set h t).set j u).set i v := by
  rw [enc_set2, ← encS_len r, List.set_append_right _ _ (by omega)]
  congr 2
  omega
theorem grp_pos {k i n : Int} {s : Txt} (hp : properC ⟨k, i, s, n⟩ = true) (hg : isGrp ⟨k, i, s, n⟩ = true) : 0 ≤ n := by
  have hk : k = 5 ∨ k = 6 := by simpa [isGrp] using hg
  rw [prop5 k i n s hk] at hp
  simp only [Bool.and_eq_true, decide_eq_true_eq] at hp
  exact hp.2
theorem partsC_bd (c : Cel) (h : 0 ≤ c.n ∧ c.n ≤ 1000000) : 0 ≤ partsC c ∧ partsC c ≤ 2000000 := by
  unfold partsC
  split <;> omega
set_option maxRecDepth 100000 in
set_option maxHeartbeats 4000000 in
theorem walk_any {f : FuncId} {caps : Array Value} {J : List Ev → (Nat → Prop) → World → Prop} (hv : Visitor f caps J) (l : List Cel) (es0 : List Ev) (F0 : Nat → Prop) (o : Option Addr) (n c : Nat) (w : World)
    (hn : n ≤ 1000000) (hss : ∀ x ∈ l, x.s.length ≤ 1000000) (hb : es0.length ≤ 1000000) (hJ : J es0 F0 w) (hA : CArg w o n l) (hsep : 0 < n → ∀ b off, o = some ⟨b, off, none⟩ → ¬ F0 b) :
    Calls Tryz.prog 42 #[.slice o n c, .func (.func f) #[] caps] w fun e w' => e = .returned (.bool (wlk l).1) ∧ (∃ F', ((wlk l).1 = true → J (es0 ++ (wlk l).2) F' w') ∧ Mod F0 w w' ∧ (∀ k, F' k → F0 k ∨ w.heap.size ≤ k)) := by
  have hl := hA.1
  obtain ⟨N, hN⟩ : ∃ N : Int, (l.length : Int) = N := ⟨_, rfl⟩
  obtain ⟨R, hR⟩ : ∃ R, wlk l = R := ⟨_, rfl⟩
  have hR2 : run N [grp0] l = R := by rw [← hR, ← hN]; rfl
  rw [hR]
  have HV := Lib.hid hv
  have HSS := Lib.hid hss
  have HA := Lib.hid hA
  have HSEP := Lib.hid hsep
  have HN : Hid (N = n) := Lib.hid (by rw [← hN, hl])
  have hown0 := Lib.hid (World.ownsRow_lit (base := w.heap.size) (e := 83) (size := 5) w #[.int .i64 1, .int .i64 0, .int .i64 0, .int .i64 1, .string ⟨#[]⟩] 1 (Nat.le_refl _) (by decide) rfl)
  have hJ0 : Hid (J es0 F0 (w.alloc (.cells #[.int .i64 1, .int .i64 0, .int .i64 0, .int .i64 1, .string ⟨#[]⟩] 83))) := Lib.hid (hv.stay hJ (Nat.le_of_lt (alloc_lt _ _)) (fun k hk => Below.heap_alloc _ _ _ (hv.lt hJ k hk)))
  have hM0 : Hid (Mod F0 w (w.alloc (.cells #[.int .i64 1, .int .i64 0, .int .i64 0, .int .i64 1, .string ⟨#[]⟩] 83))) := Lib.hid (Mod.alloc (Mod.refl _ _) _)
  have hlt0 : Hid (∀ k, F0 k → k < w.heap.size) := Lib.hid (hv.lt hJ)
  clear hv hss hA hJ hsep hN hR
  go_enter Tryz.func42, Tryz.ntmps42
  go_wp2
  go_loopw [5, 15] (fun v i wr => ∃ (k : Nat) (st : List Grp) (es : List Ev) (F : Nat → Prop) (p : Option Addr) (c' : Nat), i = .int .i64 (k : Int) ∧ v = .slice p st.length c' ∧ k ≤ n ∧ Hid ((run N st (l.drop k)).1 = R.1 ∧ es ++ (run N st (l.drop k)).2 = es0 ++ R.2) ∧ Hid (J es F wr) ∧ Hid (wr.ownsRow w.heap.size 83 5 (.slice p st.length c') st.length (encS st)) ∧ Hid (Mod F0 w wr) ∧ Hid (∀ k, F k → F0 k ∨ w.heap.size ≤ k) ∧ Hid (∀ b off, p = some ⟨b, off, none⟩ → ¬ F b) ∧ Hid (∀ g ∈ st, GB k g) ∧ es.length + st.length ≤ es0.length + 2 * k + 1) (fun _ i _ => n - (intOf i).toNat)
  case atStart =>
    refine ⟨0, [grp0], es0, F0, some ⟨w.heap.size, 0, none⟩, 1, rfl, rfl, Nat.zero_le _, Lib.hid ⟨by rw [List.drop_zero, hR2], by rw [List.drop_zero, hR2]⟩, hJ0, hown0, hM0, Lib.hid (fun k hk => Or.inl hk), Lib.hid (fun b off e hk => ?_), Lib.hid (fun g hg => ?_), by simp⟩
    · simp only [Option.some.injEq, Addr.mk.injEq] at e
      have := hlt0.out b hk
      omega
    · obtain rfl := List.mem_singleton.1 hg
      exact ⟨⟨by decide, by decide⟩, ⟨by decide, by decide⟩, ⟨by decide, by decide⟩, ⟨by decide, by decide⟩, by decide⟩
  case round =>
    obtain ⟨k, st, es, F, p, c', rfl, rfl, hk, hrun, HJ, HO, HM, HF, HS, HG, hsum⟩ := hrel
    rename World => wr
    clear hown0 hJ0 hM0 hR2
    by_cases hlt : k < n
    · have hkl : k < l.length := by omega
      have hfit := HA.out.2.1 _ (List.getElem_mem hkl)
      have hsx := HSS.out _ (List.getElem_mem hkl)
      obtain ⟨vb, vo, rfl, hcs⟩ := (HA.out.mod HM.out (HSEP.out (by omega))).2.2 (by omega)
      obtain ⟨v1, v2, v3, v4⟩ := hcs k hkl
      have hrun' := hrun.out
      rw [List.drop_eq_getElem_cons hkl] at hrun'
      generalize l[k] = x at *
      obtain ⟨xk, xi, xs, xn⟩ := x
      simp only at v1 v2 v3 v4 hsx
      clear hcs hrun hkl
      obtain ⟨X, hX⟩ : ∃ X : ByteArray, ⟨xs.toArray⟩ = X := ⟨_, rfl⟩
      obtain rfl : xs = X.toList := by rw [← hX, tl xs]
      have hXs : X.size ≤ 1000000 := by rw [← toL_len]; exact hsx
      rw [str_back] at v3
      clear hX hsx
      cases st with
      | nil =>
        have hz := Lib.hid (hrun'.1.symm.trans (run_empty N _ _))
        clear hrun'
        go_wp2
        go_ret
        exact ⟨by rw [hz.out]; rfl, F, fun h => (by rw [hz.out] at h; cases h), HM.out.alloc _, HF.out⟩
      | cons g r =>
        obtain ⟨b, rfl, hbb, hbl, hnc⟩ := own_at HO.out (by simp)
        obtain ⟨⟨gl, gi, gp⟩, gf, gk⟩ := g
        obtain ⟨c0, c1, c2, c3, c4⟩ := encS_get ⟨⟨gl, gi, gp⟩, gf, gk⟩ r
        obtain ⟨K, hK⟩ : ∃ K : ByteArray, ⟨gk.toArray⟩ = K := ⟨_, rfl⟩
        obtain rfl : gk = K.toList := by rw [← hK, tl gk]
        simp only [str_back] at c0 c1 c2 c3 c4
        clear hK
        have d0 := own_cell HO.out rfl c0
        have d1 := own_cell HO.out rfl c1
        have d2 := own_cell HO.out rfl c2
        have d3 := own_cell HO.out rfl c3
        have d4 := own_cell HO.out rfl c4
        clear c0 c1 c2 c3 c4
        have HGb := Lib.hid (HG.out _ (List.mem_cons_self ..))
        obtain ⟨g1, g2, g3, g4, g5⟩ := HGb.out
        simp only at g1 g2 g3 g4 g5
        have HPr := Lib.hid (isProper_any xk xi xn X (by unfold maxLen; omega))
        have B0 := Lib.hid (boxC wr xk xi xn X 43)
        simp only [List.length_cons] at hsum hnc ⊢
        obtain ⟨m, hm⟩ : ∃ m, r.length = m := ⟨_, rfl⟩
        have Hm := Lib.hid hm
        rw [hm] at d0 d1 d2 d3 d4 hsum hnc ⊢
        have hmb : m ≤ 4000000 := by omega
        clear hm
        cases hpc : properC ⟨xk, xi, X.toList, xn⟩ with
        | false =>
          have hz := Lib.hid (hrun'.1.symm.trans (run_bad (by unfold badC; rw [hpc]; rfl)))
          rw [hpc] at HPr
          clear hrun' d0 d1 d2 d3 d4
          go_wp2_with fail
          refine (HPr.out _).mono ?_
          rintro e w1 ⟨rfl, G1⟩
          have G1h := Lib.hid G1
          clear G1
          go_wp2
          go_ret
          exact ⟨by rw [hz.out]; rfl, F, fun h => (by rw [hz.out] at h; cases h), (HM.out.alloc _).trans (Mod.of_bel (F := F0) G1h.out) (fun _ h => Or.inl h), HF.out⟩
        | true =>
          rw [hpc] at HPr
          by_cases hnn : N < xn
          · have hz := Lib.hid (hrun'.1.symm.trans (run_bad (by unfold badC; rw [decide_eq_true hnn]; simp)))
            have hnn2 : (n : Int) < xn := by rw [← HN.out]; exact hnn
            clear hrun' d0 d1 d2 d3 d4
            go_wp2_with fail
            refine (HPr.out _).mono ?_
            rintro e w1 ⟨rfl, G1⟩
            have G1h := Lib.hid G1
            have q4 := G1.cell' B0.out.2.2.2
            clear G1
            go_wp2
            go_ret
            exact ⟨by rw [hz.out]; rfl, F, fun h => (by rw [hz.out] at h; cases h), (HM.out.alloc _).trans (Mod.of_bel (F := F0) G1h.out) (fun _ h => Or.inl h), HF.out⟩
          · have hnn2 : ¬ (n : Int) < xn := by rw [← HN.out]; exact hnn
            have hm1 : ((m : Int) + 1 == 0) = false := by simp; omega
            have hnn3 : decide ((n : Int) < xn) = false := decide_eq_false hnn2
            have hpx : 0 ≤ gp ∧ gp ≤ 4000000 := ⟨g3.1, by have := g3.2; omega⟩
            have HK := Lib.hid (isKey_any gl gi gp hpx)
            obtain ⟨KB, hKB⟩ : ∃ KB, isKeyS ⟨gl, gi, gp⟩ = KB := ⟨_, rfl⟩
            rw [hKB] at HK
            have HKB := Lib.hid hKB
            have HHN := Lib.hid (decide_eq_false hnn)
            have Hpc := Lib.hid hpc
            have Hrun := Lib.hid hrun'
            have Hg3 := Lib.hid g3
            have Hg4 := Lib.hid g4
            have Hg1 := Lib.hid g1
            have hsb : Hid (¬ F b) := Lib.hid (HS.out b 0 rfl)
            have hltF : Hid (∀ k, F k → k < wr.heap.size) := Lib.hid (HV.out.lt HJ.out)
            have Hbl := Lib.hid hbl
            clear hKB hnn hpc hrun'
            go_wp2_with fail
            refine (HPr.out _).mono ?_
            rintro e w1 ⟨rfl, G1⟩
            have Ga := Bel.trans (Bel.alloc (Bel.refl wr) _) G1
            have e0 := Ga.cell' d0
            have e1 := Ga.cell' d1
            have e2 := Ga.cell' d2
            have e3 := Ga.cell' d3
            have e4 := Ga.cell' d4
            have q1 := G1.cell' B0.out.1
            have q2 := G1.cell' B0.out.2.1
            have q3 := G1.cell' B0.out.2.2.1
            have q4 := G1.cell' B0.out.2.2.2
            have S0 := Lib.hid (boxS w1 gl gi gp 68)
            have hw1 : Hid (wr.heap.size < w1.heap.size) := Lib.hid (by have h1 := G1.size; have h2 := alloc_lt wr (.cells #[.int .i64 xk, .int .i64 xi, .string X, .int .i64 xn] 43); omega)
            have GA := Lib.hid Ga
            clear Ga G1 HPr B0 v1 v2 v3 v4
            go_wp2_with fail
            refine (HK.out _).mono ?_
            rintro e w2 ⟨rfl, G2⟩
            have G2a := Bel.trans (Bel.alloc (Bel.refl w1) _) G2
            have GB2 := Lib.hid (Bel.trans GA.out G2a)
            replace e0 := G2a.cell' e0
            replace e1 := G2a.cell' e1
            replace e2 := G2a.cell' e2
            replace e3 := G2a.cell' e3
            replace e4 := G2a.cell' e4
            replace q1 := G2a.cell' q1
            replace q2 := G2a.cell' q2
            replace q3 := G2a.cell' q3
            replace q4 := G2a.cell' q4
            have s0 := G2.cell' S0.out.1
            have s1 := G2.cell' S0.out.2.1
            have s2 := G2.cell' S0.out.2.2
            have hw2 : Hid (w1.heap.size < w2.heap.size) := Lib.hid (by have h1 := G2.size; have h2 := alloc_lt w1 (.cells #[.int .i64 gl, .int .i64 gi, .int .i64 gp] 68); omega)
            have own2 := Lib.hid (own_belz HO.out GB2.out)
            clear G2 G2a GA S0 HK d0 d1 d2 d3 d4
            cases KB with
            | true =>
              have HT := Lib.hid (takes_any gl gi gp gf xk xi xn K X)
              obtain ⟨TB, hTB⟩ : ∃ TB, takesG ⟨⟨gl, gi, gp⟩, gf, K.toList⟩ ⟨xk, xi, X.toList, xn⟩ = TB := ⟨_, rfl⟩
              rw [hTB] at HT
              have HTB := Lib.hid hTB
              clear hTB
              go_upto_region 10 with (fail)
              go_region_held3 (fun w' => (w'.cell? ⟨b, m * 5, none⟩ = some (.int .i64 gl) ∧ w'.cell? ⟨b, m * 5 + 1, none⟩ = some (.int .i64 gi) ∧ w'.cell? ⟨b, m * 5 + 2, none⟩ = some (.int .i64 gp) ∧ w'.cell? ⟨b, m * 5 + 3, none⟩ = some (.int .i64 gf) ∧ w'.cell? ⟨b, m * 5 + 4, none⟩ = some (.string K)) ∧ (w'.cell? ⟨wr.heap.size, 0, none⟩ = some (.int .i64 xk) ∧ w'.cell? ⟨wr.heap.size, 1, none⟩ = some (.int .i64 xi) ∧ w'.cell? ⟨wr.heap.size, 2, none⟩ = some (.string X) ∧ w'.cell? ⟨wr.heap.size, 3, none⟩ = some (.int .i64 xn)) ∧ Bel w2 w') (first | exact ⟨⟨e0, e1, e2, e3, e4⟩, ⟨q1, q2, q3, q4⟩, Below.drew (Bel.refl _)⟩ | exact ⟨⟨GT.cell' e0, GT.cell' e1, GT.cell' e2, GT.cell' e3, GT.cell' e4⟩, ⟨GT.cell' q1, GT.cell' q2, GT.cell' q3, GT.cell' q4⟩, GT⟩) (first | (go_at_call 67; (with_reducible refine (HT.out _).mono ?_); rintro e w' ⟨rfl, G⟩; have GT := Bel.trans (by repeat (first | exact Bel.refl _ | refine Below.drew ?_ | refine Bel.alloc ?_ _) : Bel w2 _) G))
              rename World => w3
              obtain ⟨_, _, G3⟩ := ‹(_ ∧ _ ∧ _ ∧ _ ∧ _) ∧ (_ ∧ _ ∧ _ ∧ _) ∧ Bel w2 w3›
              replace e0 := G3.cell' e0
              replace e1 := G3.cell' e1
              replace e2 := G3.cell' e2
              replace e3 := G3.cell' e3
              replace e4 := G3.cell' e4
              replace q1 := G3.cell' q1
              replace q2 := G3.cell' q2
              replace q3 := G3.cell' q3
              replace q4 := G3.cell' q4
              have s0 := G3.cell' s0
              have s1 := G3.cell' s1
              have s2 := G3.cell' s2
              have GB3 := Lib.hid (Bel.trans GB2.out G3)
              have own3 := Lib.hid (own_belz own2.out G3)
              clear G3 HT own2
              cases TB with
              | false =>
                have hz := Lib.hid (Hrun.out.1.symm.trans (run_bad (by show (!properC _ || decide (N < xn) || (isKeyS _ && !takesG _ _)) = true; rw [HKB.out, HTB.out]; simp)))
                clear e0 e1 e2 e3 e4
                go_wp2
                go_ret
                exact ⟨by rw [hz.out]; rfl, F, fun h => (by rw [hz.out] at h; cases h), HM.out.trans (Mod.of_bel (F := F0) GB3.out) (fun _ h => Or.inl h), HF.out⟩
              | true =>
                have fz2 := own_frozen own3.out (m * 5 + 2) rfl
                have fz3 := own_frozen own3.out (m * 5 + 3) rfl
                have fz4 := own_frozen own3.out (m * 5 + 4) rfl
                have hgrp : isGrp ⟨xk, xi, X.toList, xn⟩ = false := tk_ngrp HTB.out
                have M2 : Mod (fun x => x = b) w3 (((w3.setCell ⟨b, m * 5 + 4, none⟩ (.string X)).setCell ⟨b, m * 5 + 2, none⟩ (.int .i64 (gp + 1))).setCell ⟨b, m * 5 + 3, none⟩ (.int .i64 (gf - 1))) := (((Mod.refl (fun x => x = b) w3).setCell (Or.inl rfl) _).setCell (Or.inl rfl) _).setCell (Or.inl rfl) _
                have nb1 : ¬ wr.heap.size = b := by have := Hbl.out; omega
                have nb2 : ¬ w1.heap.size = b := by have := Hbl.out; have := hw1.out; omega
                have r1 := M2.cell q1 nb1
                have r2 := M2.cell q2 nb1
                have r3 := M2.cell q3 nb1
                have r4 := M2.cell q4 nb1
                have t0 := M2.cell s0 nb2
                have t1 := M2.cell s1 nb2
                have t2 := M2.cell s2 nb2
                have M6 : Hid (Mod (fun x => x = b) wr (((w3.setCell ⟨b, m * 5 + 4, none⟩ (.string X)).setCell ⟨b, m * 5 + 2, none⟩ (.int .i64 (gp + 1))).setCell ⟨b, m * 5 + 3, none⟩ (.int .i64 (gf - 1)))) := Lib.hid ((Mod.of_bel (F := fun x => x = b) GB3.out).trans M2 (fun _ h => Or.inl h))
                have HJ6 : Hid (J es F (((w3.setCell ⟨b, m * 5 + 4, none⟩ (.string X)).setCell ⟨b, m * 5 + 2, none⟩ (.int .i64 (gp + 1))).setCell ⟨b, m * 5 + 3, none⟩ (.int .i64 (gf - 1)))) := Lib.hid (HV.out.stay HJ.out M6.out.size (fun j hj => M6.out.block j (hltF.out j hj) (fun e => hsb.out (e ▸ hj))))
                have hcall := Lib.hid (HV.out.call es F (((w3.setCell ⟨b, m * 5 + 4, none⟩ (.string X)).setCell ⟨b, m * 5 + 2, none⟩ (.int .i64 (gp + 1))).setCell ⟨b, m * 5 + 3, none⟩ (.int .i64 (gf - 1))) ⟨xk, xi, X.toList, xn⟩ ⟨gl, gi, gp⟩ HJ6.out hfit (by rw [toL_len]; exact hXs) ⟨by have := Hg1.out; show 0 ≤ gl; omega, by have := Hg1.out; show gl ≤ 4000000; omega⟩ g2 hpx (by omega))
                rw [celV_str, sptV] at hcall
                have own6 := Lib.hid (own_set (own_set (own_set own3.out (b := b) (j := m * 5 + 4) rfl (.string X)) (b := b) (j := m * 5 + 2) rfl (.int .i64 (gp + 1))) (b := b) (j := m * 5 + 3) rfl (.int .i64 (gf - 1)))
                have hset : Hid ((((encS (⟨⟨gl, gi, gp⟩, gf, K.toList⟩ :: r)).set (m * 5 + 4) (.string X)).set (m * 5 + 2) (.int .i64 (gp + 1))).set (m * 5 + 3) (.int .i64 (gf - 1)) = encS (⟨⟨gl, gi, gp + 1⟩, gf - 1, X.toList⟩ :: r)) := Lib.hid (by
                  rw [← Hm.out, enc_set3]
                  show _ = encS r ++ encG _
                  simp only [encG, List.set_cons_zero, List.set_cons_succ, str_back])
                rw [hset.out] at own6
                have hadv : Hid (advG ⟨⟨gl, gi, gp⟩, gf, K.toList⟩ ⟨xk, xi, X.toList, xn⟩ = ⟨⟨gl, gi, gp + 1⟩, gf - 1, X.toList⟩) := Lib.hid (by unfold advG; simp only [HKB.out, if_true])
                have hgood := Lib.hid (run_good (N := N) (st := r) (l := l.drop (k + 1)) (by show (!properC _ || decide (N < xn) || (isKeyS _ && !takesG _ _)) = false; rw [Hpc.out, HHN.out, HKB.out, HTB.out]; rfl : badC N ⟨⟨gl, gi, gp⟩, gf, K.toList⟩ ⟨xk, xi, X.toList, xn⟩ = false))
                have n1 : ¬ F wr.heap.size := fun h => Nat.lt_irrefl _ (hltF.out _ h)
                have n2 : ¬ F w1.heap.size := fun h => by have := hltF.out _ h; have := hw1.out; omega
                have Hn1 := Lib.hid n1
                have Hn2 := Lib.hid n2
                have hszW : Hid (w3.heap.size ≤ (((w3.setCell ⟨b, m * 5 + 4, none⟩ (.string X)).setCell ⟨b, m * 5 + 2, none⟩ (.int .i64 (gp + 1))).setCell ⟨b, m * 5 + 3, none⟩ (.int .i64 (gf - 1))).heap.size) := Lib.hid M2.size
                have HISG := Lib.hid (isGroup_any xk xi xn X)
                clear M2 n1 n2 nb1 nb2
                have hent := HV.out.enters
                go_wp2_with fail
                refine hcall.out.mono ?_
                rintro e w7 ⟨rfl, F7, j7, m7, f7⟩
                replace r1 := m7.cell r1 Hn1.out
                replace r2 := m7.cell r2 Hn1.out
                replace r3 := m7.cell r3 Hn1.out
                replace r4 := m7.cell r4 Hn1.out
                replace t0 := m7.cell t0 Hn2.out
                have own7 := Lib.hid (own_kept own6.out m7 (fun x hx => by simp only [Value.ownBlock, Option.some.injEq] at hx; subst hx; exact hsb.out))
                have HJ7 := Lib.hid j7
                have HM7 : Hid (Mod F0 w w7) := Lib.hid (((HM.out.trans M6.out (fun x hx => Or.inr (by rw [show x = b from hx]; exact hbb))).trans m7 HF.out))
                have HF7 : Hid (∀ j, F7 j → F0 j ∨ w.heap.size ≤ j) := Lib.hid fun j hj => by
                  rcases f7 j hj with h | h
                  · exact HF.out j h
                  · exact Or.inr (by have h1 := HM.out.size; have h2 := M6.out.size; omega)
                have HS7 : Hid (∀ b1 off, some (⟨b, 0, none⟩ : Addr) = some ⟨b1, off, none⟩ → ¬ F7 b1) := Lib.hid fun b1 off hx hj => by
                  simp only [Option.some.injEq, Addr.mk.injEq] at hx
                  obtain ⟨rfl, -⟩ := hx
                  rcases f7 b hj with h | h
                  · exact hsb.out h
                  · have h2 := M6.out.size
                    have := Hbl.out
                    omega
                have Hlen7 : Hid (es.length + 1 + (m + 1) ≤ es0.length + 2 * (k + 1)) := Lib.hid (by omega)
                clear e0 e1 e2 e3 e4 q1 q2 q3 q4 s0 s1 s2 m7 j7 f7 hcall HJ6 own6 hset HJ HO HS HM HF hsb hltF t1 t2 hent own3
                go_wp2_with fail
                refine (HISG.out _).mono ?_
                rintro e w8 ⟨rfl, G8⟩
                have HJ8 := Lib.hid (HV.out.stay HJ7.out G8.size (fun j hj => G8.block j (HV.out.lt HJ7.out j hj)))
                have own8 := Lib.hid (own_belz own7.out G8)
                have hszb : Hid (b < w8.heap.size) := Lib.hid (own8.out.lt b rfl).2
                have HM8 : Hid (Mod F0 w w8) := Lib.hid (HM7.out.trans (Mod.of_bel (F := F0) G8) (fun _ h => Or.inl h))
                have hgr : Hid (isGrp ⟨xk, xi, X.toList, xn⟩ = false) := Lib.hid hgrp
                rw [hgrp]
                have hpush : Hid (pushG ⟨⟨gl, gi, gp⟩, gf, K.toList⟩ ⟨xk, xi, X.toList, xn⟩ r = ⟨⟨gl, gi, gp + 1⟩, gf - 1, X.toList⟩ :: r) := Lib.hid (by unfold pushG; rw [hgrp, hadv.out]; rfl)
                have hgb : Hid (∀ g ∈ (⟨⟨gl, gi, gp + 1⟩, gf - 1, X.toList⟩ :: r : List Grp), GB (k + 1) g) := Lib.hid fun g hg => by
                  rcases List.mem_cons.1 hg with rfl | hg
                  · rw [← hadv.out]
                    exact HGb.out.adv (by show X.toList.length ≤ _; rw [toL_len]; exact hXs)
                  · exact (HG.out g (List.mem_cons_of_mem _ hg)).up
                obtain ⟨S, hS⟩ : ∃ S, (⟨⟨gl, gi, gp + 1⟩, gf - 1, X.toList⟩ :: r : List Grp) = S := ⟨_, rfl⟩
                have hSl : S.length = m + 1 := by rw [← hS, List.length_cons, Hm.out]
                rw [hS] at own8 hpush hgb
                clear hS hadv
                have hcl := Lib.hid (closed_any HV.out S (es ++ [((⟨xk, xi, X.toList, xn⟩ : Cel), (⟨gl, gi, gp⟩ : Spt))]) F7 (some ⟨b, 0, none⟩) (m + 1) c' w.heap.size w8 HJ8.out (by have := own8.out; simpa [Hm.out] using this) HS7.out (fun g hg => (hgb.out g hg).ok (by omega)) (by rw [List.length_append, hSl]; have := Hlen7.out; simp; omega))
                clear r1 r2 r3 r4 t0 G8 own8 own7 HJ7 HM7 HJ8
                go_wp2_with fail
                refine hcl.out.mono ?_
                rintro e w9 ⟨rfl, F9, j9, o9, m9, f9⟩
                have HJ9 := Lib.hid j9
                have HO9 := Lib.hid o9
                have HM9 : Hid (Mod F0 w w9) := Lib.hid (HM8.out.trans m9 HF7.out)
                have HF9 : Hid (∀ j, F9 j → F0 j ∨ w.heap.size ≤ j) := Lib.hid fun j hj => by
                  rcases f9 j hj with h | h
                  · exact HF7.out j h
                  · exact Or.inr (by have h1 := HM8.out.size; omega)
                have HS9 : Hid (∀ b1 off, some (⟨b, 0, none⟩ : Addr) = some ⟨b1, off, none⟩ → ¬ F9 b1) := Lib.hid fun b1 off hx hj => by
                  have hx2 := hx
                  simp only [Option.some.injEq, Addr.mk.injEq] at hx
                  obtain ⟨rfl, -⟩ := hx
                  rcases f9 b hj with h | h
                  · exact HS7.out b off hx2 h
                  · have h3 := hszb.out
                    omega
                have hrun9 : Hid ((run N (closedG S) (l.drop (k + 1))).1 = R.1 ∧ es ++ [((⟨xk, xi, X.toList, xn⟩ : Cel), (⟨gl, gi, gp⟩ : Spt))] ++ closedE S ++ (run N (closedG S) (l.drop (k + 1))).2 = es0 ++ R.2) := Lib.hid (by
                  have h1 := Hrun.out
                  rw [hgood.out.1, hgood.out.2, hpush.out] at h1
                  exact ⟨h1.1, by rw [← h1.2]; simp⟩)
                have HG9 : Hid (∀ g ∈ closedG S, GB (k + 1) g) := Lib.hid fun g hg => hgb.out g (closed_mem hg)
                have hsum9 : (es ++ [((⟨xk, xi, X.toList, xn⟩ : Cel), (⟨gl, gi, gp⟩ : Spt))] ++ closedE S).length + (closedG S).length ≤ es0.length + 2 * (k + 1) + 1 := by
                  have h1 := closed_sum S
                  have h2 := Hlen7.out
                  simp only [List.length_append, List.length_cons, List.length_nil]
                  omega
                clear j9 o9 m9 f9 hcl HM8
                go_wp2
                go_round
                case rel => exact ⟨k + 1, closedG S, _, F9, _, c', by go_num, rfl, by omega, hrun9, HJ9, HO9, HM9, HF9, HS9, HG9, hsum9⟩
                case measure => simp [intOf]; omega
            | false =>
              have fz2 := own_frozen own2.out (m * 5 + 2) rfl
              have fz3 := own_frozen own2.out (m * 5 + 3) rfl
              cases hgrp : isGrp ⟨xk, xi, X.toList, xn⟩ with
              | true =>
                have M2 : Mod (fun x => x = b) w2 ((w2.setCell ⟨b, m * 5 + 2, none⟩ (.int .i64 (gp + 1))).setCell ⟨b, m * 5 + 3, none⟩ (.int .i64 (gf - 1))) := ((Mod.refl (fun x => x = b) w2).setCell (Or.inl rfl) _).setCell (Or.inl rfl) _
                have nb1 : ¬ wr.heap.size = b := by have := Hbl.out; omega
                have nb2 : ¬ w1.heap.size = b := by have := Hbl.out; have := hw1.out; omega
                have r1 := M2.cell q1 nb1
                have r2 := M2.cell q2 nb1
                have r3 := M2.cell q3 nb1
                have r4 := M2.cell q4 nb1
                have t0 := M2.cell s0 nb2
                have t1 := M2.cell s1 nb2
                have t2 := M2.cell s2 nb2
                have M6 : Hid (Mod (fun x => x = b) wr ((w2.setCell ⟨b, m * 5 + 2, none⟩ (.int .i64 (gp + 1))).setCell ⟨b, m * 5 + 3, none⟩ (.int .i64 (gf - 1)))) := Lib.hid ((Mod.of_bel (F := fun x => x = b) GB2.out).trans M2 (fun _ h => Or.inl h))
                have HJ6 : Hid (J es F ((w2.setCell ⟨b, m * 5 + 2, none⟩ (.int .i64 (gp + 1))).setCell ⟨b, m * 5 + 3, none⟩ (.int .i64 (gf - 1)))) := Lib.hid (HV.out.stay HJ.out M6.out.size (fun j hj => M6.out.block j (hltF.out j hj) (fun e => hsb.out (e ▸ hj))))
                have hcall := Lib.hid (HV.out.call es F ((w2.setCell ⟨b, m * 5 + 2, none⟩ (.int .i64 (gp + 1))).setCell ⟨b, m * 5 + 3, none⟩ (.int .i64 (gf - 1))) ⟨xk, xi, X.toList, xn⟩ ⟨gl, gi, gp⟩ HJ6.out hfit (by rw [toL_len]; exact hXs) ⟨by have := Hg1.out; show 0 ≤ gl; omega, by have := Hg1.out; show gl ≤ 4000000; omega⟩ g2 hpx (by omega))
                rw [celV_str, sptV] at hcall
                have own6 := Lib.hid (own_set (own_set own2.out (b := b) (j := m * 5 + 2) rfl (.int .i64 (gp + 1))) (b := b) (j := m * 5 + 3) rfl (.int .i64 (gf - 1)))
                have hset : Hid (((encS (⟨⟨gl, gi, gp⟩, gf, K.toList⟩ :: r)).set (m * 5 + 2) (.int .i64 (gp + 1))).set (m * 5 + 3) (.int .i64 (gf - 1)) = encS (⟨⟨gl, gi, gp + 1⟩, gf - 1, K.toList⟩ :: r)) := Lib.hid (by
                  rw [← Hm.out, enc_set2]
                  show _ = encS r ++ encG _
                  simp only [encG, List.set_cons_zero, List.set_cons_succ])
                rw [hset.out] at own6
                have hadv : Hid (advG ⟨⟨gl, gi, gp⟩, gf, K.toList⟩ ⟨xk, xi, X.toList, xn⟩ = ⟨⟨gl, gi, gp + 1⟩, gf - 1, K.toList⟩) := Lib.hid (by unfold advG; simp only [HKB.out]; rfl)
                have hgood := Lib.hid (run_good (N := N) (st := r) (l := l.drop (k + 1)) (by show (!properC _ || decide (N < xn) || (isKeyS _ && !takesG _ _)) = false; rw [Hpc.out, HHN.out, HKB.out]; rfl : badC N ⟨⟨gl, gi, gp⟩, gf, K.toList⟩ ⟨xk, xi, X.toList, xn⟩ = false))
                have n1 : ¬ F wr.heap.size := fun h => Nat.lt_irrefl _ (hltF.out _ h)
                have n2 : ¬ F w1.heap.size := fun h => by have := hltF.out _ h; have := hw1.out; omega
                have Hn1 := Lib.hid n1
                have Hn2 := Lib.hid n2
                have hszW : Hid (w2.heap.size ≤ ((w2.setCell ⟨b, m * 5 + 2, none⟩ (.int .i64 (gp + 1))).setCell ⟨b, m * 5 + 3, none⟩ (.int .i64 (gf - 1))).heap.size) := Lib.hid M2.size
                have HISG := Lib.hid (isGroup_any xk xi xn X)
                clear M2 n1 n2 nb1 nb2
                have hent := HV.out.enters
                go_wp2_with fail
                refine hcall.out.mono ?_
                rintro e w7 ⟨rfl, F7, j7, m7, f7⟩
                replace r1 := m7.cell r1 Hn1.out
                replace r2 := m7.cell r2 Hn1.out
                replace r3 := m7.cell r3 Hn1.out
                replace r4 := m7.cell r4 Hn1.out
                replace t0 := m7.cell t0 Hn2.out
                have own7 := Lib.hid (own_kept own6.out m7 (fun x hx => by simp only [Value.ownBlock, Option.some.injEq] at hx; subst hx; exact hsb.out))
                have HJ7 := Lib.hid j7
                have HM7 : Hid (Mod F0 w w7) := Lib.hid (((HM.out.trans M6.out (fun x hx => Or.inr (by rw [show x = b from hx]; exact hbb))).trans m7 HF.out))
                have HF7 : Hid (∀ j, F7 j → F0 j ∨ w.heap.size ≤ j) := Lib.hid fun j hj => by
                  rcases f7 j hj with h | h
                  · exact HF.out j h
                  · exact Or.inr (by have h1 := HM.out.size; have h2 := M6.out.size; omega)
                have HS7 : Hid (∀ b1 off, some (⟨b, 0, none⟩ : Addr) = some ⟨b1, off, none⟩ → ¬ F7 b1) := Lib.hid fun b1 off hx hj => by
                  simp only [Option.some.injEq, Addr.mk.injEq] at hx
                  obtain ⟨rfl, -⟩ := hx
                  rcases f7 b hj with h | h
                  · exact hsb.out h
                  · have h2 := M6.out.size
                    have := Hbl.out
                    omega
                have Hlen7 : Hid (es.length + 1 + (m + 1) ≤ es0.length + 2 * (k + 1)) := Lib.hid (by omega)
                clear e0 e1 e2 e3 e4 q1 q2 q3 q4 s0 s1 s2 m7 j7 f7 hcall HJ6 own6 hset own2 HJ HO HS HM HF hsb hltF t1 t2 hent 
                go_wp2_with fail
                refine (HISG.out _).mono ?_
                rintro e w8 ⟨rfl, G8⟩
                have GRG := Lib.hid hgrp
                replace r1 := G8.cell' r1
                replace r2 := G8.cell' r2
                replace r3 := G8.cell' r3
                replace r4 := G8.cell' r4
                replace t0 := G8.cell' t0
                have own8 : Hid (w8.ownsRow w.heap.size 83 5 (.slice (some ⟨b, 0, none⟩) (m + 1) c') (m + 1) (encS (⟨⟨gl, gi, gp + 1⟩, gf - 1, K.toList⟩ :: r))) := Lib.hid (by have := own_belz own7.out G8; simpa only [List.length_cons, Hm.out] using this)
                have hszb : Hid (b < w8.heap.size) := Lib.hid (own8.out.lt b rfl).2
                have HM8 : Hid (Mod F0 w w8) := Lib.hid (HM7.out.trans (Mod.of_bel (F := F0) G8) (fun _ h => Or.inl h))
                have HJ8 := Lib.hid (HV.out.stay HJ7.out G8.size (fun j hj => G8.block j (HV.out.lt HJ7.out j hj)))
                have hlt8 : Hid (∀ j, F7 j → j < w8.heap.size) := Lib.hid (HV.out.lt HJ8.out)
                have hnb : 0 ≤ xn ∧ xn ≤ 1000000 := ⟨grp_pos Hpc.out hgrp, by omega⟩
                have HPT := Lib.hid (parts_any xk xi xn X (by omega))
                have hpb := partsC_bd ⟨xk, xi, X.toList, xn⟩ hnb
                obtain ⟨PC, hPC⟩ : ∃ PC, partsC ⟨xk, xi, X.toList, xn⟩ = PC := ⟨_, rfl⟩
                rw [hPC] at HPT hpb
                have HPC := Lib.hid hPC
                have uw : IntKind.i64.wrap (gl + 1) = gl + 1 := by rw [IntKind.wrap_i64]; have := Hg1.out; omega
                rw [hgrp]
                have hpush : Hid (pushG ⟨⟨gl, gi, gp⟩, gf, K.toList⟩ ⟨xk, xi, X.toList, xn⟩ r = ⟨⟨gl + 1, xk, 0⟩, PC, []⟩ :: ⟨⟨gl, gi, gp + 1⟩, gf - 1, K.toList⟩ :: r) := Lib.hid (by unfold pushG; rw [hgrp, hadv.out]; show newG _ _ :: _ = _; unfold newG; rw [hPC])
                have hgb : Hid (∀ g ∈ (⟨⟨gl + 1, xk, 0⟩, PC, []⟩ :: ⟨⟨gl, gi, gp + 1⟩, gf - 1, K.toList⟩ :: r : List Grp), GB (k + 1) g) := Lib.hid fun g hg => by
                  rcases List.mem_cons.1 hg with rfl | hg
                  · have := HGb.out.new Hpc.out hgrp hnb.2
                    unfold newG at this
                    rw [hPC] at this
                    exact this
                  · rcases List.mem_cons.1 hg with rfl | hg
                    · rw [← hadv.out]
                      exact HGb.out.adv (by show X.toList.length ≤ _; rw [toL_len]; exact hXs)
                    · exact (HG.out g (List.mem_cons_of_mem _ hg)).up
                obtain ⟨S, hS⟩ : ∃ S, (⟨⟨gl + 1, xk, 0⟩, PC, []⟩ :: ⟨⟨gl, gi, gp + 1⟩, gf - 1, K.toList⟩ :: r : List Grp) = S := ⟨_, rfl⟩
                have hSl : S.length = m + 2 := by rw [← hS, List.length_cons, List.length_cons, Hm.out]
                have HSe : Hid (encS S = encS (⟨⟨gl, gi, gp + 1⟩, gf - 1, K.toList⟩ :: r) ++ [.int .i64 (gl + 1), .int .i64 xk, .int .i64 0, .int .i64 PC, .string ⟨#[]⟩]) := Lib.hid (by rw [← hS]; rfl)
                rw [hS] at hpush hgb
                have HSL := Lib.hid hSl
                have Hnb := Lib.hid hnb
                have Huw := Lib.hid hpb
                have Hg8 := Lib.hid (⟨G8.size, ⟨⟨r1, r2, r3, r4⟩, t0⟩⟩ : w7.heap.size ≤ w8.heap.size ∧ (_ ∧ _ ∧ _ ∧ _) ∧ _)
                have hkeep : Hid (∀ W, Bel w8 W → (W.cell? ⟨wr.heap.size, 0, none⟩ = some (.int .i64 xk) ∧ W.cell? ⟨wr.heap.size, 1, none⟩ = some (.int .i64 xi) ∧ W.cell? ⟨wr.heap.size, 2, none⟩ = some (.string X) ∧ W.cell? ⟨wr.heap.size, 3, none⟩ = some (.int .i64 xn)) ∧ W.cell? ⟨w1.heap.size, 0, none⟩ = some (.int .i64 gl) ∧ Mod (fun x => x = b) w8 W) := Lib.hid fun W hW => ⟨⟨hW.cell' r1, hW.cell' r2, hW.cell' r3, hW.cell' r4⟩, hW.cell' t0, Mod.of_bel hW⟩
                have hkeepM : Hid (∀ W W', Bel w8 W → W.grownBy W' (some b) → (W'.cell? ⟨wr.heap.size, 0, none⟩ = some (.int .i64 xk) ∧ W'.cell? ⟨wr.heap.size, 1, none⟩ = some (.int .i64 xi) ∧ W'.cell? ⟨wr.heap.size, 2, none⟩ = some (.string X) ∧ W'.cell? ⟨wr.heap.size, 3, none⟩ = some (.int .i64 xn)) ∧ W'.cell? ⟨w1.heap.size, 0, none⟩ = some (.int .i64 gl) ∧ Mod (fun x => x = b) w8 W') := Lib.hid fun W W' hW hg => by
                  have M : Mod (fun x => x = b) w8 W' := (Mod.of_bel (F := fun x => x = b) hW).trans (Mod.grown (F := fun x => x = b) hg (fun i hi => by simp only [Option.some.injEq] at hi; exact hi.symm)) (fun _ h => Or.inl h)
                  have nb1 : ¬ wr.heap.size = b := by have := Hbl.out; omega
                  have nb2 : ¬ w1.heap.size = b := by have := Hbl.out; have := hw1.out; omega
                  exact ⟨⟨M.cell r1 nb1, M.cell r2 nb1, M.cell r3 nb1, M.cell r4 nb1⟩, M.cell t0 nb2, M⟩
                have hownB : Hid (∀ W, Bel w8 W → W.ownsRow w.heap.size 83 5 (.slice (some ⟨b, 0, none⟩) (m + 1) c') (m + 1) (encS (⟨⟨gl, gi, gp + 1⟩, gf - 1, K.toList⟩ :: r))) := Lib.hid fun W hW => own_belz own8.out hW
                have hbase8 : Hid (∀ W, Bel w8 W → w.heap.size ≤ W.heap.size) := Lib.hid fun W hW => Nat.le_trans HM8.out.size hW.size
                obtain ⟨i0, hi0, hz0, hz1, hz2⟩ := info_parts info_grp
                have Hi0 := Lib.hid hi0
                have Hz0 := Lib.hid hz0
                have Hz1 := Lib.hid hz1
                have Hz2 := Lib.hid hz2
                have hml : m + 1 + 1 ≤ maxLen := by unfold maxLen; omega
                have hml2 : (m + 1 + 1) * 48 ≤ 140737488355328 := by omega
                have Hml := Lib.hid hml
                have Hml2 := Lib.hid hml2
                have hnw : Hid (∀ W : World, W.heap[w8.heap.size + 1]? = some (.cells #[.int .i64 (gl + 1), .int .i64 xk, .int .i64 0, .int .i64 PC, .string ⟨#[]⟩] 83) → ∀ j u, [.int .i64 (gl + 1), .int .i64 xk, .int .i64 0, .int .i64 PC, .string ⟨#[]⟩][j]? = some u → W.cell? ((⟨w8.heap.size + 1, 0, none⟩ : Addr).add j) = some u) := Lib.hid fun W hW => World.news_of_block (cs := #[.int .i64 (gl + 1), .int .i64 xk, .int .i64 0, .int .i64 PC, .string ⟨#[]⟩]) (t := 83) (fr := (0, 0)) hW
                have hpl : Hid (((w8.alloc (.cells #[.int .i64 xk, .int .i64 xi, .string X, .int .i64 xn] 43)).alloc (.cells #[.int .i64 (gl + 1), .int .i64 xk, .int .i64 0, .int .i64 PC, .string ⟨#[]⟩] 83)).heap[w8.heap.size + 1]? = some (.cells #[.int .i64 (gl + 1), .int .i64 xk, .int .i64 0, .int .i64 PC, .string ⟨#[]⟩] 83)) := Lib.hid (by have := heap_alloc_new (w8.alloc (.cells #[.int .i64 xk, .int .i64 xi, .string X, .int .i64 xn] 43)) (.cells #[.int .i64 (gl + 1), .int .i64 xk, .int .i64 0, .int .i64 PC, .string ⟨#[]⟩] 83); simpa using this)
                have GL := Lib.hid G8
                clear hS hadv hi0 hz0 hz1 hz2 hPC hnb own7 HJ7 HM7 G8 hml hml2
                go_upto_region 17 with (fail)
                go_region_held3 (fun w' => (w'.cell? ⟨wr.heap.size, 0, none⟩ = some (.int .i64 xk) ∧ w'.cell? ⟨wr.heap.size, 1, none⟩ = some (.int .i64 xi) ∧ w'.cell? ⟨wr.heap.size, 2, none⟩ = some (.string X) ∧ w'.cell? ⟨wr.heap.size, 3, none⟩ = some (.int .i64 xn)) ∧ w'.cell? ⟨w1.heap.size, 0, none⟩ = some (.int .i64 gl) ∧ Mod (fun x => x = b) w8 w') (first | (refine hkeep.out _ ?_; ((repeat (first | exact Bel.refl _ | refine Below.drew ?_ | refine Bel.alloc ?_ _)); done)) | (refine hkeepM.out _ _ ?_ hgrow; ((repeat (first | exact Bel.refl _ | refine Below.drew ?_ | refine Bel.alloc ?_ _)); done))) (first | (go_at_call 68; (with_reducible refine (HPT.out _).mono ?_); rintro e w' ⟨rfl, rfl⟩) | (refine step_append_lies _ (by rfl) _ _ _ (by rfl) w.heap.size 83 i0 _ 5 48 elem_grp Hi0.out Hz0.out Hz1.out Hz2.out rfl (by omega) _ _ _ (by rfl) (hownB.out _ (by repeat (first | exact Bel.refl _ | refine Below.drew ?_ | refine Bel.alloc ?_ _))) ⟨w8.heap.size + 1, 0, none⟩ 1 1 [.int .i64 (gl + 1), .int .i64 xk, .int .i64 0, .int .i64 PC, .string ⟨#[]⟩] (by rfl) (by rfl) (hnw.out _ hpl.out) (by simp [Value.oneCell']) (by omega) Hml.out Hml2.out (hbase8.out _ (by repeat (first | exact Bel.refl _ | refine Below.drew ?_ | refine Bel.alloc ?_ _))) _ rfl ?_; intro gg cap w10 hown1 hgrow hat hlt))
                obtain ⟨_, _, M10⟩ := ‹(_ ∧ _ ∧ _ ∧ _) ∧ _ ∧ Mod (fun x => x = b) w8 w10›
                have Hgg : Hid (gg = b ∨ w8.heap.size ≤ gg) := Lib.hid (by
                  rcases hat with h | h
                  · left
                    simp only [Value.ownBlock, Option.some.injEq] at h
                    exact h.symm
                  · right
                    rw [h]
                    exact (Below.drew (Bel.alloc (Bel.alloc (Bel.refl w8) _) _)).size)
                have hb7 : Hid (¬ F7 b) := Lib.hid (HS7.out b 0 rfl)
                have HJ10 := Lib.hid (HV.out.stay HJ8.out M10.size (fun j hj => M10.block j (hlt8.out j hj) (fun e => hb7.out (e ▸ hj))))
                have HM10 : Hid (Mod F0 w w10) := Lib.hid (HM8.out.trans M10 (fun x hx => Or.inr (by rw [show x = b from hx]; exact hbb)))
                have own10 : Hid (w10.ownsRow w.heap.size 83 5 (.slice (some ⟨gg, 0, none⟩) (m + 1 + 1) cap) (m + 1 + 1) (encS S)) := Lib.hid (by rw [HSe.out]; exact hown1)
                have HS10 : Hid (∀ b1 off, some (⟨gg, 0, none⟩ : Addr) = some ⟨b1, off, none⟩ → ¬ F7 b1) := Lib.hid fun b1 off hx hj => by
                  simp only [Option.some.injEq, Addr.mk.injEq] at hx
                  obtain ⟨rfl, -⟩ := hx
                  rcases Hgg.out with h | h
                  · exact hb7.out (h ▸ hj)
                  · have := hlt8.out _ hj
                    omega
                have Hlt10 := Lib.hid hlt
                have HlenT : Hid (es.length + 1 + (m + 2) ≤ es0.length + 2 * (k + 1) + 1) := Lib.hid (by have := Hlen7.out; omega)
                have hcl := Lib.hid (closed_any HV.out S (es ++ [((⟨xk, xi, X.toList, xn⟩ : Cel), (⟨gl, gi, gp⟩ : Spt))]) F7 (some ⟨gg, 0, none⟩) (m + 1 + 1) cap w.heap.size w10 HJ10.out own10.out HS10.out (fun g hg => (hgb.out g hg).ok (by omega)) (by rw [List.length_append, HSL.out]; have := HlenT.out; simp; omega))
                clear r1 r2 r3 r4 t0 own8 own10 HJ10 HJ8 M10 hown1 hgrow hat hlt HM8 hownB hkeep hkeepM hbase8 hnw hpl uw hSl GL Hg8
                go_wp2_with fail
                refine hcl.out.mono ?_
                rintro e w9 ⟨rfl, F9, j9, o9, m9, f9⟩
                have HJ9 := Lib.hid j9
                have HO9 := Lib.hid o9
                have HM9 : Hid (Mod F0 w w9) := Lib.hid (HM10.out.trans m9 HF7.out)
                have HF9 : Hid (∀ j, F9 j → F0 j ∨ w.heap.size ≤ j) := Lib.hid fun j hj => by
                  rcases f9 j hj with h | h
                  · exact HF7.out j h
                  · exact Or.inr (by have h1 := HM10.out.size; omega)
                have HS9 : Hid (∀ b1 off, some (⟨gg, 0, none⟩ : Addr) = some ⟨b1, off, none⟩ → ¬ F9 b1) := Lib.hid fun b1 off hx hj => by
                  have hx2 := hx
                  simp only [Option.some.injEq, Addr.mk.injEq] at hx
                  obtain ⟨rfl, -⟩ := hx
                  rcases f9 _ hj with h | h
                  · exact HS10.out _ off hx2 h
                  · have h3 := Hlt10.out
                    omega
                have hrun9 : Hid ((run N (closedG S) (l.drop (k + 1))).1 = R.1 ∧ es ++ [((⟨xk, xi, X.toList, xn⟩ : Cel), (⟨gl, gi, gp⟩ : Spt))] ++ closedE S ++ (run N (closedG S) (l.drop (k + 1))).2 = es0 ++ R.2) := Lib.hid (by
                  have h1 := Hrun.out
                  rw [hgood.out.1, hgood.out.2, hpush.out] at h1
                  exact ⟨h1.1, by rw [← h1.2]; simp⟩)
                have HG9 : Hid (∀ g ∈ closedG S, GB (k + 1) g) := Lib.hid fun g hg => hgb.out g (closed_mem hg)
                have hsum9 : (es ++ [((⟨xk, xi, X.toList, xn⟩ : Cel), (⟨gl, gi, gp⟩ : Spt))] ++ closedE S).length + (closedG S).length ≤ es0.length + 2 * (k + 1) + 1 := by
                  have h1 := closed_sum S
                  have h2 := HlenT.out
                  have h3 := HSL.out
                  simp only [List.length_append, List.length_cons, List.length_nil]
                  omega
                clear j9 o9 m9 f9 hcl HM10
                go_wp2
                go_round
                case rel => exact ⟨k + 1, closedG S, _, F9, _, cap, by go_num, rfl, by omega, hrun9, HJ9, HO9, HM9, HF9, HS9, HG9, hsum9⟩
                case measure => simp [intOf]; omega
              | false =>
                have M2 : Mod (fun x => x = b) w2 ((w2.setCell ⟨b, m * 5 + 2, none⟩ (.int .i64 (gp + 1))).setCell ⟨b, m * 5 + 3, none⟩ (.int .i64 (gf - 1))) := ((Mod.refl (fun x => x = b) w2).setCell (Or.inl rfl) _).setCell (Or.inl rfl) _
                have nb1 : ¬ wr.heap.size = b := by have := Hbl.out; omega
                have nb2 : ¬ w1.heap.size = b := by have := Hbl.out; have := hw1.out; omega
                have r1 := M2.cell q1 nb1
                have r2 := M2.cell q2 nb1
                have r3 := M2.cell q3 nb1
                have r4 := M2.cell q4 nb1
                have t0 := M2.cell s0 nb2
                have t1 := M2.cell s1 nb2
                have t2 := M2.cell s2 nb2
                have M6 : Hid (Mod (fun x => x = b) wr ((w2.setCell ⟨b, m * 5 + 2, none⟩ (.int .i64 (gp + 1))).setCell ⟨b, m * 5 + 3, none⟩ (.int .i64 (gf - 1)))) := Lib.hid ((Mod.of_bel (F := fun x => x = b) GB2.out).trans M2 (fun _ h => Or.inl h))
                have HJ6 : Hid (J es F ((w2.setCell ⟨b, m * 5 + 2, none⟩ (.int .i64 (gp + 1))).setCell ⟨b, m * 5 + 3, none⟩ (.int .i64 (gf - 1)))) := Lib.hid (HV.out.stay HJ.out M6.out.size (fun j hj => M6.out.block j (hltF.out j hj) (fun e => hsb.out (e ▸ hj))))
                have hcall := Lib.hid (HV.out.call es F ((w2.setCell ⟨b, m * 5 + 2, none⟩ (.int .i64 (gp + 1))).setCell ⟨b, m * 5 + 3, none⟩ (.int .i64 (gf - 1))) ⟨xk, xi, X.toList, xn⟩ ⟨gl, gi, gp⟩ HJ6.out hfit (by rw [toL_len]; exact hXs) ⟨by have := Hg1.out; show 0 ≤ gl; omega, by have := Hg1.out; show gl ≤ 4000000; omega⟩ g2 hpx (by omega))
                rw [celV_str, sptV] at hcall
                have own6 := Lib.hid (own_set (own_set own2.out (b := b) (j := m * 5 + 2) rfl (.int .i64 (gp + 1))) (b := b) (j := m * 5 + 3) rfl (.int .i64 (gf - 1)))
                have hset : Hid (((encS (⟨⟨gl, gi, gp⟩, gf, K.toList⟩ :: r)).set (m * 5 + 2) (.int .i64 (gp + 1))).set (m * 5 + 3) (.int .i64 (gf - 1)) = encS (⟨⟨gl, gi, gp + 1⟩, gf - 1, K.toList⟩ :: r)) := Lib.hid (by
                  rw [← Hm.out, enc_set2]
                  show _ = encS r ++ encG _
                  simp only [encG, List.set_cons_zero, List.set_cons_succ])
                rw [hset.out] at own6
                have hadv : Hid (advG ⟨⟨gl, gi, gp⟩, gf, K.toList⟩ ⟨xk, xi, X.toList, xn⟩ = ⟨⟨gl, gi, gp + 1⟩, gf - 1, K.toList⟩) := Lib.hid (by unfold advG; simp only [HKB.out]; rfl)
                have hgood := Lib.hid (run_good (N := N) (st := r) (l := l.drop (k + 1)) (by show (!properC _ || decide (N < xn) || (isKeyS _ && !takesG _ _)) = false; rw [Hpc.out, HHN.out, HKB.out]; rfl : badC N ⟨⟨gl, gi, gp⟩, gf, K.toList⟩ ⟨xk, xi, X.toList, xn⟩ = false))
                have n1 : ¬ F wr.heap.size := fun h => Nat.lt_irrefl _ (hltF.out _ h)
                have n2 : ¬ F w1.heap.size := fun h => by have := hltF.out _ h; have := hw1.out; omega
                have Hn1 := Lib.hid n1
                have Hn2 := Lib.hid n2
                have hszW : Hid (w2.heap.size ≤ ((w2.setCell ⟨b, m * 5 + 2, none⟩ (.int .i64 (gp + 1))).setCell ⟨b, m * 5 + 3, none⟩ (.int .i64 (gf - 1))).heap.size) := Lib.hid M2.size
                have HISG := Lib.hid (isGroup_any xk xi xn X)
                clear M2 n1 n2 nb1 nb2
                have hent := HV.out.enters
                go_wp2_with fail
                refine hcall.out.mono ?_
                rintro e w7 ⟨rfl, F7, j7, m7, f7⟩
                replace r1 := m7.cell r1 Hn1.out
                replace r2 := m7.cell r2 Hn1.out
                replace r3 := m7.cell r3 Hn1.out
                replace r4 := m7.cell r4 Hn1.out
                replace t0 := m7.cell t0 Hn2.out
                have own7 := Lib.hid (own_kept own6.out m7 (fun x hx => by simp only [Value.ownBlock, Option.some.injEq] at hx; subst hx; exact hsb.out))
                have HJ7 := Lib.hid j7
                have HM7 : Hid (Mod F0 w w7) := Lib.hid (((HM.out.trans M6.out (fun x hx => Or.inr (by rw [show x = b from hx]; exact hbb))).trans m7 HF.out))
                have HF7 : Hid (∀ j, F7 j → F0 j ∨ w.heap.size ≤ j) := Lib.hid fun j hj => by
                  rcases f7 j hj with h | h
                  · exact HF.out j h
                  · exact Or.inr (by have h1 := HM.out.size; have h2 := M6.out.size; omega)
                have HS7 : Hid (∀ b1 off, some (⟨b, 0, none⟩ : Addr) = some ⟨b1, off, none⟩ → ¬ F7 b1) := Lib.hid fun b1 off hx hj => by
                  simp only [Option.some.injEq, Addr.mk.injEq] at hx
                  obtain ⟨rfl, -⟩ := hx
                  rcases f7 b hj with h | h
                  · exact hsb.out h
                  · have h2 := M6.out.size
                    have := Hbl.out
                    omega
                have Hlen7 : Hid (es.length + 1 + (m + 1) ≤ es0.length + 2 * (k + 1)) := Lib.hid (by omega)
                clear e0 e1 e2 e3 e4 q1 q2 q3 q4 s0 s1 s2 m7 j7 f7 hcall HJ6 own6 hset own2 HJ HO HS HM HF hsb hltF t1 t2 hent 
                go_wp2_with fail
                refine (HISG.out _).mono ?_
                rintro e w8 ⟨rfl, G8⟩
                have HJ8 := Lib.hid (HV.out.stay HJ7.out G8.size (fun j hj => G8.block j (HV.out.lt HJ7.out j hj)))
                have own8 := Lib.hid (own_belz own7.out G8)
                have hszb : Hid (b < w8.heap.size) := Lib.hid (own8.out.lt b rfl).2
                have HM8 : Hid (Mod F0 w w8) := Lib.hid (HM7.out.trans (Mod.of_bel (F := F0) G8) (fun _ h => Or.inl h))
                have hgr : Hid (isGrp ⟨xk, xi, X.toList, xn⟩ = false) := Lib.hid hgrp
                rw [hgrp]
                have hpush : Hid (pushG ⟨⟨gl, gi, gp⟩, gf, K.toList⟩ ⟨xk, xi, X.toList, xn⟩ r = ⟨⟨gl, gi, gp + 1⟩, gf - 1, K.toList⟩ :: r) := Lib.hid (by unfold pushG; rw [hgrp, hadv.out]; rfl)
                have hgb : Hid (∀ g ∈ (⟨⟨gl, gi, gp + 1⟩, gf - 1, K.toList⟩ :: r : List Grp), GB (k + 1) g) := Lib.hid fun g hg => by
                  rcases List.mem_cons.1 hg with rfl | hg
                  · rw [← hadv.out]
                    exact HGb.out.adv (by show X.toList.length ≤ _; rw [toL_len]; exact hXs)
                  · exact (HG.out g (List.mem_cons_of_mem _ hg)).up
                obtain ⟨S, hS⟩ : ∃ S, (⟨⟨gl, gi, gp + 1⟩, gf - 1, K.toList⟩ :: r : List Grp) = S := ⟨_, rfl⟩
                have hSl : S.length = m + 1 := by rw [← hS, List.length_cons, Hm.out]
                rw [hS] at own8 hpush hgb
                clear hS hadv
                have hcl := Lib.hid (closed_any HV.out S (es ++ [((⟨xk, xi, X.toList, xn⟩ : Cel), (⟨gl, gi, gp⟩ : Spt))]) F7 (some ⟨b, 0, none⟩) (m + 1) c' w.heap.size w8 HJ8.out (by have := own8.out; simpa [Hm.out] using this) HS7.out (fun g hg => (hgb.out g hg).ok (by omega)) (by rw [List.length_append, hSl]; have := Hlen7.out; simp; omega))
                clear r1 r2 r3 r4 t0 G8 own8 own7 HJ7 HM7 HJ8
                go_wp2_with fail
                refine hcl.out.mono ?_
                rintro e w9 ⟨rfl, F9, j9, o9, m9, f9⟩
                have HJ9 := Lib.hid j9
                have HO9 := Lib.hid o9
                have HM9 : Hid (Mod F0 w w9) := Lib.hid (HM8.out.trans m9 HF7.out)
                have HF9 : Hid (∀ j, F9 j → F0 j ∨ w.heap.size ≤ j) := Lib.hid fun j hj => by
                  rcases f9 j hj with h | h
                  · exact HF7.out j h
                  · exact Or.inr (by have h1 := HM8.out.size; omega)
                have HS9 : Hid (∀ b1 off, some (⟨b, 0, none⟩ : Addr) = some ⟨b1, off, none⟩ → ¬ F9 b1) := Lib.hid fun b1 off hx hj => by
                  have hx2 := hx
                  simp only [Option.some.injEq, Addr.mk.injEq] at hx
                  obtain ⟨rfl, -⟩ := hx
                  rcases f9 b hj with h | h
                  · exact HS7.out b off hx2 h
                  · have h3 := hszb.out
                    omega
                have hrun9 : Hid ((run N (closedG S) (l.drop (k + 1))).1 = R.1 ∧ es ++ [((⟨xk, xi, X.toList, xn⟩ : Cel), (⟨gl, gi, gp⟩ : Spt))] ++ closedE S ++ (run N (closedG S) (l.drop (k + 1))).2 = es0 ++ R.2) := Lib.hid (by
                  have h1 := Hrun.out
                  rw [hgood.out.1, hgood.out.2, hpush.out] at h1
                  exact ⟨h1.1, by rw [← h1.2]; simp⟩)
                have HG9 : Hid (∀ g ∈ closedG S, GB (k + 1) g) := Lib.hid fun g hg => hgb.out g (closed_mem hg)
                have hsum9 : (es ++ [((⟨xk, xi, X.toList, xn⟩ : Cel), (⟨gl, gi, gp⟩ : Spt))] ++ closedE S).length + (closedG S).length ≤ es0.length + 2 * (k + 1) + 1 := by
                  have h1 := closed_sum S
                  have h2 := Hlen7.out
                  simp only [List.length_append, List.length_cons, List.length_nil]
                  omega
                clear j9 o9 m9 f9 hcl HM8
                go_wp2
                go_round
                case rel => exact ⟨k + 1, closedG S, _, F9, _, c', by go_num, rfl, by omega, hrun9, HJ9, HO9, HM9, HF9, HS9, HG9, hsum9⟩
                case measure => simp [intOf]; omega
    · obtain rfl : k = n := by omega
      have h0 : l.drop k = [] := List.drop_of_length_le (by omega)
      have hr1 := hrun.out
      rw [h0, (run_done N st).1, (run_done N st).2, List.append_nil] at hr1
      have Hr1 := Lib.hid hr1
      obtain ⟨m, hm⟩ : ∃ m, st.length = m := ⟨_, rfl⟩
      rw [hm] at Hr1 hsum ⊢
      clear hrun hr1 HO
      by_cases hm0 : m = 0
      · subst hm0
        go_wp2
        go_ret
        exact ⟨by rw [← Hr1.out.1]; rfl, F, fun _ => (by rw [← Hr1.out.2]; exact HJ.out), HM.out, HF.out⟩
      · have hmb : ((m : Int) == 0) = false := by simp; omega
        have hz : Hid (R.1 = false) := Lib.hid (by rw [← Hr1.out.1]; exact decide_eq_false hm0)
        go_wp2
        go_ret
        exact ⟨by rw [hz.out]; rfl, F, fun h => (by rw [hz.out] at h; cases h), HM.out, HF.out⟩
end Val
end Go.Proofs.YtegfcmnbljdcpaaGreatDoor
