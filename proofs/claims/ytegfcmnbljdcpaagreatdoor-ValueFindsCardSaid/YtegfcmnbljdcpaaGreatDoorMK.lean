/-
  Layer 6, texts merged: the program's reader and Decode; the chapter's example. For every argument within the bounds that each theorem names.
-/
import Derived.Test.YtegfcmnbljdcpaaGreatDoorMJ
import Derived.Test.YtegfcmnbljdcpaaGreatDoorMI

/-
  Layer 6: the reader's pair and groupEnd, whatever reads an element.
-/
namespace Go.Proofs.YtegfcmnbljdcpaaGreatDoor
open Go.RowKit Go.ChangeShapes Go.WideShapes
namespace Val

/-- Elements up to a closing byte: their cells, their number, and what is left. -/
def many (G : Txt → Option (List Cel × Txt)) (cl : UInt8) : Nat → Txt → Option (List Cel × Nat × Txt)
  | 0, _ => none
  | n + 1, S => match G S with
    | none => none
    | some (cs, r) => match r with
      | [] => none
      | d :: r' => if d = 44 then (many G cl n r').map (fun x => (cs ++ x.1, x.2.1 + 1, x.2.2)) else if d = cl then some (cs, 1, r') else none
/-- What reads a value, as cells. -/
def gV (g : Txt → Option (V × Txt)) (S : Txt) : Option (List Cel × Txt) := (g S).map fun x => (flat x.1, x.2)
/-- What reads a pair, as cells. -/
def gP (g : Txt → Option (V × Txt)) (S : Txt) : Option (List Cel × Txt) := match rdK S with
  | none => none
  | some (k, r) => (g r).map fun x => (⟨4, 0, k, 0⟩ :: flat x.1, x.2)
theorem many_L (g : Txt → Option (V × Txt)) : ∀ (n : Nat) (S : Txt), many (gV g) 93 n S = (rdTL g n S).map fun x => (flatL x.1, lenL x.1, x.2)
  | 0, S => rfl
  | n + 1, S => by
    rw [many, rdTL, gV]
    cases h : g S with
    | none => rfl
    | some x =>
      obtain ⟨v, r⟩ := x
      cases r with
      | nil => rfl
      | cons d r =>
        simp only [Option.map_some]
        by_cases h1 : d = 44
        · rw [if_pos h1, if_pos h1, many_L g n r]
          cases rdTL g n r <;> simp [flatL, lenL]
        · rw [if_neg h1, if_neg h1]
          by_cases h2 : d = 93
          · rw [if_pos h2, if_pos h2]
            simp [flatL, lenL]
          · rw [if_neg h2, if_neg h2]
            rfl
theorem many_M (g : Txt → Option (V × Txt)) : ∀ (n : Nat) (S : Txt), many (gP g) 125 n S = (rdTM g n S).map fun x => (flatM x.1, lenM x.1, x.2)
  | 0, S => rfl
  | n + 1, S => by
    rw [many, rdTM, gP]
    cases hk : rdK S with
    | none => rfl
    | some y =>
      obtain ⟨k, r0⟩ := y
      simp only
      cases h : g r0 with
      | none => rfl
      | some x =>
        obtain ⟨v, r⟩ := x
        cases r with
        | nil => rfl
        | cons d r =>
          simp only [Option.map_some]
          by_cases h1 : d = 44
          · rw [if_pos h1, if_pos h1, many_M g n r]
            cases rdTM g n r <;> simp [flatM, lenM]
          · rw [if_neg h1, if_neg h1]
            by_cases h2 : d = 125
            · rw [if_pos h2, if_pos h2]
              simp [flatM, lenM]
            · rw [if_neg h2, if_neg h2]
              rfl
/-- What a part of the reader says, at texts of at most b bytes. -/
def Part (f : FuncId) (g base b : Nat) (G : Txt → Option (List Cel × Txt)) : Prop :=
  ∀ (S : Txt) (o : Option Addr) (n c : Nat) (l : List Cel) (w : World), RS g base S o n c l w → S.length ≤ b → n + S.length ≤ 8000 → Calls Tryz.prog f #[.pointer (some ⟨g, 0, none⟩)] w (PPost g base n o S l (G S) w)
theorem PPost.weak {g base n : Nat} {o : Option Addr} {R R' : Txt} {l : List Cel} {X : Option (List Cel × Txt)} {w : World} {e : Ending} {w' : World} (h : PPost g base n o R l X w e w') (hl : R.length ≤ R'.length) : PPost g base n o R' l X w e w' := by
  cases X with
  | none => exact h
  | some x =>
    obtain ⟨h1, o', n', c', h2, h3, h4⟩ := h
    exact ⟨h1, o', n', c', h2, h3, by omega⟩
/-- One more element of the group at a place. -/
theorem RS.setN {g base : Nat} {S : Txt} {b n c : Nat} {l cs : List Cel} {k j : Int} {w : World} (h : RS g base S (some ⟨b, 0, none⟩) n c (l ++ ⟨k, 0, [], j⟩ :: cs) w) (hj : 0 ≤ j ∧ j ≤ 100000) :
    RS g base S (some ⟨b, 0, none⟩) n c (l ++ ⟨k, 0, [], j + 1⟩ :: cs) (w.setCell ⟨b, l.length * 4 + 3, none⟩ (.int .i64 (j + 1))) ∧ RTo g (some ⟨b, 0, none⟩) w (some ⟨b, 0, none⟩) (w.setCell ⟨b, l.length * 4 + 3, none⟩ (.int .i64 (j + 1))) := by
  have hbb : Blk (some ⟨b, 0, none⟩ : Option Addr) b := ⟨0, rfl⟩
  have hgb : b ≠ g := fun e => by have h1 := (h.blk hbb).1; have h2 := h.lt.1; omega
  have hset : (encCs (l ++ ⟨k, 0, [], j⟩ :: cs)).set (l.length * 4 + 3) (.int .i64 (j + 1)) = encCs (l ++ ⟨k, 0, [], j + 1⟩ :: cs) := by
    rw [encCs_app, encCs_app, List.set_append_right _ _ (by rw [encCs_len]; omega), encCs_len]
    congr 1
    have e : l.length * 4 + 3 - l.length * 4 = 3 := by omega
    rw [e]
    rfl
  refine ⟨⟨?_, ?_, fun q => by rw [World.frozen?_setCell]; exact h.fz q, ?_, ⟨h.lt.1, by simpa [World.setCell] using h.lt.2⟩, ?_, h.len⟩, ⟨(Mod.refl _ w).setCell (Or.inl (Or.inr hbb)) _, fun _ e => Or.inl e⟩⟩
  · exact (World.cell?_setCell_far w ⟨b, l.length * 4 + 3, none⟩ ⟨g, 0, none⟩ _ hgb).trans h.rest
  · exact (World.cell?_setCell_far w ⟨b, l.length * 4 + 3, none⟩ ⟨g, 1, none⟩ _ hgb).trans h.cells
  · rw [← hset]
    exact own_set h.own rfl _
  · intro x hx
    rcases List.mem_append.1 hx with hx | hx
    · exact h.fit x (List.mem_append_left _ hx)
    · rcases List.mem_cons.1 hx with rfl | hx
      · have := h.fit ⟨k, 0, [], j⟩ (List.mem_append_right _ (List.mem_cons_self ..))
        exact ⟨⟨this.1.1, this.1.2.1, ⟨by show _ ≤ j + 1; omega, by show j + 1 ≤ _; omega⟩, this.1.2.2.2⟩, this.2⟩
      · exact h.fit x (List.mem_append_right _ (List.mem_cons_of_mem _ hx))
theorem pre1n (b : UInt8) : ([b] : Txt).isPrefixOf ([] : Txt) = false := rfl
theorem pre1t (b : UInt8) (r : Txt) : ([b] : Txt).isPrefixOf (b :: r) = true := by simp [List.isPrefixOf]
theorem pre1f {b c : UInt8} (r : Txt) (h : ¬ c = b) : ([b] : Txt).isPrefixOf (c :: r) = false := by rw [pre1]; simpa using fun e => h e.symm
theorem rdK_no {S : Txt} (h : ([34] : Txt).isPrefixOf S = false) : rdK S = none := by
  cases S with
  | nil => rfl
  | cons c r =>
    unfold rdK
    rw [pre1] at h
    exact if_neg (fun e => by subst e; simp at h)
theorem rdK_s {r : Txt} (h : rdS r = none) : rdK (34 :: r) = none := by unfold rdK; simp [h]
theorem rdK_c {r k q : Txt} (h : rdS r = some (k, q)) (hq : ([58] : Txt).isPrefixOf q = false) : rdK (34 :: r) = none := by
  unfold rdK
  simp only [if_true, h]
  cases q with
  | nil => rfl
  | cons d q =>
    rw [pre1] at hq
    exact if_neg (fun e => by subst e; simp at hq)
theorem rdK_y {r k q : Txt} (h : rdS r = some (k, 58 :: q)) : rdK (34 :: r) = some (k, q) := by unfold rdK; simp [h]
theorem pre_cons {b : UInt8} {S : Txt} (h : ([b] : Txt).isPrefixOf S = true) : ∃ r, S = b :: r := by
  cases S with
  | nil => cases h
  | cons c r =>
    rw [pre1] at h
    exact ⟨r, by rw [(beq_iff_eq.1 h)]⟩
set_option maxRecDepth 100000 in
set_option maxHeartbeats 4000000 in
theorem pair_any {g base b : Nat} {G : Txt → Option (V × Txt)} (hV : Part 45 g base b (gV G)) : Part 78 g base b (gP G) := by
  intro S o n c l w h hb hn
  have HV := Lib.hid hV
  have H := Lib.hid h
  obtain ⟨X, hX⟩ : ∃ X, gP G S = X := ⟨_, rfl⟩
  rw [hX]
  have HX := Lib.hid hX
  clear h hV hX
  cases hp : ([34] : Txt).isPrefixOf S with
  | false =>
    have hz : Hid (X = none) := Lib.hid (by rw [← HX.out]; unfold gP; rw [rdK_no hp])
    have HA := Lib.hid (accept_no [34] w H.out hp)
    clear hp
    go_enter Tryz.func78, Tryz.ntmps78
    go_wp2_with fail
    refine HA.out.mono ?_
    rintro e w1 ⟨rfl, r1, t1⟩
    have T1 := Lib.hid t1
    clear r1 t1
    go_wp2_with fail
    go_ret
    rw [hz.out]
    exact ⟨rfl, o, T1.out⟩
  | true =>
    obtain ⟨r, rfl⟩ := pre_cons hp
    have HA := Lib.hid (accept_yes [34] w H.out hp)
    clear hp
    simp only [List.length_cons] at hb hn
    cases hs : rdS r with
    | none =>
      have hz : Hid (X = none) := Lib.hid (by rw [← HX.out]; unfold gP; rw [rdK_s hs])
      go_enter Tryz.func78, Tryz.ntmps78
      go_wp2_with fail
      refine HA.out.mono ?_
      rintro e w1 ⟨rfl, r1, t1⟩
      have r1' : RS g base r o n c l w1 := r1
      have HE := Lib.hid (stringEnd_any w1 r1' (by omega))
      rw [hs] at HE
      have T1 := Lib.hid t1
      clear r1 t1 r1' hs
      go_wp2_with fail
      refine HE.out.mono ?_
      rintro e w2 ⟨rfl, o2, t2⟩
      have T2 := Lib.hid (T1.out.trans t2)
      clear t2
      go_wp2_with fail
      go_ret
      rw [hz.out]
      exact ⟨rfl, o2, T2.out⟩
    | some y =>
      obtain ⟨ky, q⟩ := y
      have hql : Hid (q.length ≤ r.length) := Lib.hid (by have := rdS_sound hs; rw [this]; simp; omega)
      cases hc : ([58] : Txt).isPrefixOf q with
      | false =>
        have hz : Hid (X = none) := Lib.hid (by rw [← HX.out]; unfold gP; rw [rdK_c hs hc])
        have HC := Lib.hid hc
        clear hc
        go_enter Tryz.func78, Tryz.ntmps78
        go_wp2_with fail
        refine HA.out.mono ?_
        rintro e w1 ⟨rfl, r1, t1⟩
        have r1' : RS g base r o n c l w1 := r1
        have HE := Lib.hid (stringEnd_any w1 r1' (by omega))
        rw [hs] at HE
        have T1 := Lib.hid t1
        clear r1 t1 r1' hs
        go_wp2_with fail
        refine HE.out.mono ?_
        rintro e w2 ⟨rfl, o2, n2, c2, r2, t2, m2⟩
        have T2 := Lib.hid (T1.out.trans t2)
        have HA2 := Lib.hid (accept_no [58] w2 r2 HC.out)
        clear t2 r2 m2
        go_wp2_with fail
        refine HA2.out.mono ?_
        rintro e w3 ⟨rfl, r3, t3⟩
        have T3 := Lib.hid (T2.out.trans t3)
        clear t3 r3
        go_wp2_with fail
        go_ret
        rw [hz.out]
        exact ⟨rfl, o2, T3.out⟩
      | true =>
        obtain ⟨q', rfl⟩ := pre_cons hc
        have hz : Hid (X = (G q').map fun x => (⟨4, 0, ky, 0⟩ :: flat x.1, x.2)) := Lib.hid (by rw [← HX.out]; unfold gP; rw [rdK_y hs])
        have HC := Lib.hid hc
        have hq2 := hql.out
        simp only [List.length_cons] at hq2
        clear hc
        go_enter Tryz.func78, Tryz.ntmps78
        go_wp2_with fail
        refine HA.out.mono ?_
        rintro e w1 ⟨rfl, r1, t1⟩
        have r1' : RS g base r o n c l w1 := r1
        have HE := Lib.hid (stringEnd_any w1 r1' (by omega))
        rw [hs] at HE
        have T1 := Lib.hid t1
        clear r1 t1 r1' hs
        go_wp2_with fail
        refine HE.out.mono ?_
        rintro e w2 ⟨rfl, o2, n2, c2, r2, t2, m2⟩
        have T2 := Lib.hid (T1.out.trans t2)
        have HA2 := Lib.hid (accept_yes [58] w2 r2 HC.out)
        simp only [List.length_cons] at m2
        clear t2 r2
        go_wp2_with fail
        refine HA2.out.mono ?_
        rintro e w3 ⟨rfl, r3, t3⟩
        have r3' : RS g base q' o2 n2 c2 (l ++ [⟨4, 0, ky, 0⟩]) w3 := r3
        have T3 := Lib.hid (T2.out.trans t3)
        have HVv := Lib.hid (HV.out q' o2 n2 c2 _ w3 r3' (by omega) (by omega))
        unfold gV at HVv
        clear t3 r3 r3'
        cases hg : G q' with
        | none =>
          rw [hg] at HVv hz
          clear hg
          go_wp2_with fail
          refine HVv.out.mono ?_
          rintro e w4 ⟨rfl, o4, t4⟩
          have T4 := Lib.hid (T3.out.trans t4)
          clear t4
          go_wp2_with fail
          go_ret
          rw [hz.out]
          exact ⟨rfl, o4, T4.out⟩
        | some x =>
          obtain ⟨v, u⟩ := x
          rw [hg] at HVv hz
          clear hg
          go_wp2_with fail
          refine HVv.out.mono ?_
          rintro e w4 ⟨rfl, o4, n4, c4, r4, t4, m4⟩
          have T4 := Lib.hid (T3.out.trans t4)
          have R4 := Lib.hid r4
          clear t4 r4
          go_wp2_with fail
          go_ret
          rw [hz.out]
          refine ⟨rfl, o4, n4, c4, ?_, T4.out, ?_⟩
          · have := R4.out
            simpa using this
          · simp only [List.length_cons]
            omega
end Val
end Go.Proofs.YtegfcmnbljdcpaaGreatDoor

/-
  Layer 6: the reader's groupEnd, whatever reads an element.
-/
namespace Go.Proofs.YtegfcmnbljdcpaaGreatDoor
open Go.RowKit Go.ChangeShapes Go.WideShapes
namespace Val

/-- What groupEnd reads. -/
def gE (G : Txt → Option (List Cel × Txt)) (kd : Int) (cl : UInt8) (f : Nat) (S : Txt) : Option (List Cel × Txt) :=
  if ([cl] : Txt).isPrefixOf S then some ([⟨kd, 0, [], 0⟩], S.drop 1) else (many G cl f S).map fun x => (⟨kd, 0, [], (x.2.1 : Int)⟩ :: x.1, x.2.2)
theorem many_no {G : Txt → Option (List Cel × Txt)} {cl : UInt8} {f : Nat} {S : Txt} (h : G S = none) : many G cl f S = none := by
  cases f with
  | zero => rfl
  | succ f => rw [many, h]
theorem many_co {G : Txt → Option (List Cel × Txt)} {cl : UInt8} {f : Nat} {S : Txt} {cs : List Cel} {r : Txt} (h : G S = some (cs, 44 :: r)) : many G cl (f + 1) S = (many G cl f r).map fun x => (cs ++ x.1, x.2.1 + 1, x.2.2) := by
  rw [many, h]
  simp
theorem many_cl {G : Txt → Option (List Cel × Txt)} {cl : UInt8} {f : Nat} {S : Txt} {cs : List Cel} {r : Txt} (h : G S = some (cs, cl :: r)) (hc : ¬ cl = 44) : many G cl (f + 1) S = some (cs, 1, r) := by
  rw [many, h]
  simp [hc]
theorem many_bad {G : Txt → Option (List Cel × Txt)} {cl : UInt8} {f : Nat} {S : Txt} {cs : List Cel} {r : Txt} (h : G S = some (cs, r)) (h1 : ([44] : Txt).isPrefixOf r = false) (h2 : ([cl] : Txt).isPrefixOf r = false) : many G cl (f + 1) S = none := by
  rw [many, h]
  cases r with
  | nil => rfl
  | cons d r =>
    rw [pre1] at h1 h2
    simp only
    rw [if_neg (fun e => by subst e; simp at h1), if_neg (fun e => by subst e; simp at h2)]
set_option maxRecDepth 100000 in
set_option maxHeartbeats 4000000 in
theorem groupEnd_any {g base b : Nat} {G : Txt → Option (List Cel × Txt)} (F : FuncId) (hent : ∀ (args : Array Value) (w : World), (callFunc F args).run Tryz.prog w = .ok (.enter F args) w)
    (hG : Part F g base b G) (hG0 : G [] = none) (hGle : ∀ S cs r, G S = some (cs, r) → r.length ≤ S.length) (kd : Int) (cl : UInt8) (hk : (kd = 5 ∧ cl = 93) ∨ (kd = 6 ∧ cl = 125)) (f : Nat) (hfb : f ≤ b)
    (S : Txt) (o : Option Addr) (n c : Nat) (l : List Cel) (w : World) (h : RS g base S o n c l w) (hS : S.length ≤ f) (hn : n + 1 + S.length ≤ 8000) :
    Calls Tryz.prog 77 #[.pointer (some ⟨g, 0, none⟩), .int .i64 kd, .func (.func F) #[.pointer (some ⟨g, 0, none⟩)] #[]] w (PPost g base n o (cl :: S) l (gE G kd cl f S) w) := by
  have hkd : 0 ≤ kd ∧ kd ≤ 6 := by rcases hk with h | h <;> omega
  have hcl : ¬ cl = 44 := by rcases hk with ⟨_, h⟩ | ⟨_, h⟩ <;> (rw [h]; decide)
  have hcT : closeT kd = [cl] := by rcases hk with ⟨h1, h2⟩ | ⟨h1, h2⟩ <;> (rw [h1, h2]; rfl)
  have HCl := Lib.hid (closing_any kd)
  rw [hcT] at HCl
  have HG := Lib.hid hG
  have HG0 := Lib.hid hG0
  have HGle := Lib.hid hGle
  have H := Lib.hid h
  have Hcl := Lib.hid hcl
  have hln := Lib.hid h.num
  have HAd := Lib.hid (add_any kd 0 0 ⟨#[]⟩ w h (fits_small _ _ _ _ hkd (by omega) (by omega) (by rw [emp_list]; decide)) (by decide) (by omega))
  have c1 := h.cells
  obtain ⟨Z, hZ⟩ : ∃ Z, gE G kd cl f S = Z := ⟨_, rfl⟩
  rw [hZ]
  have HZ := Lib.hid hZ
  clear hG hG0 hGle h hk hcT hcl hZ
  cases hp : ([cl] : Txt).isPrefixOf S with
  | true =>
    obtain ⟨r, rfl⟩ := pre_cons hp
    have hz : Hid (Z = some ([⟨kd, 0, [], 0⟩], r)) := Lib.hid (by rw [← HZ.out]; unfold gE; rw [if_pos hp]; rfl)
    have HP := Lib.hid hp
    clear hp
    go_enter Tryz.func77, Tryz.ntmps77
    go_wp2_with fail
    refine HAd.out.mono ?_
    rintro e w1 ⟨rfl, o1, c1', r1, t1⟩
    rw [emp_list] at r1
    have T1 := Lib.hid t1
    have HA := Lib.hid (accept_yes [cl] w1 r1 HP.out)
    clear r1 t1 c1
    go_wp2_with fail
    refine (HCl.out _).mono ?_
    rintro e w' ⟨rfl, rfl⟩
    go_wp2_with fail
    refine HA.out.mono ?_
    rintro e w2 ⟨rfl, r2, t2⟩
    have T2 := Lib.hid (T1.out.trans t2)
    have R2 := Lib.hid r2
    clear r2 t2
    go_wp2_with fail
    go_ret
    rw [hz.out]
    exact ⟨rfl, o1, n + 1, c1', R2.out, T2.out, by simp only [List.length_cons]; omega⟩
  | false =>
    obtain ⟨X, hX⟩ : ∃ X, many G cl f S = X := ⟨_, rfl⟩
    have hz : Hid (Z = X.map fun x => (⟨kd, 0, [], (x.2.1 : Int)⟩ :: x.1, x.2.2)) := Lib.hid (by rw [← HZ.out]; unfold gE; rw [if_neg (by rw [hp]; decide), hX])
    have HX := Lib.hid hX
    have HP := Lib.hid hp
    clear hp hX
    go_enter Tryz.func77, Tryz.ntmps77
    go_wp2_with fail
    refine HAd.out.mono ?_
    rintro e w1 ⟨rfl, o1, c1', r1, t1⟩
    rw [emp_list] at r1
    have T1 := Lib.hid t1
    have HA := Lib.hid (accept_no [cl] w1 r1 HP.out)
    clear r1 t1 c1
    go_wp2_with fail
    refine (HCl.out _).mono ?_
    rintro e w' ⟨rfl, rfl⟩
    go_wp2_with fail
    refine HA.out.mono ?_
    rintro e w2 ⟨rfl, r2, t2⟩
    have T2 := Lib.hid (T1.out.trans t2)
    have R2 := Lib.hid r2
    clear r2 t2
    go_wp2_with fail
    go_loopw [] (fun wr => ∃ (S' : Txt) (o' : Option Addr) (n' c' : Nat) (cs : List Cel) (j f' : Nat), Hid (RS g base S' o' n' c' (l ++ ⟨kd, 0, [], (j : Int)⟩ :: cs) wr) ∧ Hid (RTo g o w o' wr) ∧ Hid ((many G cl f' S').map (fun x => (cs ++ x.1, j + x.2.1, x.2.2)) = X) ∧ S'.length ≤ f' ∧ f' ≤ f ∧ n' + S'.length ≤ n + 1 + S.length ∧ j + S'.length ≤ S.length) (fun wr => match wr.cell? ⟨g, 0, none⟩ with | some (.string Y) => Y.size | _ => 0)
    case atStart =>
      refine ⟨S, o1, n + 1, c1', [], 0, f, R2, T2, Lib.hid ?_, hS, Nat.le_refl _, Nat.le_refl _, by omega⟩
      rw [HX.out]
      cases X <;> simp
    case round =>
      obtain ⟨S', o', n', c', cs, j, f', HR, HTo, HM, hSf, hff, hnn, hjj⟩ := hrel
      rename World => wr
      clear R2 T2 HA HX
      have hsz : (match wr.cell? ⟨g, 0, none⟩ with | some (.string Y) => Y.size | _ => 0) = S'.length := by rw [HR.out.rest]; simp [ByteArray.size]
      rw [hsz]
      clear hsz
      have HIt := Lib.hid (HG.out S' o' n' c' _ wr HR.out (by omega) (by omega))
      cases hg : G S' with
      | none =>
        rw [hg] at HIt
        have hz2 : Hid (Z = none) := Lib.hid (by
          have := HM.out
          rw [many_no hg] at this
          rw [hz.out, ← this]
          rfl)
        clear hg
        go_wp2_with fail
        refine HIt.out.mono ?_
        rintro e w3 ⟨rfl, o3, t3⟩
        have T3 := Lib.hid (HTo.out.trans t3)
        clear t3
        go_wp2_with fail
        go_ret
        rw [hz2.out]
        exact ⟨rfl, o3, T3.out⟩
      | some x =>
        obtain ⟨cs1, r⟩ := x
        rw [hg] at HIt
        have hrl := HGle.out _ _ _ hg
        obtain ⟨f1, rfl⟩ : ∃ f1, f' = f1 + 1 := by
          cases f' with
          | zero =>
            have : S' = [] := List.eq_nil_of_length_eq_zero (by omega)
            rw [this, HG0.out] at hg
            cases hg
          | succ f1 => exact ⟨f1, rfl⟩
        have Hg := Lib.hid hg
        clear hg
        go_wp2_with fail
        refine HIt.out.mono ?_
        rintro e w3 ⟨rfl, o3, n3, c3, r3, t3, m3⟩
        have T3 := Lib.hid (HTo.out.trans t3)
        rw [show (l ++ (⟨kd, 0, [], (j : Int)⟩ : Cel) :: cs) ++ cs1 = l ++ ⟨kd, 0, [], (j : Int)⟩ :: (cs ++ cs1) by simp] at r3
        have hpos : 0 < n3 := by have := r3.num; rw [← this, List.length_append, List.length_cons]; omega
        obtain ⟨bb, rfl, -, -, hnc⟩ := own_at r3.own hpos
        have hnl : n < n3 := by have h1 := r3.num; have h2 := hln.out; rw [List.length_append, List.length_cons] at h1; omega
        have cj : w3.cell? ⟨bb, n * 4 + 3, none⟩ = some (.int .i64 (j : Int)) := by
          refine own_cell r3.own rfl ?_
          rw [encCs_app, List.getElem?_append_right (by rw [encCs_len]; have := hln.out; omega), encCs_len]
          have e : n * 4 + 3 - l.length * 4 = 3 := by have := hln.out; omega
          rw [e]
          rfl
        have fj := own_frozen r3.own (n * 4 + 3) (b := bb) rfl
        have R4 := Lib.hid (r3.setN (by omega))
        rw [hln.out] at R4
        have hcs := r3.cells
        have hjb : j ≤ 8000 := by omega
        have hnb : n ≤ 8000 := by omega
        have hZm : Hid ((many G cl (f1 + 1) S').map (fun x => (cs ++ x.1, j + x.2.1, x.2.2)) = X) := HM
        clear r3 t3 HIt HM
        cases h44 : ([44] : Txt).isPrefixOf r with
        | true =>
          obtain ⟨r', rfl⟩ := pre_cons h44
          have HA := Lib.hid (accept_yes [44] _ R4.out.1 h44)
          have hX2 : Hid ((many G cl f1 r').map (fun x => ((cs ++ cs1) ++ x.1, (j + 1) + x.2.1, x.2.2)) = X) := Lib.hid (by
            rw [← hZm.out, many_co Hg.out]
            cases many G cl f1 r' <;> simp <;> omega)
          simp only [List.length_cons] at hrl m3
          clear h44
          go_wp2_with fail
          refine HA.out.mono ?_
          rintro e w4 ⟨rfl, r4, t4⟩
          have r4' : RS g base r' (some ⟨bb, 0, none⟩) n3 c3 (l ++ ⟨kd, 0, [], (j : Int) + 1⟩ :: (cs ++ cs1)) w4 := r4
          have T4 := Lib.hid ((T3.out.trans R4.out.2).trans t4)
          have R5 := Lib.hid r4'
          have ms : Hid ((match w4.cell? ⟨g, 0, none⟩ with | some (.string Y) => Y.size | _ => 0) = r'.length) := Lib.hid (by rw [r4'.rest]; simp [ByteArray.size])
          clear r4 t4 r4' cj fj hcs
          go_wp2_with fail
          go_round
          case rel =>
            refine ⟨r', _, n3, c3, cs ++ cs1, j + 1, f1, Lib.hid ?_, T4, hX2, by omega, by omega, by omega, by omega⟩
            have := R5.out
            simpa using this
          case measure => rw [ms.out]; omega
        | false =>
          have HA := Lib.hid (accept_no [44] _ R4.out.1 h44)
          have H44 := Lib.hid h44
          clear h44
          go_wp2_with fail
          refine HA.out.mono ?_
          rintro e w4 ⟨rfl, r4, t4⟩
          have T4 := Lib.hid ((T3.out.trans R4.out.2).trans t4)
          have R5 := Lib.hid r4
          clear r4 t4 cj fj hcs
          go_wp2_with fail
          refine (HCl.out _).mono ?_
          rintro e w' ⟨rfl, rfl⟩
          cases hcl2 : ([cl] : Txt).isPrefixOf r with
          | true =>
            obtain ⟨r', rfl⟩ := pre_cons hcl2
            have HA2 := Lib.hid (accept_yes [cl] w4 R5.out hcl2)
            have hz2 : Hid (Z = some (⟨kd, 0, [], (j : Int) + 1⟩ :: (cs ++ cs1), r')) := Lib.hid (by
              rw [hz.out, ← hZm.out, many_cl Hg.out Hcl.out]
              simp)
            simp only [List.length_cons] at hrl m3
            clear hcl2
            go_wp2_with fail
            refine HA2.out.mono ?_
            rintro e w5 ⟨rfl, r5, t5⟩
            have r5' : RS g base r' (some ⟨bb, 0, none⟩) n3 c3 (l ++ ⟨kd, 0, [], (j : Int) + 1⟩ :: (cs ++ cs1)) w5 := r5
            have T5 := Lib.hid (T4.out.trans t5)
            have R6 := Lib.hid r5'
            clear r5 t5 r5'
            go_wp2_with fail
            go_ret
            rw [hz2.out]
            exact ⟨rfl, _, n3, c3, R6.out, T5.out, by simp only [List.length_cons]; omega⟩
          | false =>
            have HA2 := Lib.hid (accept_no [cl] w4 R5.out hcl2)
            have hz2 : Hid (Z = none) := Lib.hid (by
              rw [hz.out, ← hZm.out, many_bad Hg.out H44.out hcl2]
              rfl)
            clear hcl2
            go_wp2_with fail
            refine HA2.out.mono ?_
            rintro e w5 ⟨rfl, r5, t5⟩
            have T5 := Lib.hid (T4.out.trans t5)
            clear r5 t5
            go_wp2_with fail
            go_ret
            rw [hz2.out]
            exact ⟨rfl, _, T5.out⟩
end Val
end Go.Proofs.YtegfcmnbljdcpaaGreatDoor

/-
  Layer 6: the reader's value; Decode, as the program has it.
-/
namespace Go.Proofs.YtegfcmnbljdcpaaGreatDoor
open Go.RowKit Go.ChangeShapes Go.WideShapes
namespace Val

def pNull : Txt := [110, 117, 108, 108]
def pFalse : Txt := [102, 97, 108, 115, 101]
def pTrue : Txt := [116, 114, 117, 101]
theorem pre_split : ∀ {p S : Txt}, p.isPrefixOf S = true → S = p ++ S.drop p.length
  | [], S, _ => rfl
  | b :: p, [], h => by cases h
  | b :: p, c :: S, h => by
    simp only [List.isPrefixOf, Bool.and_eq_true, beq_iff_eq] at h
    rw [← h.1]
    show _ = b :: (p ++ S.drop p.length)
    rw [← pre_split h.2]
theorem pre_len {p S : Txt} (h : p.isPrefixOf S = true) : p.length + (S.drop p.length).length = S.length := by
  have := congrArg List.length (pre_split h)
  rw [List.length_append] at this
  exact this.symm
theorem pos_of {p S : Txt} {k : Nat} (h : p.isPrefixOf S = true) (hp : 0 < p.length) (hk : S.length ≤ k) : ∃ f, k = f + 1 := ⟨k - 1, by have := pre_len h; omega⟩
variable (J : Txt → Option (Int × Txt))
theorem rdG_w {f : Nat} {l : Txt} {x : V × Txt} (h : rdW l = some x) : rdG J (f + 1) l = some x := by
  unfold rdG
  rw [h]
theorem rdG_c {f : Nat} {c : UInt8} {r : Txt} (h : rdW (c :: r) = none) : rdG J (f + 1) (c :: r) = if c = 34 then (match rdS r with
          | none => none
          | some (s, t) => some (.str s, t))
        else if c = 91 then (match (generalizing := false) r with
          | [] => none
          | d :: r' => if d = 93 then some (.list .nil, r') else match rdTL (rdG J f) f r with
            | none => none
            | some (t, q) => some (.list t, q))
        else if c = 123 then (match (generalizing := false) r with
          | [] => none
          | d :: r' => if d = 125 then some (.map .nil, r') else match rdTM (rdG J f) f r with
            | none => none
            | some (t, q) => some (.map t, q))
        else match J (c :: r) with
          | none => none
          | some (n, q) => some (.int n, q) := by
  conv => lhs; unfold rdG
  rw [h]
  rfl
theorem sp_null {S : Txt} {k : Nat} (h : pNull.isPrefixOf S = true) (hk : S.length ≤ k) : gV (rdG J k) S = some ([⟨1, 0, [], 0⟩], S.drop 4) := by
  obtain ⟨f, rfl⟩ := pos_of h (by decide) hk
  have hw : rdW S = some (.null, S.drop 4) := if_pos h
  unfold gV
  rw [rdG_w J hw]
  rfl
theorem sp_true {S : Txt} {k : Nat} (h : pTrue.isPrefixOf S = true) (hk : S.length ≤ k) : gV (rdG J k) S = some ([⟨2, 1, [], 0⟩], S.drop 4) := by
  obtain ⟨f, rfl⟩ := pos_of h (by decide) hk
  have hw : rdW S = some (.bool true, S.drop 4) := by
    rw [pre_split h]
    rfl
  unfold gV
  rw [rdG_w J hw]
  rfl
theorem sp_false {S : Txt} {k : Nat} (h : pFalse.isPrefixOf S = true) (hk : S.length ≤ k) : gV (rdG J k) S = some ([⟨2, 0, [], 0⟩], S.drop 5) := by
  obtain ⟨f, rfl⟩ := pos_of h (by decide) hk
  have hw : rdW S = some (.bool false, S.drop 5) := by
    rw [pre_split h]
    rfl
  unfold gV
  rw [rdG_w J hw]
  rfl
theorem rdW_no {S : Txt} (h1 : pNull.isPrefixOf S = false) (h2 : pFalse.isPrefixOf S = false) (h3 : pTrue.isPrefixOf S = false) : rdW S = none := by
  unfold rdW
  rw [if_neg (by rw [show ([110, 117, 108, 108] : Txt) = pNull from rfl, h1]; decide), if_neg (by rw [show ([116, 114, 117, 101] : Txt) = pTrue from rfl, h3]; decide), if_neg (by rw [show ([102, 97, 108, 115, 101] : Txt) = pFalse from rfl, h2]; decide)]
theorem sp_str (r : Txt) (f : Nat) : gV (rdG J (f + 1)) (34 :: r) = (rdS r).map fun x => ([⟨4, 0, x.1, 0⟩], x.2) := by
  have hw : rdW (34 :: r) = none := rdW_no rfl rfl rfl
  unfold gV
  rw [rdG_c J hw]
  simp only [if_true]
  cases rdS r <;> rfl
theorem gV_nil (f : Nat) : gV (rdG J f) [] = none := by
  cases f with
  | zero => rfl
  | succ f => rfl
theorem gP_nil (f : Nat) : gP (rdG J f) [] = none := rfl
theorem sp_list (r : Txt) (f : Nat) : gV (rdG J (f + 1)) (91 :: r) = gE (gV (rdG J f)) 5 93 f r := by
  have hw : rdW (91 :: r) = none := rdW_no rfl rfl rfl
  unfold gE
  cases r with
  | nil =>
    rw [if_neg (by decide), many_no (gV_nil J f)]
    unfold gV
    rw [rdG_c J hw]
    rfl
  | cons d r =>
    rw [pre1]
    by_cases hd : d = 93
    · subst hd
      simp only [beq_self_eq_true, if_true]
      unfold gV
      rw [rdG_c J hw]
      rfl
    · rw [if_neg (by simpa using fun e => hd e.symm), many_L]
      conv => lhs; unfold gV
      rw [rdG_c J hw]
      simp only [if_neg (show ¬ ((91 : UInt8) = 34) by decide), if_true, if_neg hd]
      cases rdTL (rdG J f) f (d :: r) <;> rfl
theorem sp_map (r : Txt) (f : Nat) : gV (rdG J (f + 1)) (123 :: r) = gE (gP (rdG J f)) 6 125 f r := by
  have hw : rdW (123 :: r) = none := rdW_no rfl rfl rfl
  unfold gE
  cases r with
  | nil =>
    rw [if_neg (by decide), many_no (gP_nil J f)]
    unfold gV
    rw [rdG_c J hw]
    rfl
  | cons d r =>
    rw [pre1]
    by_cases hd : d = 125
    · subst hd
      simp only [beq_self_eq_true, if_true]
      unfold gV
      rw [rdG_c J hw]
      rfl
    · rw [if_neg (by simpa using fun e => hd e.symm), many_M]
      unfold gV
      rw [rdG_c J hw]
      simp only [if_neg (show ¬ ((123 : UInt8) = 34) by decide), if_neg (show ¬ ((123 : UInt8) = 91) by decide), if_true, if_neg hd]
      cases rdTM (rdG J f) f (d :: r) <;> rfl
theorem sp_int {S : Txt} {k : Nat} (hJ : J [] = none) (hk : S.length ≤ k) (h1 : pNull.isPrefixOf S = false) (h2 : pFalse.isPrefixOf S = false) (h3 : pTrue.isPrefixOf S = false) (h4 : ([34] : Txt).isPrefixOf S = false) (h5 : ([91] : Txt).isPrefixOf S = false) (h6 : ([123] : Txt).isPrefixOf S = false) :
    gV (rdG J k) S = (J S).map fun x => ([⟨3, x.1, [], 0⟩], x.2) := by
  cases S with
  | nil => rw [gV_nil, hJ]; rfl
  | cons c r =>
    obtain ⟨f, rfl⟩ : ∃ f, k = f + 1 := ⟨k - 1, by simp only [List.length_cons] at hk; omega⟩
    rw [pre1] at h4 h5 h6
    unfold gV
    rw [rdG_c J (rdW_no h1 h2 h3)]
    rw [if_neg (fun e => by subst e; simp at h4), if_neg (fun e => by subst e; simp at h5), if_neg (fun e => by subst e; simp at h6)]
    cases J (c :: r) <;> rfl
theorem gV_le {f : Int → Int} (hS : Snd J f) (k : Nat) (S : Txt) (cs : List Cel) (r : Txt) (h : gV (rdG J k) S = some (cs, r)) : r.length ≤ S.length := by
  unfold gV at h
  cases hg : rdG J k S with
  | none => rw [hg] at h; cases h
  | some x =>
    rw [hg] at h
    simp only [Option.map_some, Option.some.injEq, Prod.mk.injEq] at h
    have := rdG_lt hS (v := x.1) (r := x.2) (by rw [hg])
    rw [← h.2]
    omega
theorem gP_le {f : Int → Int} (hS : Snd J f) (k : Nat) (S : Txt) (cs : List Cel) (r : Txt) (h : gP (rdG J k) S = some (cs, r)) : r.length ≤ S.length := by
  unfold gP at h
  cases hp : ([34] : Txt).isPrefixOf S with
  | false => rw [rdK_no hp] at h; cases h
  | true =>
    obtain ⟨q, rfl⟩ := pre_cons hp
    cases hs : rdS q with
    | none => rw [rdK_s hs] at h; cases h
    | some y =>
      obtain ⟨ky, u⟩ := y
      have hu : u.length ≤ q.length := by have := rdS_sound hs; rw [this]; simp; omega
      cases hc : ([58] : Txt).isPrefixOf u with
      | false => rw [rdK_c hs hc] at h; cases h
      | true =>
        obtain ⟨u', rfl⟩ := pre_cons hc
        rw [rdK_y hs] at h
        simp only at h
        cases hg : rdG J k u' with
        | none => rw [hg] at h; cases h
        | some x =>
          rw [hg] at h
          simp only [Option.map_some, Option.some.injEq, Prod.mk.injEq] at h
          have := rdG_lt hS (v := x.1) (r := x.2) (by rw [hg])
          rw [← h.2]
          simp only [List.length_cons] at hu ⊢
          omega
theorem intU_nil : intU [] = none := by unfold intU; decide
set_option maxRecDepth 100000 in
set_option maxHeartbeats 8000000 in
theorem value_step {g base : Nat} (k : Nat) (IH : ∀ f, f < k → Part 45 g base f (gV (rdG intU f))) : Part 45 g base k (gV (rdG intU k)) := by
  have hmf : ∀ (fn : Fn) (first cap : Array Value) (w : World), (Instr.makeFunc fn first cap).run Tryz.prog w = .ok (.func fn first cap) w := fun _ _ _ _ => rfl
  have HI := Lib.hid IH
  clear IH
  intro S o n c l w h hb hn
  have H := Lib.hid h
  obtain ⟨Z, hZ⟩ : ∃ Z, gV (rdG intU k) S = Z := ⟨_, rfl⟩
  rw [hZ]
  have HZ := Lib.hid hZ
  clear h hZ
  cases hp0 : (pNull : Txt).isPrefixOf S with
  | true =>
    have HY := Lib.hid hp0
    have hl := Lib.hid (show 4 + (S.drop 4).length = S.length from pre_len hp0)
    have hz : Hid (Z = some ([⟨1, 0, [], 0⟩], S.drop 4)) := Lib.hid (by rw [← HZ.out]; exact sp_null intU hp0 hb)
    clear hp0
    go_enter Tryz.func45, Tryz.ntmps45
    have AY := Lib.hid (accept_yes pNull w H.out HY.out)
    go_wp2_with fail
    refine AY.out.mono ?_
    rintro e u ⟨rfl, ru, tu⟩
    have TU := Lib.hid (tu)
    have HAd := Lib.hid (add_any 1 0 0 ⟨#[]⟩ u ru (fits_small _ _ _ _ (by omega) (by omega) (by omega) (by rw [emp_list]; decide)) (by decide) (by omega))
    clear ru tu
    go_wp2_with fail
    refine HAd.out.mono ?_
    rintro e x ⟨rfl, ox, cx, rx, tx⟩
    rw [emp_list] at rx
    have TX := Lib.hid (TU.out.trans tx)
    have RX := Lib.hid rx
    clear rx tx
    go_wp2_with fail
    go_ret
    rw [hz.out]
    exact ⟨rfl, ox, n + 1, cx, RX.out, TX.out, by have := hl.out; omega⟩
  | false =>
    have HP0 := Lib.hid hp0
    clear hp0
    cases hp1 : (pFalse : Txt).isPrefixOf S with
    | true =>
      have HY := Lib.hid hp1
      have hl := Lib.hid (show 5 + (S.drop 5).length = S.length from pre_len hp1)
      have hz : Hid (Z = some ([⟨2, 0, [], 0⟩], S.drop 5)) := Lib.hid (by rw [← HZ.out]; exact sp_false intU hp1 hb)
      clear hp1
      go_enter Tryz.func45, Tryz.ntmps45
      have A0 := Lib.hid (accept_no pNull w H.out HP0.out)
      go_wp2_with fail
      refine A0.out.mono ?_
      rintro e v0 ⟨rfl, r0, t0⟩
      have T0 := Lib.hid (t0)
      have R0 := Lib.hid r0
      clear r0 t0 A0
      have AY := Lib.hid (accept_yes pFalse v0 R0.out HY.out)
      go_wp2_with fail
      refine AY.out.mono ?_
      rintro e u ⟨rfl, ru, tu⟩
      have TU := Lib.hid (T0.out.trans tu)
      have HAd := Lib.hid (add_any 2 0 0 ⟨#[]⟩ u ru (fits_small _ _ _ _ (by omega) (by omega) (by omega) (by rw [emp_list]; decide)) (by decide) (by omega))
      clear ru tu
      go_wp2_with fail
      refine HAd.out.mono ?_
      rintro e x ⟨rfl, ox, cx, rx, tx⟩
      rw [emp_list] at rx
      have TX := Lib.hid (TU.out.trans tx)
      have RX := Lib.hid rx
      clear rx tx
      go_wp2_with fail
      go_ret
      rw [hz.out]
      exact ⟨rfl, ox, n + 1, cx, RX.out, TX.out, by have := hl.out; omega⟩
    | false =>
      have HP1 := Lib.hid hp1
      clear hp1
      cases hp2 : (pTrue : Txt).isPrefixOf S with
      | true =>
        have HY := Lib.hid hp2
        have hl := Lib.hid (show 4 + (S.drop 4).length = S.length from pre_len hp2)
        have hz : Hid (Z = some ([⟨2, 1, [], 0⟩], S.drop 4)) := Lib.hid (by rw [← HZ.out]; exact sp_true intU hp2 hb)
        clear hp2
        go_enter Tryz.func45, Tryz.ntmps45
        have A0 := Lib.hid (accept_no pNull w H.out HP0.out)
        go_wp2_with fail
        refine A0.out.mono ?_
        rintro e v0 ⟨rfl, r0, t0⟩
        have T0 := Lib.hid (t0)
        have R0 := Lib.hid r0
        clear r0 t0 A0
        have A1 := Lib.hid (accept_no pFalse v0 R0.out HP1.out)
        go_wp2_with fail
        refine A1.out.mono ?_
        rintro e v1 ⟨rfl, r1, t1⟩
        have T1 := Lib.hid (T0.out.trans t1)
        have R1 := Lib.hid r1
        clear r1 t1 A1 R0 T0
        have AY := Lib.hid (accept_yes pTrue v1 R1.out HY.out)
        go_wp2_with fail
        refine AY.out.mono ?_
        rintro e u ⟨rfl, ru, tu⟩
        have TU := Lib.hid (T1.out.trans tu)
        have HAd := Lib.hid (add_any 2 1 0 ⟨#[]⟩ u ru (fits_small _ _ _ _ (by omega) (by omega) (by omega) (by rw [emp_list]; decide)) (by decide) (by omega))
        clear ru tu
        go_wp2_with fail
        refine HAd.out.mono ?_
        rintro e x ⟨rfl, ox, cx, rx, tx⟩
        rw [emp_list] at rx
        have TX := Lib.hid (TU.out.trans tx)
        have RX := Lib.hid rx
        clear rx tx
        go_wp2_with fail
        go_ret
        rw [hz.out]
        exact ⟨rfl, ox, n + 1, cx, RX.out, TX.out, by have := hl.out; omega⟩
      | false =>
        have HP2 := Lib.hid hp2
        clear hp2
        cases hp3 : ([34] : Txt).isPrefixOf S with
        | true =>
          have HY := Lib.hid hp3
          obtain ⟨r, rfl⟩ := pre_cons hp3
          simp only [List.length_cons] at hb hn
          obtain ⟨f, rfl⟩ : ∃ f, k = f + 1 := ⟨k - 1, by omega⟩
          have hz := Lib.hid (HZ.out.symm.trans (sp_str intU r f))
          clear hp3
          go_enter Tryz.func45, Tryz.ntmps45
          have A0 := Lib.hid (accept_no pNull w H.out HP0.out)
          go_wp2_with fail
          refine A0.out.mono ?_
          rintro e v0 ⟨rfl, r0, t0⟩
          have T0 := Lib.hid (t0)
          have R0 := Lib.hid r0
          clear r0 t0 A0
          have A1 := Lib.hid (accept_no pFalse v0 R0.out HP1.out)
          go_wp2_with fail
          refine A1.out.mono ?_
          rintro e v1 ⟨rfl, r1, t1⟩
          have T1 := Lib.hid (T0.out.trans t1)
          have R1 := Lib.hid r1
          clear r1 t1 A1 R0 T0
          have A2 := Lib.hid (accept_no pTrue v1 R1.out HP2.out)
          go_wp2_with fail
          refine A2.out.mono ?_
          rintro e v2 ⟨rfl, r2, t2⟩
          have T2 := Lib.hid (T1.out.trans t2)
          have R2 := Lib.hid r2
          clear r2 t2 A2 R1 T1
          have AY := Lib.hid (accept_yes [34] v2 R2.out HY.out)
          go_wp2_with fail
          refine AY.out.mono ?_
          rintro e u ⟨rfl, ru, tu⟩
          have TU := Lib.hid (T2.out.trans tu)
          have ru' : RS g base r o n c l u := ru
          have HE := Lib.hid (stringEnd_any u ru' (by omega))
          rw [← hz.out] at HE
          clear ru tu ru'
          go_wp2_with fail
          refine HE.out.mono ?_
          rintro e x hx
          cases Z with
          | none =>
            obtain ⟨rfl, ox, tx⟩ := hx
            have TX := Lib.hid (TU.out.trans tx)
            clear tx
            go_wp2_with fail
            go_ret
            exact ⟨rfl, ox, TX.out⟩
          | some y =>
            obtain ⟨rfl, ox, nx, cx, rx, tx, mx⟩ := hx
            have TX := Lib.hid (TU.out.trans tx)
            have RX := Lib.hid rx
            clear rx tx
            go_wp2_with fail
            go_ret
            exact ⟨rfl, ox, nx, cx, RX.out, TX.out, by simp only [List.length_cons]; omega⟩
        | false =>
          have HP3 := Lib.hid hp3
          clear hp3
          cases hp4 : ([91] : Txt).isPrefixOf S with
          | true =>
            have HY := Lib.hid hp4
            obtain ⟨r, rfl⟩ := pre_cons hp4
            simp only [List.length_cons] at hb hn
            obtain ⟨f, rfl⟩ : ∃ f, k = f + 1 := ⟨k - 1, by omega⟩
            have hz := Lib.hid (HZ.out.symm.trans (sp_list intU r f))
            clear hp4
            go_enter Tryz.func45, Tryz.ntmps45
            have A0 := Lib.hid (accept_no pNull w H.out HP0.out)
            go_wp2_with fail
            refine A0.out.mono ?_
            rintro e v0 ⟨rfl, r0, t0⟩
            have T0 := Lib.hid (t0)
            have R0 := Lib.hid r0
            clear r0 t0 A0
            have A1 := Lib.hid (accept_no pFalse v0 R0.out HP1.out)
            go_wp2_with fail
            refine A1.out.mono ?_
            rintro e v1 ⟨rfl, r1, t1⟩
            have T1 := Lib.hid (T0.out.trans t1)
            have R1 := Lib.hid r1
            clear r1 t1 A1 R0 T0
            have A2 := Lib.hid (accept_no pTrue v1 R1.out HP2.out)
            go_wp2_with fail
            refine A2.out.mono ?_
            rintro e v2 ⟨rfl, r2, t2⟩
            have T2 := Lib.hid (T1.out.trans t2)
            have R2 := Lib.hid r2
            clear r2 t2 A2 R1 T1
            have A3 := Lib.hid (accept_no [34] v2 R2.out HP3.out)
            go_wp2_with fail
            refine A3.out.mono ?_
            rintro e v3 ⟨rfl, r3, t3⟩
            have T3 := Lib.hid (T2.out.trans t3)
            have R3 := Lib.hid r3
            clear r3 t3 A3 R2 T2
            have AY := Lib.hid (accept_yes [91] v3 R3.out HY.out)
            go_wp2_with fail
            refine AY.out.mono ?_
            rintro e u ⟨rfl, ru, tu⟩
            have TU := Lib.hid (T3.out.trans tu)
            have ru' : RS g base r o n c l u := ru
            have HE := Lib.hid (groupEnd_any 45 (fun args w => rfl) (HI.out f (by omega)) (gV_nil intU f) (gV_le intU snd_intU f) 5 93 (Or.inl ⟨rfl, rfl⟩) f (Nat.le_refl f) r o n c l u ru' (by omega) (by omega))
            rw [← hz.out] at HE
            clear ru tu ru'
            go_wp2_with fail
            refine HE.out.mono ?_
            rintro e x hx
            cases Z with
            | none =>
              obtain ⟨rfl, ox, tx⟩ := hx
              have TX := Lib.hid (TU.out.trans tx)
              clear tx
              go_wp2_with fail
              go_ret
              exact ⟨rfl, ox, TX.out⟩
            | some y =>
              obtain ⟨rfl, ox, nx, cx, rx, tx, mx⟩ := hx
              simp only [List.length_cons] at mx
              have TX := Lib.hid (TU.out.trans tx)
              have RX := Lib.hid rx
              clear rx tx
              go_wp2_with fail
              go_ret
              exact ⟨rfl, ox, nx, cx, RX.out, TX.out, by simp only [List.length_cons]; omega⟩
          | false =>
            have HP4 := Lib.hid hp4
            clear hp4
            cases hp5 : ([123] : Txt).isPrefixOf S with
            | true =>
              have HY := Lib.hid hp5
              obtain ⟨r, rfl⟩ := pre_cons hp5
              simp only [List.length_cons] at hb hn
              obtain ⟨f, rfl⟩ : ∃ f, k = f + 1 := ⟨k - 1, by omega⟩
              have hz := Lib.hid (HZ.out.symm.trans (sp_map intU r f))
              clear hp5
              go_enter Tryz.func45, Tryz.ntmps45
              have A0 := Lib.hid (accept_no pNull w H.out HP0.out)
              go_wp2_with fail
              refine A0.out.mono ?_
              rintro e v0 ⟨rfl, r0, t0⟩
              have T0 := Lib.hid (t0)
              have R0 := Lib.hid r0
              clear r0 t0 A0
              have A1 := Lib.hid (accept_no pFalse v0 R0.out HP1.out)
              go_wp2_with fail
              refine A1.out.mono ?_
              rintro e v1 ⟨rfl, r1, t1⟩
              have T1 := Lib.hid (T0.out.trans t1)
              have R1 := Lib.hid r1
              clear r1 t1 A1 R0 T0
              have A2 := Lib.hid (accept_no pTrue v1 R1.out HP2.out)
              go_wp2_with fail
              refine A2.out.mono ?_
              rintro e v2 ⟨rfl, r2, t2⟩
              have T2 := Lib.hid (T1.out.trans t2)
              have R2 := Lib.hid r2
              clear r2 t2 A2 R1 T1
              have A3 := Lib.hid (accept_no [34] v2 R2.out HP3.out)
              go_wp2_with fail
              refine A3.out.mono ?_
              rintro e v3 ⟨rfl, r3, t3⟩
              have T3 := Lib.hid (T2.out.trans t3)
              have R3 := Lib.hid r3
              clear r3 t3 A3 R2 T2
              have A4 := Lib.hid (accept_no [91] v3 R3.out HP4.out)
              go_wp2_with fail
              refine A4.out.mono ?_
              rintro e v4 ⟨rfl, r4, t4⟩
              have T4 := Lib.hid (T3.out.trans t4)
              have R4 := Lib.hid r4
              clear r4 t4 A4 R3 T3
              have AY := Lib.hid (accept_yes [123] v4 R4.out HY.out)
              go_wp2_with fail
              refine AY.out.mono ?_
              rintro e u ⟨rfl, ru, tu⟩
              have TU := Lib.hid (T4.out.trans tu)
              have ru' : RS g base r o n c l u := ru
              have HE := Lib.hid (groupEnd_any 78 (fun args w => rfl) (pair_any (HI.out f (by omega))) (gP_nil intU f) (gP_le intU snd_intU f) 6 125 (Or.inr ⟨rfl, rfl⟩) f (Nat.le_refl f) r o n c l u ru' (by omega) (by omega))
              rw [← hz.out] at HE
              clear ru tu ru'
              go_wp2_with fail
              refine HE.out.mono ?_
              rintro e x hx
              cases Z with
              | none =>
                obtain ⟨rfl, ox, tx⟩ := hx
                have TX := Lib.hid (TU.out.trans tx)
                clear tx
                go_wp2_with fail
                go_ret
                exact ⟨rfl, ox, TX.out⟩
              | some y =>
                obtain ⟨rfl, ox, nx, cx, rx, tx, mx⟩ := hx
                simp only [List.length_cons] at mx
                have TX := Lib.hid (TU.out.trans tx)
                have RX := Lib.hid rx
                clear rx tx
                go_wp2_with fail
                go_ret
                exact ⟨rfl, ox, nx, cx, RX.out, TX.out, by simp only [List.length_cons]; omega⟩
            | false =>
              have HP5 := Lib.hid hp5
              clear hp5
              have hz := Lib.hid (HZ.out.symm.trans (sp_int intU intU_nil hb HP0.out HP1.out HP2.out HP3.out HP4.out HP5.out))
              go_enter Tryz.func45, Tryz.ntmps45
              have A0 := Lib.hid (accept_no pNull w H.out HP0.out)
              go_wp2_with fail
              refine A0.out.mono ?_
              rintro e v0 ⟨rfl, r0, t0⟩
              have T0 := Lib.hid (t0)
              have R0 := Lib.hid r0
              clear r0 t0 A0
              have A1 := Lib.hid (accept_no pFalse v0 R0.out HP1.out)
              go_wp2_with fail
              refine A1.out.mono ?_
              rintro e v1 ⟨rfl, r1, t1⟩
              have T1 := Lib.hid (T0.out.trans t1)
              have R1 := Lib.hid r1
              clear r1 t1 A1 R0 T0
              have A2 := Lib.hid (accept_no pTrue v1 R1.out HP2.out)
              go_wp2_with fail
              refine A2.out.mono ?_
              rintro e v2 ⟨rfl, r2, t2⟩
              have T2 := Lib.hid (T1.out.trans t2)
              have R2 := Lib.hid r2
              clear r2 t2 A2 R1 T1
              have A3 := Lib.hid (accept_no [34] v2 R2.out HP3.out)
              go_wp2_with fail
              refine A3.out.mono ?_
              rintro e v3 ⟨rfl, r3, t3⟩
              have T3 := Lib.hid (T2.out.trans t3)
              have R3 := Lib.hid r3
              clear r3 t3 A3 R2 T2
              have A4 := Lib.hid (accept_no [91] v3 R3.out HP4.out)
              go_wp2_with fail
              refine A4.out.mono ?_
              rintro e v4 ⟨rfl, r4, t4⟩
              have T4 := Lib.hid (T3.out.trans t4)
              have R4 := Lib.hid r4
              clear r4 t4 A4 R3 T3
              have A5 := Lib.hid (accept_no [123] v4 R4.out HP5.out)
              go_wp2_with fail
              refine A5.out.mono ?_
              rintro e v5 ⟨rfl, r5, t5⟩
              have T5 := Lib.hid (T4.out.trans t5)
              have R5 := Lib.hid r5
              clear r5 t5 A5 R4 T4
              have HE := Lib.hid (integer_any v5 R5.out (by omega))
              rw [← hz.out] at HE
              go_wp2_with fail
              refine HE.out.mono ?_
              rintro e x hx
              cases Z with
              | none =>
                obtain ⟨rfl, ox, tx⟩ := hx
                have TX := Lib.hid (T5.out.trans tx)
                clear tx
                go_wp2_with fail
                go_ret
                exact ⟨rfl, ox, TX.out⟩
              | some y =>
                obtain ⟨rfl, ox, nx, cx, rx, tx, mx⟩ := hx
                have TX := Lib.hid (T5.out.trans tx)
                have RX := Lib.hid rx
                clear rx tx
                go_wp2_with fail
                go_ret
                exact ⟨rfl, ox, nx, cx, RX.out, TX.out, mx⟩
theorem value_any {g base : Nat} : ∀ k, Part 45 g base k (gV (rdG intU k)) := fun k => by
  induction k using Nat.strongRecOn with
  | ind k ih => exact value_step k ih
end Val
end Go.Proofs.YtegfcmnbljdcpaaGreatDoor

/-
  Layer 6: Decode, as the program has it.
-/
namespace Go.Proofs.YtegfcmnbljdcpaaGreatDoor
open Go.RowKit Go.ChangeShapes Go.WideShapes
namespace Val

theorem ckT_eq (l : List Cel) : ckT l = (chkd l, chk l) := by
  unfold ckT chkd
  split
  · next h => rw [h]
  · rfl
theorem gV_val {s : Txt} : valG intU s = (match gV (rdG intU s.length) s with | some (_, []) => (rdG intU s.length s).map (·.1) | _ => none) := by
  unfold valG gV
  cases h : rdG intU s.length s with
  | none => rfl
  | some x =>
    obtain ⟨v, r⟩ := x
    cases r <;> rfl
theorem dec_a {s : Txt} (h : ¬ 4000 < s.length) (hg : gV (rdG intU s.length) s = none) : decT s = ([], 1) :=
  dec_none snd_intU ful_intU h (by rw [gV_val, hg])
theorem dec_b {s : Txt} (h : ¬ 4000 < s.length) {cs : List Cel} {d : UInt8} {r : Txt} (hg : gV (rdG intU s.length) s = some (cs, d :: r)) : decT s = ([], 1) :=
  dec_none snd_intU ful_intU h (by rw [gV_val, hg])
theorem dec_c {s : Txt} (h : ¬ 4000 < s.length) {cs : List Cel} (hg : gV (rdG intU s.length) s = some (cs, [])) : decT s = (chkd cs, chk cs) := by
  have hv : ∃ v, valG intU s = some v ∧ cs = flat v := by
    unfold gV at hg
    cases hr : rdG intU s.length s with
    | none => rw [hr] at hg; cases hg
    | some x =>
      obtain ⟨v, r⟩ := x
      rw [hr] at hg
      simp only [Option.map_some, Option.some.injEq, Prod.mk.injEq] at hg
      obtain ⟨h1, h2⟩ := hg
      subst h2
      exact ⟨v, by unfold valG; rw [hr], h1.symm⟩
  obtain ⟨v, hv, rfl⟩ := hv
  rw [dec_some snd_intU ful_intU keeps_clU h hv, ckT_eq]
set_option maxRecDepth 100000 in
set_option maxHeartbeats 4000000 in
theorem vdecode_any (s : ByteArray) (hs : s.size ≤ 1000000) (w : World) :
    Calls Tryz.prog 26 #[.string s] w fun e w' => CRes w' e (decT s.toList).1 (decT s.toList).2 ∧ Bel w w' := by
  by_cases h4 : 4000 < s.size
  · have hz := Lib.hid (dec_long (s := s.toList) (by rw [toL_len]; exact h4))
    go_enter Tryz.func26, Tryz.ntmps26
    go_wp2_with fail
    go_ret2
    rw [hz.out]
    exact ⟨CRes.nil _ _, Bel.refl _⟩
  · have hlen : s.toList.length = s.size := toL_len s
    have h4' : ¬ 4000 < s.toList.length := by rw [hlen]; exact h4
    have d4 : decide ((4000 : Int) < (s.size : Int)) = false := decide_eq_false (by omega)
    obtain ⟨W, hW⟩ : ∃ W, w.alloc (.cells #[.string s, .slice none 0 0] 72) = W := ⟨_, rfl⟩
    have B0 : Bel w W := by rw [← hW]; exact Bel.alloc (Bel.refl w) _
    have k0 : W.cell? ⟨w.heap.size, 0, none⟩ = some (.string s) := by rw [← hW]; exact World.cell?_alloc_new ..
    have k1 : W.cell? ⟨w.heap.size, 1, none⟩ = some (.slice none 0 0) := by rw [← hW]; exact World.cell?_alloc_new ..
    have kf : ∀ j, W.frozen? ⟨w.heap.size, j, none⟩ = false := fun j => by
      have := heap_alloc_new w (.cells #[.string s, .slice none 0 0] 72)
      rw [← hW]
      simp only [World.frozen?, this]
      rfl
    have hWs : w.heap.size + 1 = W.heap.size := by rw [← hW]; simp
    obtain ⟨W2, hW2⟩ : ∃ W2, W.setCell ⟨w.heap.size, 1, none⟩ (.slice none 0 0) = W2 := ⟨_, rfl⟩
    have B2 : Bel w W2 := by rw [← hW2]; exact B0.setCell (Nat.le_refl _) _
    have R0 : RS w.heap.size (w.heap.size + 1) s.toList none 0 0 [] W2 := by
      refine ⟨?_, ?_, fun j => by rw [← hW2, World.frozen?_setCell]; exact kf j, World.ownsRow_nil _ _ _ _, ⟨by omega, by rw [← hW2]; simp [World.setCell]; omega⟩, fun x hx => (by cases hx), by omega⟩
      · rw [← hW2, str_back]
        exact (World.cell?_setCell_other W ⟨w.heap.size, 1, none⟩ ⟨w.heap.size, 0, none⟩ _ (by simp)).trans k0
      · rw [← hW2]
        exact World.cell?_setCell_same W _ _ k1
    have HV := Lib.hid (value_any (g := w.heap.size) (base := w.heap.size + 1) s.toList.length s.toList none 0 0 [] W2 R0 (Nat.le_refl _) (by omega))
    have HB2 := Lib.hid B2
    have H4 := Lib.hid h4'
    obtain ⟨X, hX⟩ : ∃ X, gV (rdG intU s.toList.length) s.toList = X := ⟨_, rfl⟩
    rw [hX] at HV
    have HX := Lib.hid hX
    have kf1 := kf 1
    have kf0 := kf 0
    clear hX hlen h4' B0 B2 R0 kf hWs
    go_enter Tryz.func26, Tryz.ntmps26
    go_wp2_with fail
    clear hW hW2 k0 k1 kf0 kf1
    refine HV.out.mono ?_
    rintro e w1 hx
    have hbel : Hid (∀ {o' : Option Addr}, RTo w.heap.size none W2 o' w1 → Bel w w1) := Lib.hid fun t => Mod.bel_of HB2.out t.mod (fun i hi => by
      rcases hi with h | ⟨off, h⟩
      · rw [h]; exact Nat.le_refl _
      · cases h)
    cases X with
    | none =>
      obtain ⟨rfl, o1, t1⟩ := hx
      have hz := Lib.hid (dec_a H4.out HX.out)
      have B1 := Lib.hid (hbel.out t1)
      clear t1
      go_wp2_with fail
      go_ret2
      rw [hz.out]
      exact ⟨CRes.nil _ _, B1.out⟩
    | some y =>
      obtain ⟨cs, r⟩ := y
      obtain ⟨rfl, o1, n1, c1, r1, t1, m1⟩ := hx
      have B1 := Lib.hid (hbel.out t1)
      have q0 := r1.rest
      have q1 := r1.cells
      have R1 := Lib.hid r1
      clear t1 hbel
      cases r with
      | cons d r =>
        have hz := Lib.hid (dec_b H4.out HX.out)
        obtain ⟨Y, hY⟩ : ∃ Y : ByteArray, ⟨(d :: r).toArray⟩ = Y := ⟨_, rfl⟩
        have hYa : ¬ Y.toList = [] := by rw [← hY, txS]; simp
        have hYb : Y.toList.isEmpty = false := by rw [← hY, txS]; rfl
        rw [hY] at q0
        clear hY r1
        go_wp2_with fail
        go_ret2
        rw [hz.out]
        exact ⟨CRes.nil _ _, B1.out⟩
      | nil =>
        have hz := Lib.hid (dec_c H4.out HX.out)
        have q0' : w1.cell? ⟨w.heap.size, 0, none⟩ = some (.string ⟨#[]⟩) := q0
        have hfit := r1.fit
        have hown := r1.own
        rw [List.nil_append] at hfit hown
        have hnn : n1 ≤ 1000000 := by have := H4.out; simp only [List.length_nil] at m1; omega
        have HC := Lib.hid (vchecked_any cs o1 n1 c1 hnn (own_le hown) (fun x hx => Nat.le_trans (hfit x hx).2 (by decide)) w1 (own_cArg hown (fun x hx => (hfit x hx).1)))
        clear r1 q0 hfit hown
        go_wp2_with fail
        refine HC.out.mono ?_
        rintro e w2 ⟨⟨o4, k4, c4, rfl, h4a, h5⟩, g1⟩
        go_wp2_with fail
        go_ret2
        rw [hz.out]
        exact ⟨⟨o4, k4, c4, rfl, h4a, h5⟩, Bel.trans B1.out g1⟩
end Val
end Go.Proofs.YtegfcmnbljdcpaaGreatDoor

/-
  Layer 6: awake: the plain side of the chapter's example.
-/
namespace Go.Proofs.YtegfcmnbljdcpaaGreatDoor
open Go.RowKit Go.ChangeShapes Go.WideShapes
namespace Val

def oneC : Cel := ⟨3, 1, [], 0⟩
def nulC : Cel := ⟨1, 0, [], 0⟩
def xC : Cel := ⟨4, 0, [120], 0⟩
def awL : List Cel := [⟨5, 0, [], 2⟩, oneC, nulC]
def awM : List Cel := [⟨6, 0, [], 2⟩, ⟨4, 0, [97], 0⟩, ⟨5, 0, [], 2⟩, oneC, nulC, ⟨4, 0, [98], 0⟩, xC]
def awT : Txt := [123, 34, 97, 34, 58, 91, 49, 44, 110, 117, 108, 108, 93, 44, 34, 98, 34, 58, 34, 120, 34, 125]
theorem aw1 : chk [oneC] = 0 := by decide +kernel
theorem aw2 : chk [nulC] = 0 := by decide +kernel
theorem aw3 : chk [xC] = 0 := by decide +kernel
theorem aw4 : chk awL = 0 := by decide +kernel
theorem aw5 : chk awM = 0 := by decide +kernel
theorem aw6 : encT awM = awT := by decide +kernel
theorem aw7 : depC awM = 3 := by decide +kernel
theorem aw8 : chk [] = 1 := by decide +kernel
theorem aw9 : sameB awM awM = true := by decide +kernel
theorem aw10 : decT awT = (awM, 0) := by
  have h := chk_ok aw5
  obtain ⟨t, hp, hz⟩ := h
  have e : text t = awT := by
    have := aw6
    unfold encT at this
    rw [hp] at this
    simp only at this
    rw [if_pos hz] at this
    exact this
  have hf : flat t = awM := (par_some.1 hp).2.symm
  unfold decT
  rw [if_neg (by decide), val_some.2 e.symm]
  simp only
  rw [ckT_eq, hf]
  unfold chkd
  rw [aw5, if_pos rfl]
theorem aw11 : listB [[oneC], [nulC]] = awL ∧ listE [[oneC], [nulC]] = 0 := by decide +kernel
theorem aw12 : mapB [⟨#[97]⟩, ⟨#[98]⟩] [awL, [xC]] = awM ∧ mapE [⟨#[97]⟩, ⟨#[98]⟩] [awL, [xC]] = 0 := by
  have h1 : (⟨#[97]⟩ : ByteArray).toList = [97] := tl [97]
  have h2 : (⟨#[98]⟩ : ByteArray).toList = [98] := tl [98]
  have hm : mapC [⟨#[97]⟩, ⟨#[98]⟩] [awL, [xC]] = awM := by
    unfold mapC prsC
    simp only [List.zip_cons_cons, List.zip_nil_right, List.flatMap_cons, List.flatMap_nil, pairC, h1, h2]
    rfl
  have hf : firstE [awL, [xC]] = 0 := by decide +kernel
  unfold mapB mapE
  simp only [List.length_cons, List.length_nil, if_true, hf, hm]
  unfold chkd
  rw [aw5]
  exact ⟨rfl, rfl⟩
/-- A literal slice of two slices of cells. -/
theorem lit_LArg {w : World} {p q : Option Addr} {m c m2 c2 : Nat} {a b : List Cel} (t : TypeId) (h1 : CArg w p m a) (h2 : CArg w q m2 b) (hc : m ≤ c) (hc2 : m2 ≤ c2) :
    LArg (w.alloc (.cells #[.slice p m c, .slice q m2 c2] t)) (some ⟨w.heap.size, 0, none⟩) 2 [a, b] := by
  have B := Bel.alloc (Bel.refl w) (.cells #[.slice p m c, .slice q m2 c2] t)
  refine ⟨rfl, fun i hi => ?_⟩
  match i, hi with
  | 0, _ => exact ⟨_, p, m, c, rfl, by rw [Lib.add_plain]; exact World.cell?_alloc_new .., h1.on B, hc⟩
  | 1, _ => exact ⟨_, q, m2, c2, rfl, by rw [Lib.add_plain]; exact World.cell?_alloc_new .., h2.on B, hc2⟩
/-- A literal slice of two strings. -/
theorem lit_SlArg (w : World) (a b : ByteArray) (t : TypeId) : SlArg (w.alloc (.cells #[.string a, .string b] t)) (some ⟨w.heap.size, 0, none⟩) 2 [a, b] := by
  refine ⟨rfl, fun i hi => ?_⟩
  match i, hi with
  | 0, _ => exact ⟨_, rfl, by rw [Lib.add_plain]; exact World.cell?_alloc_new ..⟩
  | 1, _ => exact ⟨_, rfl, by rw [Lib.add_plain]; exact World.cell?_alloc_new ..⟩
set_option maxRecDepth 100000 in
set_option maxHeartbeats 4000000 in
theorem awake_any (w : World) : Calls Tryz.prog 6 #[] w fun e w' => e = .returned (.bool true) ∧ Bel w w' := by
  go_enter Tryz.func6, Tryz.ntmps6
  go_wp2_with fail
  refine (vint_any 1 (by omega) w).mono ?_
  rintro e w1 ⟨⟨o1, n1, c1, rfl, hA1, hc1⟩, g1⟩
  rw [show chkd [⟨3, 1, [], 0⟩] = [oneC] by unfold chkd; rw [show chk [⟨3, 1, [], 0⟩] = 0 from aw1]; rfl] at hA1
  rw [show chk [⟨3, 1, [], 0⟩] = 0 from aw1]
  have A1 := Lib.hid hA1
  have G1 := Lib.hid g1
  clear g1 hA1
  go_wp2_with fail
  refine (vnull_any w1).mono ?_
  rintro e w2 ⟨⟨o2, c2, rfl, hA2, hc2⟩, g2⟩
  have A2 := Lib.hid (lit_LArg 22 (A1.out.on g2) hA2 hc1 hc2)
  have G2 := Lib.hid ((Bel.trans G1.out g2).alloc (.cells #[.slice o1 n1 c1, .slice o2 1 c2] 22))
  clear g2 hA2
  go_wp2_with fail
  refine (vlist_any [[oneC], [nulC]] _ 2 2 (by omega) (by decide) (fun l hl x hx => ?_) _ A2.out).mono ?_
  · have : x.s = [] := by
      simp only [List.mem_cons, List.not_mem_nil, or_false] at hl
      rcases hl with rfl | rfl <;> (simp only [List.mem_singleton] at hx; subst hx; rfl)
    rw [this]; decide
  rintro e w3 ⟨⟨o3, n3, c3, rfl, hA3, hc3⟩, g3⟩
  rw [aw11.1] at hA3
  rw [aw11.2]
  have A3 := Lib.hid hA3
  have G3 := Lib.hid (Bel.trans G2.out g3)
  clear g3 hA3 A2 G1 G2 A1
  go_wp2_with fail
  refine (vstr_any ⟨#[120]⟩ (by decide) w3).mono ?_
  rintro e w4 ⟨⟨o4, n4, c4, rfl, hA4, hc4⟩, g4⟩
  rw [show (⟨#[120]⟩ : ByteArray).toList = [120] from tl [120]] at hA4 ⊢
  rw [show chkd [⟨4, 0, [120], 0⟩] = [xC] by unfold chkd; rw [show chk [⟨4, 0, [120], 0⟩] = 0 from aw3]; rfl] at hA4
  rw [show chk [⟨4, 0, [120], 0⟩] = 0 from aw3]
  have B4 := Bel.alloc (Bel.refl w4) (.cells #[.string ⟨#[97]⟩, .string ⟨#[98]⟩] 9)
  have A4 := Lib.hid (lit_LArg 22 ((A3.out.on g4).on B4) (hA4.on B4) hc3 hc4)
  have S4 := Lib.hid ((lit_SlArg w4 ⟨#[97]⟩ ⟨#[98]⟩ 9).on (Bel.alloc (Bel.refl _) (.cells #[.slice o3 n3 c3, .slice o4 n4 c4] 22)))
  have G4 := Lib.hid (((Bel.trans G3.out g4).trans B4).alloc (.cells #[.slice o3 n3 c3, .slice o4 n4 c4] 22))
  have hsz : Hid ((w4.alloc (.cells #[.string ⟨#[97]⟩, .string ⟨#[98]⟩] 9)).heap.size = w4.heap.size + 1) := Lib.hid (by simp)
  rw [hsz.out] at A4
  clear g4 hA4 B4 G3 A3
  go_wp2_with fail
  refine (vmap_any [⟨#[97]⟩, ⟨#[98]⟩] [awL, [xC]] _ _ 2 2 2 2 (by omega) (by omega) (fun x hx => ?_) ?_ (fun l hl => ?_) rfl _ S4.out A4.out).mono ?_
  · simp only [List.mem_cons, List.not_mem_nil, or_false] at hx
    rcases hx with rfl | rfl <;> decide
  · unfold prsC
    decide
  · simp only [List.mem_cons, List.not_mem_nil, or_false] at hl
    rcases hl with rfl | rfl
    · exact ⟨by decide, fun x hx => by
        simp only [awL, List.mem_cons, List.not_mem_nil, or_false] at hx
        rcases hx with rfl | rfl | rfl <;> decide⟩
    · exact ⟨by decide, fun x hx => by
        simp only [List.mem_singleton] at hx
        subst hx
        decide⟩
  rintro e w5 ⟨⟨o5, n5, c5, rfl, hA5, hc5⟩, g5⟩
  rw [aw12.1] at hA5
  rw [aw12.2]
  obtain rfl : n5 = 7 := hA5.1.symm
  have A5 := Lib.hid hA5
  have G5 := Lib.hid (Bel.trans G4.out g5)
  have HEn := Lib.hid (vencode_any awM o5 7 c5 (by decide) (fun x hx => by
    simp only [awM, List.mem_cons, List.not_mem_nil, or_false] at hx
    rcases hx with rfl | rfl | rfl | rfl | rfl | rfl | rfl <;> decide) w5 hA5)
  rw [aw6, aw5] at HEn
  clear g5 hA5 A4 S4 G4 hsz
  go_wp2_with fail
  refine HEn.out.mono ?_
  rintro e w6 ⟨rfl, g6⟩
  have G6 := Lib.hid (Bel.trans G5.out g6)
  have A6 := Lib.hid (A5.out.on g6)
  have hT : (⟨awT.toArray⟩ : ByteArray).toList = awT := txS awT
  have HD := Lib.hid (vdecode_any (⟨awT.toArray⟩ : ByteArray) (by decide) w6)
  rw [hT, aw10] at HD
  clear g6 hT A5 G5
  go_wp2_with fail
  refine HD.out.mono ?_
  rintro e w7 ⟨⟨o7, n7, c7, rfl, hA7, hc7⟩, g7⟩
  have G7 := Lib.hid (Bel.trans G6.out g7)
  have A7 := Lib.hid (A6.out.on g7)
  have HS := Lib.hid (vsame_any awM awM o7 o5 n7 c7 7 c5 (by have := hA7.1; rw [← this]; decide) (by decide) w7 hA7 A7.out)
  rw [aw9] at HS
  clear g7 hA7 A6 G6
  go_wp2_with fail
  refine HS.out.mono ?_
  rintro e w8 ⟨rfl, g8⟩
  have G8 := Lib.hid (Bel.trans G7.out g8)
  have HDp := Lib.hid (vdepth_any awM o5 7 c5 (by decide) (fun x hx => by
    simp only [awM, List.mem_cons, List.not_mem_nil, or_false] at hx
    rcases hx with rfl | rfl | rfl | rfl | rfl | rfl | rfl <;> decide) w8 (A7.out.on g8))
  rw [aw7] at HDp
  clear g8
  go_wp2_with fail
  refine HDp.out.mono ?_
  rintro e w9 ⟨rfl, g9⟩
  have G9 := Lib.hid (Bel.trans G8.out g9)
  have HCk := Lib.hid (vcheck_any [] none 0 0 (by decide) (fun x hx => by cases hx) w9 (CArg.nil w9 none))
  rw [aw8] at HCk
  clear g9
  go_wp2_with fail
  refine HCk.out.mono ?_
  rintro e w10 ⟨rfl, g10⟩
  go_wp2_with fail
  go_ret
  exact ⟨rfl, Bel.trans G9.out g10⟩
end Val
end Go.Proofs.YtegfcmnbljdcpaaGreatDoor
