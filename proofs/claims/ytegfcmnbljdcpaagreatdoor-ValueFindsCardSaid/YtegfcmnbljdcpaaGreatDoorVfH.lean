/-
  Layer 6: Items, as the program has it.
-/
import Derived.Test.YtegfcmnbljdcpaaGreatDoorVfD
import Derived.Test.YtegfcmnbljdcpaaGreatDoorMJ
import Derived.Test.YtegfcmnbljdcpaaGreatDoorVdW
import Derived.Test.YtegfcmnbljdcpaaGreatDoorME
namespace Go.Proofs.YtegfcmnbljdcpaaGreatDoor
open Go.RowKit Go.ChangeShapes Go.WideShapes
namespace Val

set_option maxRecDepth 100000 in
set_option maxHeartbeats 4000000 in
theorem split_listU (U : World) (x : L) (l : List Cel) (hl : l = flat (.list x)) (o : Option Addr) (n c : Nat) (hn : n ≤ 1000000) (hc : n ≤ c) (w : World) (hA : CArg w o n l) (hU : CArg U o n l) :
    Calls Tryz.prog 31 #[.slice o n c] w fun e w' => SpU U w w' e [] (valsL x) := by
  have hln := hA.1
  have hpos := flat_pos (.list x)
  rw [← hl] at hpos
  obtain ⟨b, q, rfl, hcs⟩ := hA.2.2 (by omega)
  obtain ⟨z1, -, -, -⟩ := hcs 0 hpos
  have h0 : l[0] = ⟨5, 0, [], (lenL x : Int)⟩ := by subst hl; rfl
  rw [h0] at z1
  simp only [Nat.zero_mul, Nat.add_zero] at z1
  have Z1 := Lib.hid z1
  have HA := Lib.hid hA
  have HU := Lib.hid hU
  clear hU
  have H0 : Hid (l.drop 1 = flatL x) := Lib.hid (by subst hl; rfl)
  have hn0 : 0 < n := by omega
  clear hA hl h0 z1 hcs
  go_enter Tryz.func31, Tryz.ntmps31
  go_wp2
  go_loopw [2, 3, 4] (fun kv iv pv wr => ∃ (p : Nat) (y : L) (aV : Option Addr) (mV cV : Nat) (qs : List Value) (ls : List (List Cel)), kv = .slice none 0 0 ∧ iv = .slice aV mV cV ∧ pv = .int .i64 (p : Int) ∧ p ≤ n ∧ mV ≤ p ∧ Hid (l.drop p = flatL y) ∧ Hid (Rows w wr none 0 0 [] aV mV cV qs) ∧ Hid (Itms U qs ls) ∧ Hid (ls ++ valsL y = valsL x)) (fun _ _ pv _ => n - (intOf pv).toNat)
  case atStart => exact ⟨1, x, none, 0, 0, [], [], rfl, rfl, rfl, by omega, by omega, H0, Lib.hid (Rows.nil w w (Bel.refl w)), Lib.hid (Itms.nil U), Lib.hid rfl⟩
  case round =>
    obtain ⟨p, y, aV, mV, cV, qs, ls, rfl, rfl, rfl, hp, hmV, hd, hR, hI, hv⟩ := hrel
    rename World => W0
    clear H0
    cases y with
    | nil =>
      have hpn : p = n := by
        have := congrArg List.length hd.out
        rw [List.length_drop] at this
        simp only [flatL, List.length_nil] at this
        omega
      subst hpn
      have hv2 : Hid (ls = valsL x) := Lib.hid (by rw [← hv.out]; simp [valsL])
      clear hv
      go_wp2
      go_ret2
      exact ⟨_, _, _, _, _, _, _, rfl, hR.out, by rw [← hv2.out]; exact hI.out⟩
    | cons v r =>
      have hdr := hd.out
      rw [flatL] at hdr
      have hll := congrArg List.length hdr
      rw [List.length_drop, List.length_append] at hll
      have hvp := flat_pos v
      obtain ⟨d, hdl⟩ : ∃ d, (flat v).length = d := ⟨_, rfl⟩
      rw [hdl] at hvp hll
      have hsub := HU.out.sub p d (by omega) hn0
      rw [hdr, List.take_left' hdl] at hsub
      have SUB := Lib.hid hsub
      have hsz := HA.out.sub p (n - p) (by omega) hn0
      rw [List.take_of_length_le (by rw [List.length_drop]; omega)] at hsz
      have HSZ := Lib.hid (fun (W : World) (g : Bel w W) => size_any v (l.drop p) (flatL r) hdr (some ⟨b, q + p * 4, none⟩) (n - p) (c - p) (by omega) W (hsz.on g))
      rw [hdl] at HSZ
      have cut1 := fun W => cutF b q n c p (p : Int) rfl (by omega) hc W
      have cut2 := fun W => cutB b q n c p (p + d) (p : Int) ((p : Int) + (d : Int)) rfl (by omega) (by omega) (by omega) W
      rw [show p + d - p = d by omega] at cut2
      have HDR : Hid (l.drop (p + d) = flatL r) := Lib.hid (by rw [← List.drop_drop, hdr, List.drop_left' hdl])
      have hv2 : Hid ((ls ++ [flat v]) ++ valsL r = valsL x) := Lib.hid (by rw [← hv.out]; simp [valsL])
      have hI2 := Lib.hid (hI.out.add (d := c - p) SUB.out (by omega))
      have hB0 := Lib.hid hR.out.2.2.2
      have x1 := hB0.out.cell' Z1.out
      have hpi : (p : Int) < (n : Int) := by omega
      clear hdr hdl hsub hsz hd hv hI
      go_wp2_with fail
      refine (HSZ.out _ hB0.out).mono ?_
      rintro e wS ⟨rfl, gS⟩
      have hN2 := Lib.hid (hR.out.on gS)
      have RB := Lib.hid (hN2.out.on (Bel.alloc (Bel.refl wS) (.cells #[.slice (some ⟨b, q + p * 4, none⟩) d (c - p)] 22)))
      have qb := Lib.hid (cell_new1 wS (.slice (some ⟨b, q + p * 4, none⟩) d (c - p)) 22)
      have bb : Hid (mV + 1 ≤ 1099511627776) := Lib.hid (by omega)
      clear gS hR HSZ x1
      go_wp2_with (at_builtin; refine list_appV _ _ rfl rfl rfl rfl RB.out qb.out bb.out ?_; intro oV kV wV hV; refine Hid.out ?_)
      refine Lib.hid ?_
      clear RB qb bb hN2 hB0
      go_wp2
      go_round
      case rel => exact ⟨p + d, r, oV, mV + 1, kV, _, _, rfl, rfl, by go_num, by omega, by omega, HDR, hV, hI2, hv2⟩
      case measure => simp [intOf]; omega
set_option maxRecDepth 100000 in
set_option maxHeartbeats 4000000 in
theorem clone_new (l : List Cel) (o : Option Addr) (n c : Nat) (hn0 : 0 < n) (hn : n ≤ 1000000) (w : World) (hA : CArg w o n l) :
    Calls Tryz.prog 32 #[.slice o n c] w fun e w' => (∃ o2 c2, e = .returned (.slice o2 n c2) ∧ CArg w' o2 n l ∧ n ≤ c2 ∧ ∀ i, (Value.slice o2 n c2).ownBlock = some i → w.heap.size ≤ i) ∧ Bel w w' := by
  obtain ⟨b, q, rfl, -⟩ := hA.2.2 (by have := hA.1; omega)
  have hfit := Lib.hid hA.2.1
  have own1 := Lib.hid (World.ownsRow_lit (base := w.heap.size) (e := 43) (size := 4) w #[] 0 (Nat.le_refl _) (by decide) rfl)
  have B1 := Lib.hid (Bel.alloc (Bel.refl w) (.cells #[] 43))
  have own2 : Hid ((w.alloc (.cells #[] 43)).ownsRow w.heap.size 43 4 (.slice (some ⟨w.heap.size, 0, none⟩) 0 0) 0 (encCs [])) := own1
  have C1 := Lib.hid (hA.on B1.out)
  have q1 : Hid (0 + n ≤ 1099511627776) := Lib.hid (by omega)
  have hnil : ∀ W : World, (binOp .eql 22 (.slice (some ⟨b, q, none⟩) n c) (.slice none 0 0)).run Tryz.prog W = .ok (.bool false) W := fun W => by
    have hu := Tryz.underlying22
    first
      | rfl
      | (simp [binOp, go_sem, hu]; done)
      | (unfold binOp; simp [go_sem, hu]; trace_state; done)
  clear hA own1
  go_enter Tryz.func32, Tryz.ntmps32
  go_wp2_with (at_builtin; refine list_appC _ _ rfl rfl rfl rfl rfl B1.out own2.out C1.out hn0 q1.out ?_; intro o3 c3 w3 g3 k3; refine Hid.out ?_)
  refine Lib.hid ?_
  rw [Nat.zero_add, List.nil_append] at k3
  have hmc : n ≤ c3 := by
    obtain ⟨_, _, h5, hmc⟩ := own4_shape k3.out
    cases h5
    exact hmc
  have hca := Lib.hid (own_cArg k3.out hfit.out)
  go_wp2
  go_ret
  exact ⟨⟨_, _, by simp, hca.out, hmc, fun i h => (k3.out.lt i h).1⟩, g3.out⟩
/-- A slice of cells stored into an owned row of such, in place of one that reads the same. -/
theorem LOwn.put {w : World} {base g k c j m d : Nat} {p : Option Addr} {ls : List (List Cel)} (h : LOwn w base (some ⟨g, 0, none⟩) k c ls) (hj : j < ls.length) (hx : CArg w p m ls[j]) (hm : m ≤ d) (ha : Apart p (some g)) : LOwn (w.setCell ⟨g, j, none⟩ (.slice p m d)) base (some ⟨g, 0, none⟩) k c ls := by
  obtain ⟨qs, h1, h2, h3⟩ := h
  have G : w.grownBy (w.setCell ⟨g, j, none⟩ (.slice p m d)) (some g) := grown_set (fun i hi hne => Below.heap_setCell _ _ _ _ hne) rfl rfl rfl (by simp [World.setCell])
  refine ⟨qs.set j (.slice p m d), own_set h1 (b := g) (j := j) rfl _, by simp [h2], fun i a a' => ?_⟩
  rw [List.length_set] at a'
  by_cases e : j = i
  · subst e
    exact ⟨p, m, d, by rw [List.getElem_set_self], hx.grown G ha, hm, fun _ => ha⟩
  · obtain ⟨p1, m1, d1, q1, q2, q3, q4⟩ := h3 i a a'
    refine ⟨p1, m1, d1, by rw [List.getElem_set_ne e]; exact q1, ?_, q3, q4⟩
    by_cases h0 : 0 < m1
    · exact q2.grown G (q4 h0)
    · exact ⟨q2.1, q2.2.1, fun hn => absurd hn h0⟩
theorem rows_own {w w1 w2 : World} {aN aV : Option Addr} {mN cN mV cV : Nat} {ps : List ByteArray} {qs : List Value} {ls : List (List Cel)} (hR : Rows w1 w2 aN mN cN ps aV mV cV qs) (hI : Itms w qs ls) (b : Bel w w1) : LOwn w2 w1.heap.size aV mV cV ls := by
  refine ⟨qs, hR.2.1, hI.1, fun i h h' => ?_⟩
  obtain ⟨p, m, d, e, hC, hm⟩ := hI.2 i h h'
  refine ⟨p, m, d, e, hC.on (Bel.trans b hR.2.2.2), hm, fun h0 a ha hr => ?_⟩
  subst ha
  have h1 := hC.lt h0
  have h2 := (hR.2.1.lt a.block hr.symm).1
  have h3 := b.size
  omega
set_option maxRecDepth 100000 in
set_option maxHeartbeats 4000000 in
/-- Items of a list or a map. -/
theorem vitems_group (l : List Cel) (t : V) (hp : par l = some t) (ht : chkT l t = 0) (ls : List (List Cel)) (hfw : ls.length ≤ 1000000) (hn0 : ∀ y ∈ ls, 0 < y.length ∧ y.length ≤ 1000000) (hg : ∀ (o : Option Addr) (n c : Nat), n ≤ 1000000 → n ≤ c → ∀ w W, Bel w W → CArg w o n l →
      Calls Tryz.prog 31 #[.slice o n c] W fun e w' => ∃ ps, SpU w W w' e ps ls) (hgr : ∃ h r, flat t = h :: r ∧ isGrp h = true)
    (o : Option Addr) (n c : Nat) (hn : n ≤ 1000000) (hc : n ≤ c) (hsh : Shrt l) (w : World) (hA : CArg w o n l) :
    Calls Tryz.prog 7 #[.slice o n c] w fun e w' => LRes w' e ls 0 ∧ Bel w w' := by
  obtain ⟨_, hlf⟩ := par_some.1 hp
  have hC := vcheck_any l o n c hn hsh w hA
  rw [show chk l = 0 from by unfold chk; rw [hp]; exact ht] at hC
  have HC := Lib.hid hC
  have HS := Lib.hid (fun W (g : Bel w W) => hg o n c hn hc w W g hA)
  obtain ⟨h, r, hf, hk⟩ := hgr
  have hpos := flat_pos t
  rw [← hlf] at hpos
  have hln := hA.1
  obtain ⟨b, q, rfl, hcs⟩ := hA.2.2 (by omega)
  obtain ⟨z1, z2, z3, z4⟩ := hcs 0 hpos
  have hl0 : l[0] = h := by simp only [hlf, hf, List.getElem_cons_zero]
  rw [hl0] at z1 z2 z3 z4
  simp only [Nat.zero_mul, Nat.add_zero] at z1 z2 z3 z4
  obtain ⟨hk1, hi1, hs1, hn1⟩ := h
  simp only at z1 z2 z3 z4
  obtain ⟨X, hX⟩ : ∃ X : ByteArray, ⟨hs1.toArray⟩ = X := ⟨_, rfl⟩
  rw [hX] at z3
  have hG := fun W => isGroup_any hk1 hi1 hn1 X W
  have hk2 : isGrp ⟨hk1, hi1, X.toList, hn1⟩ = true := hk
  rw [hk2] at hG
  have HG := Lib.hid hG
  have Z1 := Lib.hid z1
  have Z2 := Lib.hid z2
  have Z3 := Lib.hid z3
  have Z4 := Lib.hid z4
  have hn00 : 0 < n := by omega
  have HN := Lib.hid hn0
  clear hC hg hf hk hk2 hG hX hcs z1 z2 z3 z4 hl0 hlf hp ht hA hpos hn0 hln
  go_enter Tryz.func7, Tryz.ntmps7
  go_wp2_with fail
  refine HC.out.mono ?_
  rintro e w1 ⟨rfl, g1⟩
  have G1 := Lib.hid g1
  have y1 := g1.cell' Z1.out
  have y2 := g1.cell' Z2.out
  have y3 := g1.cell' Z3.out
  have y4 := g1.cell' Z4.out
  clear g1
  go_wp2_with fail
  refine (HG.out w1).mono ?_
  rintro e w2 ⟨rfl, g2⟩
  have G2 := Lib.hid (Bel.trans G1.out g2)
  clear g2 y1 y2 y3 y4
  go_wp2_with fail
  refine (HS.out w2 G2.out).mono ?_
  rintro e w3 ⟨ps, aN, mN, cN, aV, mV, cV, qs, rfl, hR, hI⟩
  have LO := Lib.hid (rows_own hR hI G2.out)
  have G3 := Lib.hid (Bel.trans G2.out hR.2.2.2)
  have hlV : mV = ls.length := by have h1 := hR.2.1.1; have h2 := hI.1; omega
  have hlVa : mV ≤ ls.length := Nat.le_of_eq hlV
  have hlVb : ls.length ≤ mV := Nat.le_of_eq hlV.symm
  have hbig : mV ≤ 1000000 := by omega
  have hsz : w.heap.size ≤ w2.heap.size := G2.out.size
  clear hR hI hlV HS HC HG G1
  go_wp2
  go_loopw [25] (fun i wr => ∃ j : Nat, i = .int .i64 (j : Int) ∧ j ≤ mV ∧ Hid (LOwn wr w2.heap.size aV mV cV ls) ∧ Hid (Bel w wr)) (fun i _ => mV - (intOf i).toNat)
  case atStart => exact ⟨0, rfl, Nat.zero_le _, LO, G3⟩
  case round =>
    obtain ⟨j, rfl, hj, hO, hB⟩ := hrel
    rename World => W0
    clear LO G3
    by_cases hjm : j < mV
    · have hjl : j < ls.length := by omega
      obtain ⟨vs, h1, h2, h3⟩ := hO.out
      obtain ⟨p, m, d, e1, hC, hmd, hap⟩ := h3 j hjl (by omega)
      obtain ⟨hvl, hvr⟩ := row_of_own h1
      rcases hvr with ⟨rfl, h0, _⟩ | ⟨g, f, rfl, hb, hr, hnc, hm, hxf⟩
      · omega
      have hfz : W0.frozen? ⟨g, j, none⟩ = false := hr.frozen j
      have hcl : W0.cell? ⟨g, j, none⟩ = some (.slice p m d) := by
        rw [hr.cell (i := j) (by omega), ← hxf j hjm, ← e1]
        exact List.getElem?_eq_getElem _
      have hlt := hr.lt
      have hyl := HN.out ls[j] (List.getElem_mem hjl)
      have hm1 : m = ls[j].length := hC.1.symm
      have HCl := Lib.hid (clone_new ls[j] p m d (by omega) (by omega) W0 hC)
      have Hcl := Lib.hid hcl
      have Hfz := Lib.hid hfz
      clear h1 h2 h3 e1 hC hap hvl hr hxf hfz hyl hm1
      go_wp2_with fail
      refine HCl.out.mono ?_
      rintro e w5 ⟨⟨o5, c5, rfl, hC5, hm5, hn5⟩, g5⟩
      have hcl5 := g5.cell' Hcl.out
      have hfz5 : w5.frozen? ⟨g, j, none⟩ = false := (World.frozen?_of_block (g5.block g hlt)).trans Hfz.out
      have LP := Lib.hid (LOwn.put (hO.out.on g5) hjl hC5 hm5 (fun a ha hr => by
        subst ha
        have e5 : a.block = g := Option.some.inj hr
        have := hn5 a.block rfl
        omega))
      have B5 := Lib.hid (show Bel w (w5.setCell ⟨g, j, none⟩ (.slice o5 m c5)) from Below.setCell (Bel.trans hB.out g5) (p := ⟨g, j, none⟩) (by show w.heap.size ≤ g; omega) _)
      clear HCl Hcl Hfz hC5 hn5 g5 hcl hO hB
      go_wp2
      go_round
      case rel => exact ⟨j + 1, by go_num, by omega, LP, B5⟩
      case measure => simp [intOf]; omega
    · have hjn : ¬ (j : Int) < (mV : Int) := by omega
      go_wp2
      go_ret2
      exact ⟨⟨_, _, _, rfl, hO.out.arg.1, hO.out.arg.2⟩, hB.out⟩
end Val
end Go.Proofs.YtegfcmnbljdcpaaGreatDoor
