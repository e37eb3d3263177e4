/-
  Layer 6: split, as the program has it.
-/
import Derived.Test.YtegfcmnbljdcpaaGreatDoorVdS
namespace Go.Proofs.YtegfcmnbljdcpaaGreatDoor
open Go.RowKit Go.ChangeShapes Go.WideShapes
namespace Val

theorem elem_cell : Tryz.prog.underlying 22 = some (.slice (Tryz.prog.elem 22)) := by kernel_rfl
theorem size_cell (w : World) : (sizeOf (Tryz.prog.elem 22)).run Tryz.prog w = .ok 4 w := by kernel_rfl
theorem cutF (b q n c i : Nat) (z : Int) (hz : z = (i : Int)) (hi : i < n) (hn : n ≤ c) (w : World) : (Instr.slice 22 (.slice (some ⟨b, q, none⟩) n c) (some (.int .i64 z)) none none).run Tryz.prog w = .ok (.slice (some ⟨b, q + i * 4, none⟩) (n - i) (c - i)) w := by
  subst hz
  rw [run_slice_l w _ _ _ _ elem_cell .i64 _ (by omega) (by omega), size_cell]
  have h : ¬ c = i := by omega
  simp [Result.andThen, sliced, h, Addr.add]
theorem cutB (b q n c i j : Nat) (z y : Int) (hz : z = (i : Int)) (hy : y = (j : Int)) (hi : i < j) (hn : j ≤ c) (w : World) : (Instr.slice 22 (.slice (some ⟨b, q, none⟩) n c) (some (.int .i64 z)) (some (.int .i64 y)) none).run Tryz.prog w = .ok (.slice (some ⟨b, q + i * 4, none⟩) (j - i) (c - i)) w := by
  subst hz hy
  rw [run_slice_lh w _ _ _ _ elem_cell .i64 .i64 _ _ (by omega) (by omega) (by omega), size_cell]
  have h : ¬ c = i := by omega
  simp [Result.andThen, sliced, h, Addr.add]
theorem CArg.sub {w : World} {b q n : Nat} {l : List Cel} (h : CArg w (some ⟨b, q, none⟩) n l) (i m : Nat) (hm : i + m ≤ n) (hn : 0 < n) : CArg w (some ⟨b, q + i * 4, none⟩) m ((l.drop i).take m) := by
  obtain ⟨h1, h2, h3⟩ := h
  refine ⟨by rw [List.length_take, List.length_drop]; omega, fun c hc => h2 c (List.mem_of_mem_drop (List.mem_of_mem_take hc)), fun _ => ?_⟩
  obtain ⟨b', off, e, k⟩ := h3 hn
  cases e
  refine ⟨b, q + i * 4, rfl, fun j hj => ?_⟩
  rw [List.length_take, List.length_drop] at hj
  have hij : i + j < l.length := by omega
  have := k (i + j) hij
  have e2 : ((l.drop i).take m)[j]'(by rw [List.length_take, List.length_drop]; omega) = l[i + j] := by simp
  rw [e2, show q + i * 4 + j * 4 = q + (i + j) * 4 by omega]
  exact this
/-- Names and values as split returns them. -/
def SpRes (V w : World) (e : Ending) (ps : List ByteArray) (ls : List (List Cel)) : Prop := ∃ aN mN cN aV mV cV qs, e = .returned (.tuple #[.slice aN mN cN, .slice aV mV cV]) ∧ Rows V w aN mN cN ps aV mV cV qs ∧ Itms V qs ls
set_option maxRecDepth 100000 in
set_option maxHeartbeats 4000000 in
theorem split_map (x : M) (l : List Cel) (hl : l = flat (.map x)) (o : Option Addr) (n c : Nat) (hn : n ≤ 1000000) (hc : n ≤ c) (w : World) (hA : CArg w o n l) :
    Calls Tryz.prog 31 #[.slice o n c] w fun e w' => SpRes w w' e (keysM x) (valsM x) := by
  have hln := hA.1
  have hpos := flat_pos (.map x)
  rw [← hl] at hpos
  obtain ⟨b, q, rfl, hcs⟩ := hA.2.2 (by omega)
  obtain ⟨z1, -, -, -⟩ := hcs 0 hpos
  have h0 : l[0] = ⟨6, 0, [], (lenM x : Int)⟩ := by subst hl; rfl
  rw [h0] at z1
  simp only [Nat.zero_mul, Nat.add_zero] at z1
  have Z1 := Lib.hid z1
  have HA := Lib.hid hA
  have HCS := Lib.hid hcs
  have H0 : Hid (l.drop 1 = flatM x) := Lib.hid (by subst hl; rfl)
  have hn0 : 0 < n := by omega
  clear hA hl h0 z1 hcs
  go_enter Tryz.func31, Tryz.ntmps31
  go_wp2
  go_loopw [2, 3, 4] (fun kv iv pv wr => ∃ (p : Nat) (y : M) (aN : Option Addr) (mN cN : Nat) (ps : List ByteArray) (aV : Option Addr) (mV cV : Nat) (qs : List Value) (ls : List (List Cel)), kv = .slice aN mN cN ∧ iv = .slice aV mV cV ∧ pv = .int .i64 (p : Int) ∧ p ≤ n ∧ mN ≤ p ∧ mV ≤ p ∧ Hid (l.drop p = flatM y) ∧ Hid (Rows w wr aN mN cN ps aV mV cV qs) ∧ Hid (Itms w qs ls) ∧ Hid (ps ++ keysM y = keysM x) ∧ Hid (ls ++ valsM y = valsM x)) (fun _ _ pv _ => n - (intOf pv).toNat)
  case atStart => exact ⟨1, x, none, 0, 0, [], none, 0, 0, [], [], rfl, rfl, rfl, by omega, by omega, by omega, H0, Lib.hid (Rows.nil w w (Bel.refl w)), Lib.hid (Itms.nil w), Lib.hid rfl, Lib.hid rfl⟩
  case round =>
    obtain ⟨p, y, aN, mN, cN, ps, aV, mV, cV, qs, ls, rfl, rfl, rfl, hp, hmN, hmV, hd, hR, hI, hk, hv⟩ := hrel
    rename World => W0
    clear H0
    cases y with
    | nil =>
      have hpn : p = n := by
        have := congrArg List.length hd.out
        rw [List.length_drop] at this
        simp only [flatM, List.length_nil] at this
        omega
      subst hpn
      have hk2 : Hid (ps = keysM x) := Lib.hid (by rw [← hk.out]; simp [keysM])
      have hv2 : Hid (ls = valsM x) := Lib.hid (by rw [← hv.out]; simp [valsM])
      clear hk hv
      go_wp2
      go_ret2
      exact ⟨_, _, _, _, _, _, _, rfl, by rw [← hk2.out]; exact hR.out, by rw [← hv2.out]; exact hI.out⟩
    | cons k v r =>
      have hdd := hd.out
      rw [flatM] at hdd
      have hll := congrArg List.length hdd
      rw [List.length_drop, List.length_cons, List.length_append] at hll
      have hvp := flat_pos v
      have hpl : p < l.length := by omega
      obtain ⟨hcp, hdr⟩ := List.cons.inj ((List.drop_eq_getElem_cons hpl).symm.trans hdd)
      obtain ⟨-, -, y3, -⟩ := HCS.out p hpl
      rw [hcp] at y3
      obtain ⟨K, hK⟩ : ∃ K : ByteArray, ⟨k.toArray⟩ = K := ⟨_, rfl⟩
      simp only at y3
      rw [hK] at y3
      have Y3 := Lib.hid y3
      obtain ⟨d, hdl⟩ : ∃ d, (flat v).length = d := ⟨_, rfl⟩
      rw [hdl] at hvp hll
      have hsub := HA.out.sub (p + 1) d (by omega) hn0
      rw [hdr, List.take_left' hdl] at hsub
      have SUB := Lib.hid hsub
      have hsz := HA.out.sub (p + 1) (n - (p + 1)) (by omega) hn0
      rw [List.take_of_length_le (by rw [List.length_drop]; omega)] at hsz
      have HSZ := Lib.hid (fun (W : World) (g : Bel w W) => size_any v (l.drop (p + 1)) (flatM r) hdr (some ⟨b, q + (p + 1) * 4, none⟩) (n - (p + 1)) (c - (p + 1)) (by omega) W (hsz.on g))
      rw [hdl] at HSZ
      have cut1 := fun W => cutF b q n c (p + 1) ((p : Int) + 1) rfl (by omega) hc W
      have cut2 := fun W => cutB b q n c (p + 1) (p + 1 + d) ((p : Int) + 1) ((p : Int) + 1 + (d : Int)) rfl (by omega) (by omega) (by omega) W
      rw [show p + 1 + d - (p + 1) = d by omega] at cut2
      have HDR : Hid (l.drop (p + 1 + d) = flatM r) := Lib.hid (by rw [← List.drop_drop, hdr, List.drop_left' hdl])
      have hk2 : Hid ((ps ++ [K]) ++ keysM r = keysM x) := Lib.hid (by rw [← hk.out, ← hK]; simp [keysM])
      have hv2 : Hid ((ls ++ [flat v]) ++ valsM r = valsM x) := Lib.hid (by rw [← hv.out]; simp [valsM])
      have hI2 := Lib.hid (hI.out.add (d := c - (p + 1)) SUB.out (by omega))
      have hB0 := Lib.hid hR.out.2.2.2
      have x1 := hB0.out.cell' Z1.out
      have x3 := hB0.out.cell' Y3.out
      have RA := Lib.hid (hR.out.on (Bel.alloc (Bel.refl W0) (.cells #[.string K] 9)))
      have qa := Lib.hid (cell_new1 W0 (.string K) 9)
      have ba : Hid (mN + 1 ≤ 1099511627776) := Lib.hid (by omega)
      have hpi : (p : Int) < (n : Int) := by omega
      clear hdd hcp hdr hK y3 hdl hsub hsz hd hk hv hI hR
      go_wp2_with (at_builtin; refine list_appN _ _ rfl rfl rfl rfl RA.out qa.out ba.out ?_; intro oN kN wN hN; refine Hid.out ?_)
      refine Lib.hid ?_
      clear RA qa ba x1 x3
      have BN := Lib.hid hN.out.2.2.2
      go_wp2_with fail
      refine (HSZ.out _ BN.out).mono ?_
      rintro e wS ⟨rfl, gS⟩
      have hN2 := Lib.hid (hN.out.on gS)
      have RB := Lib.hid (hN2.out.on (Bel.alloc (Bel.refl wS) (.cells #[.slice (some ⟨b, q + (p + 1) * 4, none⟩) d (c - (p + 1))] 22)))
      have qb := Lib.hid (cell_new1 wS (.slice (some ⟨b, q + (p + 1) * 4, none⟩) d (c - (p + 1))) 22)
      have bb : Hid (mV + 1 ≤ 1099511627776) := Lib.hid (by omega)
      clear gS hN HSZ BN
      go_wp2_with (at_builtin; refine list_appV _ _ rfl rfl rfl rfl RB.out qb.out bb.out ?_; intro oV kV wV hV; refine Hid.out ?_)
      refine Lib.hid ?_
      clear RB qb bb hN2 hB0
      go_wp2
      go_round
      case rel => exact ⟨p + 1 + d, r, oN, mN + 1, kN, _, oV, mV + 1, kV, _, _, rfl, rfl, by go_num, by omega, by omega, by omega, HDR, hV, hI2, hk2, hv2⟩
      case measure => simp [intOf]; omega
set_option maxRecDepth 100000 in
set_option maxHeartbeats 4000000 in
theorem split_list (x : L) (l : List Cel) (hl : l = flat (.list x)) (o : Option Addr) (n c : Nat) (hn : n ≤ 1000000) (hc : n ≤ c) (w : World) (hA : CArg w o n l) :
    Calls Tryz.prog 31 #[.slice o n c] w fun e w' => SpRes w w' e [] (valsL x) := by
  have hln := hA.1
  have hpos := flat_pos (.list x)
  rw [← hl] at hpos
  obtain ⟨b, q, rfl, hcs⟩ := hA.2.2 (by omega)
  obtain ⟨z1, -, -, -⟩ := hcs 0 hpos
  have h0 : l[0] = ⟨5, 0, [], (lenL x : Int)⟩ := by subst hl; rfl
  rw [h0] at z1
  simp only [Nat.zero_mul, Nat.add_zero] at z1
  have Z1 := Lib.hid z1
  have HA := Lib.hid hA
  have H0 : Hid (l.drop 1 = flatL x) := Lib.hid (by subst hl; rfl)
  have hn0 : 0 < n := by omega
  clear hA hl h0 z1 hcs
  go_enter Tryz.func31, Tryz.ntmps31
  go_wp2
  go_loopw [2, 3, 4] (fun kv iv pv wr => ∃ (p : Nat) (y : L) (aV : Option Addr) (mV cV : Nat) (qs : List Value) (ls : List (List Cel)), kv = .slice none 0 0 ∧ iv = .slice aV mV cV ∧ pv = .int .i64 (p : Int) ∧ p ≤ n ∧ mV ≤ p ∧ Hid (l.drop p = flatL y) ∧ Hid (Rows w wr none 0 0 [] aV mV cV qs) ∧ Hid (Itms w qs ls) ∧ Hid (ls ++ valsL y = valsL x)) (fun _ _ pv _ => n - (intOf pv).toNat)
  case atStart => exact ⟨1, x, none, 0, 0, [], [], rfl, rfl, rfl, by omega, by omega, H0, Lib.hid (Rows.nil w w (Bel.refl w)), Lib.hid (Itms.nil w), Lib.hid rfl⟩
  case round =>
    obtain ⟨p, y, aV, mV, cV, qs, ls, rfl, rfl, rfl, hp, hmV, hd, hR, hI, hv⟩ := hrel
    rename World => W0
    clear H0
    cases y with
    | nil =>
      have hpn : p = n := by
        have := congrArg List.length hd.out
        rw [List.length_drop] at this
        simp only [flatL, List.length_nil] at this
        omega
      subst hpn
      have hv2 : Hid (ls = valsL x) := Lib.hid (by rw [← hv.out]; simp [valsL])
      clear hv
      go_wp2
      go_ret2
      exact ⟨_, _, _, _, _, _, _, rfl, hR.out, by rw [← hv2.out]; exact hI.out⟩
    | cons v r =>
      have hdr := hd.out
      rw [flatL] at hdr
      have hll := congrArg List.length hdr
      rw [List.length_drop, List.length_append] at hll
      have hvp := flat_pos v
      obtain ⟨d, hdl⟩ : ∃ d, (flat v).length = d := ⟨_, rfl⟩
      rw [hdl] at hvp hll
      have hsub := HA.out.sub p d (by omega) hn0
      rw [hdr, List.take_left' hdl] at hsub
      have SUB := Lib.hid hsub
      have hsz := HA.out.sub p (n - p) (by omega) hn0
      rw [List.take_of_length_le (by rw [List.length_drop]; omega)] at hsz
      have HSZ := Lib.hid (fun (W : World) (g : Bel w W) => size_any v (l.drop p) (flatL r) hdr (some ⟨b, q + p * 4, none⟩) (n - p) (c - p) (by omega) W (hsz.on g))
      rw [hdl] at HSZ
      have cut1 := fun W => cutF b q n c p (p : Int) rfl (by omega) hc W
      have cut2 := fun W => cutB b q n c p (p + d) (p : Int) ((p : Int) + (d : Int)) rfl (by omega) (by omega) (by omega) W
      rw [show p + d - p = d by omega] at cut2
      have HDR : Hid (l.drop (p + d) = flatL r) := Lib.hid (by rw [← List.drop_drop, hdr, List.drop_left' hdl])
      have hv2 : Hid ((ls ++ [flat v]) ++ valsL r = valsL x) := Lib.hid (by rw [← hv.out]; simp [valsL])
      have hI2 := Lib.hid (hI.out.add (d := c - p) SUB.out (by omega))
      have hB0 := Lib.hid hR.out.2.2.2
      have x1 := hB0.out.cell' Z1.out
      have hpi : (p : Int) < (n : Int) := by omega
      clear hdr hdl hsub hsz hd hv hI
      go_wp2_with fail
      refine (HSZ.out _ hB0.out).mono ?_
      rintro e wS ⟨rfl, gS⟩
      have hN2 := Lib.hid (hR.out.on gS)
      have RB := Lib.hid (hN2.out.on (Bel.alloc (Bel.refl wS) (.cells #[.slice (some ⟨b, q + p * 4, none⟩) d (c - p)] 22)))
      have qb := Lib.hid (cell_new1 wS (.slice (some ⟨b, q + p * 4, none⟩) d (c - p)) 22)
      have bb : Hid (mV + 1 ≤ 1099511627776) := Lib.hid (by omega)
      clear gS hR HSZ x1
      go_wp2_with (at_builtin; refine list_appV _ _ rfl rfl rfl rfl RB.out qb.out bb.out ?_; intro oV kV wV hV; refine Hid.out ?_)
      refine Lib.hid ?_
      clear RB qb bb hN2 hB0
      go_wp2
      go_round
      case rel => exact ⟨p + d, r, oV, mV + 1, kV, _, _, rfl, rfl, by go_num, by omega, by omega, HDR, hV, hI2, hv2⟩
      case measure => simp [intOf]; omega
end Val
end Go.Proofs.YtegfcmnbljdcpaaGreatDoor
