/-
  Layer 6: Items in every case; the law's readers same and texts.
-/
import Derived.Test.YtegfcmnbljdcpaaGreatDoorVfH
import Derived.Test.YtegfcmnbljdcpaaGreatDoorME
namespace Go.Proofs.YtegfcmnbljdcpaaGreatDoor
open Go.RowKit Go.ChangeShapes Go.WideShapes
namespace Val

theorem valsL_in : ∀ (x : L) (y : List Cel), y ∈ valsL x → 0 < y.length ∧ y.length ≤ (flatL x).length
  | .nil, y, h => by cases h
  | .cons v r, y, h => by
    rw [valsL] at h
    rw [flatL, List.length_append]
    rcases List.mem_cons.1 h with rfl | h
    · exact ⟨flat_pos v, by omega⟩
    · have := valsL_in r y h
      omega
theorem valsM_in (m : M) (y : List Cel) (h : y ∈ valsM m) : 0 < y.length ∧ y.length ≤ (flatM m).length := by
  obtain ⟨u, rfl, _, _, h2, _⟩ := valsM_sub m y h
  exact ⟨flat_pos u, h2⟩
theorem grp_kind (t : V) : ∃ h r, flat t = h :: r ∧ isGrp h = (match t with | .list _ => true | .map _ => true | _ => false) := by
  cases t with
  | null => exact ⟨_, _, rfl, rfl⟩
  | bool b => exact ⟨_, _, rfl, rfl⟩
  | int n => exact ⟨_, _, rfl, rfl⟩
  | str s => exact ⟨_, _, rfl, rfl⟩
  | list x => exact ⟨_, _, rfl, rfl⟩
  | map x => exact ⟨_, _, rfl, rfl⟩
theorem itmB_le (l : List Cel) : (itmB l).length ≤ 1000000 := by
  unfold itmB
  split
  · next t hp =>
    obtain ⟨_, hlf⟩ := par_some.1 hp
    split
    · next ht =>
      have hlen := chk_len ht
      cases t with
      | list x =>
        have h1 : (valsL x).length ≤ (flatL x).length := by rw [valsL_len]; exact lenL_le x
        have e : (flatL x).length + 1 = l.length := by rw [hlf, flat, List.length_cons]
        show (valsL x).length ≤ _
        omega
      | map x =>
        have h1 : (valsM x).length ≤ (flatM x).length := by rw [valsM_len]; exact lenM_le x
        have e : (flatM x).length + 1 = l.length := by rw [hlf, flat, List.length_cons]
        show (valsM x).length ≤ _
        omega
      | _ => exact Nat.zero_le _
    · exact Nat.zero_le _
  · exact Nat.zero_le _
/-- What Items answers for a valid value. -/
def itmZ : V → Int
  | .map _ => 0
  | .list _ => 0
  | _ => 7
/-- Items of what is neither a list nor a map. -/
theorem vitems_leaf (l : List Cel) (t : V) (hp : par l = some t) (ht : chkT l t = 0) (hgr : ∃ h r, flat t = h :: r ∧ isGrp h = false)
    (o : Option Addr) (n c : Nat) (hn : n ≤ 1000000) (hsh : Shrt l) (w : World) (hA : CArg w o n l) :
    Calls Tryz.prog 7 #[.slice o n c] w fun e w' => LRes w' e [] 7 ∧ Bel w w' := by
  obtain ⟨_, hlf⟩ := par_some.1 hp
  have hC := vcheck_any l o n c hn hsh w hA
  rw [show chk l = 0 from by unfold chk; rw [hp]; exact ht] at hC
  have HC := Lib.hid hC
  obtain ⟨h, r, hf, hk⟩ := hgr
  have hpos := flat_pos t
  rw [← hlf] at hpos
  have hln := hA.1
  obtain ⟨b, q, rfl, hcs⟩ := hA.2.2 (by omega)
  obtain ⟨z1, z2, z3, z4⟩ := hcs 0 hpos
  have hl0 : l[0] = h := by simp only [hlf, hf, List.getElem_cons_zero]
  rw [hl0] at z1 z2 z3 z4
  simp only [Nat.zero_mul, Nat.add_zero] at z1 z2 z3 z4
  obtain ⟨hk1, hi1, hs1, hn1⟩ := h
  simp only at z1 z2 z3 z4
  obtain ⟨X, hX⟩ : ∃ X : ByteArray, ⟨hs1.toArray⟩ = X := ⟨_, rfl⟩
  rw [hX] at z3
  have hG := fun W => isGroup_any hk1 hi1 hn1 X W
  have hk2 : isGrp ⟨hk1, hi1, X.toList, hn1⟩ = false := hk
  rw [hk2] at hG
  have HG := Lib.hid hG
  have Z1 := Lib.hid z1
  have Z2 := Lib.hid z2
  have Z3 := Lib.hid z3
  have Z4 := Lib.hid z4
  have hn00 : 0 < n := by omega
  clear hC hf hk hk2 hG hX hcs z1 z2 z3 z4 hl0 hlf hp ht hA hpos hln
  go_enter Tryz.func7, Tryz.ntmps7
  go_wp2_with fail
  refine HC.out.mono ?_
  rintro e w1 ⟨rfl, g1⟩
  have G1 := Lib.hid g1
  have y1 := g1.cell' Z1.out
  have y2 := g1.cell' Z2.out
  have y3 := g1.cell' Z3.out
  have y4 := g1.cell' Z4.out
  clear g1
  go_wp2_with fail
  refine (HG.out w1).mono ?_
  rintro e w2 ⟨rfl, g2⟩
  have G2 := Lib.hid (Bel.trans G1.out g2)
  clear g2 y1 y2 y3 y4
  go_wp2_with fail
  go_ret2
  exact ⟨LRes.nil _ _, G2.out⟩
theorem vitems_bad (l : List Cel) (h0 : chk l ≠ 0) (o : Option Addr) (n c : Nat) (hn : n ≤ 1000000) (hsh : Shrt l) (w : World) (hA : CArg w o n l) :
    Calls Tryz.prog 7 #[.slice o n c] w fun e w' => LRes w' e [] (chk l) ∧ Bel w w' := by
  have HC := Lib.hid (vcheck_any l o n c hn hsh w hA)
  generalize chk l = E at *
  have hne : (E != 0) = true := by simpa using h0
  clear hA h0
  go_enter Tryz.func7, Tryz.ntmps7
  go_wp2_with fail
  refine HC.out.mono ?_
  rintro e w1 ⟨rfl, g1⟩
  have G1 := Lib.hid g1
  clear g1
  go_wp2_with fail
  go_ret2
  exact ⟨LRes.nil _ _, G1.out⟩
theorem vitems_any (l : List Cel) (o : Option Addr) (n c : Nat) (hn : n ≤ 1000000) (hc : n ≤ c) (hsh : Shrt l) (w : World) (hA : CArg w o n l) :
    Calls Tryz.prog 7 #[.slice o n c] w fun e w' => LRes w' e (itmB l) (itmE l) ∧ Bel w w' := by
  by_cases h0 : chk l = 0
  · obtain ⟨t, hp, ht⟩ := chk_ok h0
    obtain ⟨hw, hlf⟩ := par_some.1 hp
    have hlen := chk_len ht
    have eB : itmB l = itmV t := by unfold itmB; rw [hp]; exact if_pos ht
    have eE : itmE l = itmZ t := by
      unfold itmE
      rw [if_pos h0, hp]
      cases t <;> rfl
    have hg := grp_kind t
    rw [eE]
    cases t with
    | list x =>
      have e : (flatL x).length + 1 = l.length := by rw [hlf, flat, List.length_cons]
      refine vitems_group l _ hp ht (itmB l) (itmB_le l) (fun y hy => ?_) (fun o n c h1 h2 w W g hA => ?_) hg o n c hn hc hsh w hA
      · rw [eB] at hy
        have := valsL_in x y hy
        omega
      · rw [eB]
        exact (split_listU w x l hlf o n c h1 h2 W (hA.on g) hA).mono (fun e w' h => ⟨_, h⟩)
    | map x =>
      have e : (flatM x).length + 1 = l.length := by rw [hlf, flat, List.length_cons]
      refine vitems_group l _ hp ht (itmB l) (itmB_le l) (fun y hy => ?_) (fun o n c h1 h2 w W g hA => ?_) hg o n c hn hc hsh w hA
      · rw [eB] at hy
        have := valsM_in x y hy
        omega
      · rw [eB]
        exact (split_mapU w x l hlf o n c h1 h2 W (hA.on g) hA).mono (fun e w' h => ⟨_, h⟩)
    | _ =>
      rw [eB]
      exact vitems_leaf l _ hp ht hg o n c hn hsh w hA
  · have eE : itmE l = chk l := by unfold itmE; rw [if_neg h0]
    have eB : itmB l = [] := by
      unfold itmB
      cases hp : par l with
      | none => rfl
      | some t => exact if_neg (fun e => h0 (by unfold chk; rw [hp]; exact e))
    rw [eE, eB]
    exact vitems_bad l h0 o n c hn hsh w hA
theorem texts_any (ks : List ByteArray) (o1 o2 : Option Addr) (n1 c1 n2 c2 : Nat) (hn : n1 ≤ 1000000) (w : World) (hA : SlArg w o1 n1 ks) (hB : SlArg w o2 n2 ks) :
    Calls Tryz.prog 18 #[.slice o1 n1 c1, .slice o2 n2 c2] w fun e w' => e = .returned (.bool true) ∧ Bel w w' := by
  have h1 := hA.1
  have h2 := hB.1
  obtain rfl : n2 = n1 := by omega
  have HA := Lib.hid hA
  have HB := Lib.hid hB
  have h1a : n2 ≤ ks.length := by omega
  clear hA hB h1 h2
  go_enter Tryz.func18, Tryz.ntmps18
  go_wp2
  go_loopw [13] (fun j wr => ∃ q : Nat, q ≤ n2 ∧ j = .int .i64 (q : Int) ∧ Hid (Bel w wr)) (fun j _ => n2 - (intOf j).toNat)
  case atStart => exact ⟨0, Nat.zero_le _, rfl, Lib.hid (Bel.refl _)⟩
  case round =>
    obtain ⟨q, hq, rfl, hb⟩ := hrel
    rename World => W0
    by_cases hlt : q < n2
    · have hql : q < ks.length := by omega
      obtain ⟨a, rfl, hc⟩ := (HA.out.on hb.out).2 q hql
      obtain ⟨b, rfl, hd⟩ := (HB.out.on hb.out).2 q hql
      obtain ⟨x, hx⟩ : ∃ x, ks[q] = x := ⟨_, rfl⟩
      rw [hx] at hc hd
      clear hx
      have i1 : (q : Int) < (n2 : Int) := by omega
      have G := hb.out
      clear hb
      go_upto_region 6 with (fail)
      go_quiet (fail)
      clear i1
      go_wp2_with fail
      go_round
      case rel => exact ⟨q + 1, by omega, by go_num, Lib.hid (Bel.drewN G _)⟩
      case measure => simp [intOf]; omega
    · obtain rfl : q = n2 := by omega
      go_wp2
      go_ret
      exact ⟨rfl, hb.out⟩
theorem sames_any (ls : List (List Cel)) (o1 o2 : Option Addr) (n1 c1 n2 c2 : Nat) (hn : n1 ≤ 1000000) (hl : ∀ l ∈ ls, l.length ≤ 1000000) (w : World) (hA : LArg w o1 n1 ls) (hB : LArg w o2 n2 ls) :
    Calls Tryz.prog 17 #[.slice o1 n1 c1, .slice o2 n2 c2] w fun e w' => e = .returned (.bool true) ∧ Bel w w' := by
  have h1 := hA.1
  have h2 := hB.1
  obtain rfl : n2 = n1 := by omega
  have HA := Lib.hid hA
  have HB := Lib.hid hB
  have HLN := Lib.hid hl
  have h1a : n2 ≤ ls.length := by omega
  clear hA hB h1 h2 hl
  go_enter Tryz.func17, Tryz.ntmps17
  go_wp2
  go_loopw [13] (fun j wr => ∃ q : Nat, q ≤ n2 ∧ j = .int .i64 (q : Int) ∧ Hid (Bel w wr)) (fun j _ => n2 - (intOf j).toNat)
  case atStart => exact ⟨0, Nat.zero_le _, rfl, Lib.hid (Bel.refl _)⟩
  case round =>
    obtain ⟨q, hq, rfl, hb⟩ := hrel
    rename World => W0
    by_cases hlt : q < n2
    · have hql : q < ls.length := by omega
      obtain ⟨a, p1, m1, d1, rfl, hc, hC1, hd1⟩ := (HA.out.on hb.out).2 q hql
      obtain ⟨b, p2, m2, d2, rfl, hd, hC2, hd2⟩ := (HB.out.on hb.out).2 q hql
      have hln := HLN.out ls[q] (List.getElem_mem hql)
      have hsm := same_any ls[q] ls[q] p1 p2 m1 d1 m2 d2 (by have := hC1.1; omega) (by have := hC2.1; omega) W0.drew (hC1.on (Below.drew (Bel.refl W0))) (hC2.on (Below.drew (Bel.refl W0)))
      rw [show sameB ls[q] ls[q] = true from decide_eq_true rfl] at hsm
      have HSM := Lib.hid hsm
      have i1 : (q : Int) < (n2 : Int) := by omega
      have G := hb.out
      clear hb hC1 hC2 hln hsm
      go_upto_region 6 with (fail)
      go_region_with (first | (go_at_call 19; (with_reducible refine (HSM.out).mono ?_); rintro e w' ⟨rfl, g⟩))
      all_goals
        have G2 := Lib.hid (Bel.trans (Below.drew G) g)
        clear g hc hd HSM
        go_wp2
        go_round
        case rel => exact ⟨q + 1, by omega, by go_num, G2⟩
        case measure => simp [intOf]; omega
    · obtain rfl : q = n2 := by omega
      go_wp2
      go_ret
      exact ⟨rfl, hb.out⟩
end Val
end Go.Proofs.YtegfcmnbljdcpaaGreatDoor
