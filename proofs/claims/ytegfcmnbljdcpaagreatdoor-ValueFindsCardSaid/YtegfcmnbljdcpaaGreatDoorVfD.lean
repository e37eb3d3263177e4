/-
  Layer 6: Put's parts, as the program has them.
-/
import Derived.Test.YtegfcmnbljdcpaaGreatDoorVfC
import Derived.Test.YtegfcmnbljdcpaaGreatDoorVeC
namespace Go.Proofs.YtegfcmnbljdcpaaGreatDoor
open Go.RowKit Go.ChangeShapes Go.WideShapes
namespace Val

theorem Itms.app {V : World} {a c : List Value} {b d : List (List Cel)} (h1 : Itms V a b) (h2 : Itms V c d) : Itms V (a ++ c) (b ++ d) := by
  have e1 := h1.1
  have e2 := h2.1
  refine ⟨by simp [e1, e2], fun i p q => ?_⟩
  by_cases hi : i < b.length
  · rw [List.getElem_append_left (by omega), List.getElem_append_left hi]
    exact h1.2 i hi (by omega)
  · rw [List.getElem_append_right (by omega), List.getElem_append_right (by omega)]
    have := h2.2 (i - b.length) (by rw [List.length_append] at p; omega) (by rw [List.length_append] at p; omega)
    obtain ⟨p1, m, d1, q1, q2, q3⟩ := this
    exact ⟨p1, m, d1, by simpa [e1] using q1, q2, q3⟩
theorem Itms.take {V : World} {a : List Value} {b : List (List Cel)} (h1 : Itms V a b) (k : Nat) : Itms V (a.take k) (b.take k) := by
  have e1 := h1.1
  refine ⟨by simp [e1], fun i p q => ?_⟩
  rw [List.length_take] at p q
  obtain ⟨p1, m, d1, q1, q2, q3⟩ := h1.2 i (by omega) (by omega)
  exact ⟨p1, m, d1, by rw [List.getElem_take]; exact q1, by rw [List.getElem_take]; exact q2, q3⟩
theorem Itms.drop {V : World} {a : List Value} {b : List (List Cel)} (h1 : Itms V a b) (k : Nat) : Itms V (a.drop k) (b.drop k) := by
  have e1 := h1.1
  refine ⟨by simp [e1], fun i p q => ?_⟩
  rw [List.length_drop] at p q
  obtain ⟨p1, m, d1, q1, q2, q3⟩ := h1.2 (k + i) (by omega) (by omega)
  exact ⟨p1, m, d1, by rw [List.getElem_drop]; exact q1, by rw [List.getElem_drop]; exact q2, q3⟩
theorem Itms.one {V : World} {p : Option Addr} {m d : Nat} {x : List Cel} (hx : CArg V p m x) (hm : m ≤ d) : Itms V [.slice p m d] [x] := by
  have := (Itms.nil V).add hx hm
  simpa using this
theorem Itms.ins {V : World} {qs : List Value} {ls : List (List Cel)} (h : Itms V qs ls) (i : Nat) {p : Option Addr} {m d : Nat} {x : List Cel} (hx : CArg V p m x) (hm : m ≤ d) : Itms V (insV qs i (.slice p m d)) (ls.take i ++ x :: ls.drop i) :=
  (h.take i).app ((Itms.one hx hm).app (h.drop i))
theorem Itms.set {V : World} {qs : List Value} {ls : List (List Cel)} (h : Itms V qs ls) (i : Nat) {p : Option Addr} {m d : Nat} {x : List Cel} (hx : CArg V p m x) (hm : m ≤ d) : Itms V (qs.set i (.slice p m d)) (ls.set i x) := by
  refine ⟨by simp [h.1], fun j a a' => ?_⟩
  rw [List.length_set] at a a'
  by_cases e : i = j
  · subst e
    exact ⟨p, m, d, by rw [List.getElem_set_self], by rw [List.getElem_set_self]; exact hx, hm⟩
  · obtain ⟨p1, m1, d1, q1, q2, q3⟩ := h.2 j a a'
    exact ⟨p1, m1, d1, by rw [List.getElem_set_ne e]; exact q1, by rw [List.getElem_set_ne e]; exact q2, q3⟩
theorem encS_ins (ks : List ByteArray) (i : Nat) (k : ByteArray) : insV (Go.Proofs.YtegfcmnbljdcpaaGreatDoor.encS ks) i (.string k) = Go.Proofs.YtegfcmnbljdcpaaGreatDoor.encS (ks.take i ++ k :: ks.drop i) := by
  unfold insV Go.Proofs.YtegfcmnbljdcpaaGreatDoor.encS
  rw [List.map_append, List.map_cons, List.map_take, List.map_drop]
theorem encS_one {ks : List ByteArray} : ∀ v ∈ Go.Proofs.YtegfcmnbljdcpaaGreatDoor.encS ks, v.oneCell' = true := fun v h => by
  obtain ⟨k, -, rfl⟩ := List.mem_map.1 h
  rfl
theorem Itms.cells {V : World} {qs : List Value} {ls : List (List Cel)} (h : Itms V qs ls) : ∀ v ∈ qs, v.oneCell' = true := fun v hv => by
  obtain ⟨i, hi, rfl⟩ := List.getElem_of_mem hv
  obtain ⟨p, m, d, e, _⟩ := h.2 i (by have := h.1; omega) hi
  rw [e]; rfl
/-- The names and values that Put hands to Map. -/
def Done (l : List Cel) (key : ByteArray) (x : List Cel) (ns : List ByteArray) (ls : List (List Cel)) : Prop :=
  ns.length = ls.length ∧ ns.length ≤ 201 ∧ putL key x false (keyB l) (itmB l) = ns.zip ls ∧ x ∈ ls ∧ (∀ v ∈ ls, v = x ∨ v ∈ itmB l) ∧ ∀ k ∈ ns, k = key ∨ k ∈ keyB l
theorem done_set {l x : List Cel} {key : ByteArray} (h : keyE l = 0) {p : Nat} (hp : p ≤ (keyB l).length) (h1 : ∀ i (hi : i < (keyB l).length), i < p → (keyB l)[i].toList < key.toList) (h2 : ∀ i (hi : i < (keyB l).length), p ≤ i → ¬ (keyB l)[i].toList < key.toList)
    (hf : (keyB l)[p]? = some key) : Done l key x (keyB l) ((itmB l).set p x) := by
  have hl := (key_itm h).1
  have hlt : p < (keyB l).length := by
    rcases Nat.lt_or_ge p (keyB l).length with q | q
    · exact q
    · rw [List.getElem?_eq_none q] at hf; cases hf
  have hz := putL_at key x (keyB l) (itmB l) p hl (asc_keys h) hp h1 h2
  rw [if_pos hf] at hz
  refine ⟨by rw [List.length_set]; exact hl, by have := key_few h; omega, hz, List.mem_of_getElem? (i := p) (by rw [List.getElem?_set_self (by omega)]), fun v hv => (List.mem_or_eq_of_mem_set hv).symm, fun k hk => Or.inr hk⟩
theorem done_ins {l x : List Cel} {key : ByteArray} (h : keyE l = 0) {p : Nat} (hp : p ≤ (keyB l).length) (h1 : ∀ i (hi : i < (keyB l).length), i < p → (keyB l)[i].toList < key.toList) (h2 : ∀ i (hi : i < (keyB l).length), p ≤ i → ¬ (keyB l)[i].toList < key.toList)
    (hf : ¬ (keyB l)[p]? = some key) : Done l key x ((keyB l).take p ++ key :: (keyB l).drop p) ((itmB l).take p ++ x :: (itmB l).drop p) := by
  have hl := (key_itm h).1
  have hz := putL_at key x (keyB l) (itmB l) p hl (asc_keys h) hp h1 h2
  rw [if_neg hf] at hz
  have hw := key_few h
  refine ⟨by simp [hl], by simp; omega, hz, by simp, fun v hv => ?_, fun k hk => ?_⟩
  · rcases List.mem_append.1 hv with q | q
    · exact Or.inr (List.mem_of_mem_take q)
    · rcases List.mem_cons.1 q with q | q
      · exact Or.inl q
      · exact Or.inr (List.mem_of_mem_drop q)
  · rcases List.mem_append.1 hk with q | q
    · exact Or.inr (List.mem_of_mem_take q)
    · rcases List.mem_cons.1 q with q | q
      · exact Or.inl q
      · exact Or.inr (List.mem_of_mem_drop q)
/-- Map at the end of Put. -/
theorem done_map {l x : List Cel} {key : ByteArray} (h : keyE l = 0) (hkey : key.size ≤ 1000000) (hl : Shrt l) (hx : x.length ≤ 300) (hxs : Shrt x) {ns : List ByteArray} {ls : List (List Cel)} (hd : Done l key x ns ls) (oN oV : Option Addr) (mN cN mV cV : Nat) (hm : mN = mV) (W : World) (hN : SlArg W oN mN ns) (hV : LArg W oV mV ls) :
    Calls Tryz.prog 24 #[.slice oN mN cN, .slice oV mV cV] W fun e w' => CRes w' e (putB l key x) (putE l key x) ∧ Bel W w' := by
  obtain ⟨d1, d2, d3, d4, d5, d6⟩ := hd
  obtain ⟨e1, e2⟩ := put_one h d1 d3 d4 d5
  rw [e1, e2]
  have n1 := hN.1
  have n2 := hV.1
  have hb : ∀ v ∈ ls, v.length ≤ 300 := fun v hv => by
    rcases d5 v hv with rfl | q
    · exact hx
    · have := (itm_cells h q).1; omega
  refine vmap_any ns ls oN oV mN cN mV cV (by omega) (by omega) (fun k hk => ?_) ?_ (fun v hv => ⟨?_, ?_⟩) hm W hN hV
  · rcases d6 k hk with rfl | q
    · exact hkey
    · exact key_size h hl q
  · have h1 := prs_le ns ls 300 hb
    have h2 : ns.length * 301 ≤ 201 * 301 := Nat.mul_le_mul_right _ d2
    omega
  · have := hb v hv; omega
  · rcases d5 v hv with rfl | q
    · exact hxs
    · exact fun c hc => hl c ((itm_cells h q).2 c hc)
/-- Names and values as split returns them, the values as a world of one's choice holds them. -/
def SpU (U V w : World) (e : Ending) (ps : List ByteArray) (ls : List (List Cel)) : Prop := ∃ aN mN cN aV mV cV qs, e = .returned (.tuple #[.slice aN mN cN, .slice aV mV cV]) ∧ Rows V w aN mN cN ps aV mV cV qs ∧ Itms U qs ls
set_option maxRecDepth 100000 in
set_option maxHeartbeats 4000000 in
theorem split_mapU (U : World) (x : M) (l : List Cel) (hl : l = flat (.map x)) (o : Option Addr) (n c : Nat) (hn : n ≤ 1000000) (hc : n ≤ c) (w : World) (hA : CArg w o n l) (hU : CArg U o n l) :
    Calls Tryz.prog 31 #[.slice o n c] w fun e w' => SpU U w w' e (keysM x) (valsM x) := by
  have hln := hA.1
  have hpos := flat_pos (.map x)
  rw [← hl] at hpos
  obtain ⟨b, q, rfl, hcs⟩ := hA.2.2 (by omega)
  obtain ⟨z1, -, -, -⟩ := hcs 0 hpos
  have h0 : l[0] = ⟨6, 0, [], (lenM x : Int)⟩ := by subst hl; rfl
  rw [h0] at z1
  simp only [Nat.zero_mul, Nat.add_zero] at z1
  have Z1 := Lib.hid z1
  have HA := Lib.hid hA
  have HU := Lib.hid hU
  clear hU
  have HCS := Lib.hid hcs
  have H0 : Hid (l.drop 1 = flatM x) := Lib.hid (by subst hl; rfl)
  have hn0 : 0 < n := by omega
  clear hA hl h0 z1 hcs
  go_enter Tryz.func31, Tryz.ntmps31
  go_wp2
  go_loopw [2, 3, 4] (fun kv iv pv wr => ∃ (p : Nat) (y : M) (aN : Option Addr) (mN cN : Nat) (ps : List ByteArray) (aV : Option Addr) (mV cV : Nat) (qs : List Value) (ls : List (List Cel)), kv = .slice aN mN cN ∧ iv = .slice aV mV cV ∧ pv = .int .i64 (p : Int) ∧ p ≤ n ∧ mN ≤ p ∧ mV ≤ p ∧ Hid (l.drop p = flatM y) ∧ Hid (Rows w wr aN mN cN ps aV mV cV qs) ∧ Hid (Itms U qs ls) ∧ Hid (ps ++ keysM y = keysM x) ∧ Hid (ls ++ valsM y = valsM x)) (fun _ _ pv _ => n - (intOf pv).toNat)
  case atStart => exact ⟨1, x, none, 0, 0, [], none, 0, 0, [], [], rfl, rfl, rfl, by omega, by omega, by omega, H0, Lib.hid (Rows.nil w w (Bel.refl w)), Lib.hid (Itms.nil U), Lib.hid rfl, Lib.hid rfl⟩
  case round =>
    obtain ⟨p, y, aN, mN, cN, ps, aV, mV, cV, qs, ls, rfl, rfl, rfl, hp, hmN, hmV, hd, hR, hI, hk, hv⟩ := hrel
    rename World => W0
    clear H0
    cases y with
    | nil =>
      have hpn : p = n := by
        have := congrArg List.length hd.out
        rw [List.length_drop] at this
        simp only [flatM, List.length_nil] at this
        omega
      subst hpn
      have hk2 : Hid (ps = keysM x) := Lib.hid (by rw [← hk.out]; simp [keysM])
      have hv2 : Hid (ls = valsM x) := Lib.hid (by rw [← hv.out]; simp [valsM])
      clear hk hv
      go_wp2
      go_ret2
      exact ⟨_, _, _, _, _, _, _, rfl, by rw [← hk2.out]; exact hR.out, by rw [← hv2.out]; exact hI.out⟩
    | cons k v r =>
      have hdd := hd.out
      rw [flatM] at hdd
      have hll := congrArg List.length hdd
      rw [List.length_drop, List.length_cons, List.length_append] at hll
      have hvp := flat_pos v
      have hpl : p < l.length := by omega
      obtain ⟨hcp, hdr⟩ := List.cons.inj ((List.drop_eq_getElem_cons hpl).symm.trans hdd)
      obtain ⟨-, -, y3, -⟩ := HCS.out p hpl
      rw [hcp] at y3
      obtain ⟨K, hK⟩ : ∃ K : ByteArray, ⟨k.toArray⟩ = K := ⟨_, rfl⟩
      simp only at y3
      rw [hK] at y3
      have Y3 := Lib.hid y3
      obtain ⟨d, hdl⟩ : ∃ d, (flat v).length = d := ⟨_, rfl⟩
      rw [hdl] at hvp hll
      have hsub := HU.out.sub (p + 1) d (by omega) hn0
      rw [hdr, List.take_left' hdl] at hsub
      have SUB := Lib.hid hsub
      have hsz := HA.out.sub (p + 1) (n - (p + 1)) (by omega) hn0
      rw [List.take_of_length_le (by rw [List.length_drop]; omega)] at hsz
      have HSZ := Lib.hid (fun (W : World) (g : Bel w W) => size_any v (l.drop (p + 1)) (flatM r) hdr (some ⟨b, q + (p + 1) * 4, none⟩) (n - (p + 1)) (c - (p + 1)) (by omega) W (hsz.on g))
      rw [hdl] at HSZ
      have cut1 := fun W => cutF b q n c (p + 1) ((p : Int) + 1) rfl (by omega) hc W
      have cut2 := fun W => cutB b q n c (p + 1) (p + 1 + d) ((p : Int) + 1) ((p : Int) + 1 + (d : Int)) rfl (by omega) (by omega) (by omega) W
      rw [show p + 1 + d - (p + 1) = d by omega] at cut2
      have HDR : Hid (l.drop (p + 1 + d) = flatM r) := Lib.hid (by rw [← List.drop_drop, hdr, List.drop_left' hdl])
      have hk2 : Hid ((ps ++ [K]) ++ keysM r = keysM x) := Lib.hid (by rw [← hk.out, ← hK]; simp [keysM])
      have hv2 : Hid ((ls ++ [flat v]) ++ valsM r = valsM x) := Lib.hid (by rw [← hv.out]; simp [valsM])
      have hI2 := Lib.hid (hI.out.add (d := c - (p + 1)) SUB.out (by omega))
      have hB0 := Lib.hid hR.out.2.2.2
      have x1 := hB0.out.cell' Z1.out
      have x3 := hB0.out.cell' Y3.out
      have RA := Lib.hid (hR.out.on (Bel.alloc (Bel.refl W0) (.cells #[.string K] 9)))
      have qa := Lib.hid (cell_new1 W0 (.string K) 9)
      have ba : Hid (mN + 1 ≤ 1099511627776) := Lib.hid (by omega)
      have hpi : (p : Int) < (n : Int) := by omega
      clear hdd hcp hdr hK y3 hdl hsub hsz hd hk hv hI hR
      go_wp2_with (at_builtin; refine list_appN _ _ rfl rfl rfl rfl RA.out qa.out ba.out ?_; intro oN kN wN hN; refine Hid.out ?_)
      refine Lib.hid ?_
      clear RA qa ba x1 x3
      have BN := Lib.hid hN.out.2.2.2
      go_wp2_with fail
      refine (HSZ.out _ BN.out).mono ?_
      rintro e wS ⟨rfl, gS⟩
      have hN2 := Lib.hid (hN.out.on gS)
      have RB := Lib.hid (hN2.out.on (Bel.alloc (Bel.refl wS) (.cells #[.slice (some ⟨b, q + (p + 1) * 4, none⟩) d (c - (p + 1))] 22)))
      have qb := Lib.hid (cell_new1 wS (.slice (some ⟨b, q + (p + 1) * 4, none⟩) d (c - (p + 1))) 22)
      have bb : Hid (mV + 1 ≤ 1099511627776) := Lib.hid (by omega)
      clear gS hN HSZ BN
      go_wp2_with (at_builtin; refine list_appV _ _ rfl rfl rfl rfl RB.out qb.out bb.out ?_; intro oV kV wV hV; refine Hid.out ?_)
      refine Lib.hid ?_
      clear RB qb bb hN2 hB0
      go_wp2
      go_round
      case rel => exact ⟨p + 1 + d, r, oN, mN + 1, kN, _, oV, mV + 1, kV, _, _, rfl, rfl, by go_num, by omega, by omega, by omega, HDR, hV, hI2, hk2, hv2⟩
      case measure => simp [intOf]; omega
end Val
end Go.Proofs.YtegfcmnbljdcpaaGreatDoor
