/-
  Layer 4: the laws Packs and Returns, out of what the functions of the layer say.
-/
import Derived.Test.YtkecellbbfhpoaaFrmI
namespace Go.Proofs.Ytkecellbbfhpoaa
open Go.RowKit Go.ChangeShapes Go.WideShapes
namespace Frm
open Hsh

/-- What the functions of the layer say. -/
structure Says : Prop where
  pack : PackI 11
  unpack : UnpI 13
  seals : SealI 16
  opens : OpenI 18
  split : SplI 22
  join : JoinI 20
theorem Says.awake (h : Says) (w : World) (hL : Lad w) : Calls Try.prog 10 #[] w fun e w' => e = .returned (.bool true) ∧ Bel w w' :=
  awake_any (Lib.hid h.pack) (Lib.hid h.unpack) (Lib.hid h.seals) (Lib.hid h.join) (Lib.hid h.split) w hL
theorem sarg_len {w : World} {o : Option Addr} {n : Nat} {xs : List ByteArray} (h : SlArg w o n xs) {l : List (List UInt8)} (e : lists xs = l) : n = l.length := by rw [← e, lists_len, h.1]
set_option maxHeartbeats 8000000 in
theorem law_packs (hF : Says) (o : Option Addr) (n c : Nat) (xs : List ByteArray) (s : ByteArray) (hn : n ≤ 4611686018427387904) (hx : ∀ x ∈ xs, x.size ≤ 140737488355328) (hs : s.size ≤ 140737488355328) (w : World) (hL : Lad w) (hA : SlArg w o n xs) :
    Calls Try.prog 3 #[.slice o n c, .string s] w fun e w' => e = .returned (.bool true) ∧ Bel w w' := by
  have ht := Lib.hid (total_any o n c xs hn hx w hA)
  have HA := Lib.hid hA
  have HX := Lib.hid hx
  have HL := Lib.hid hL
  have HF := Lib.hid hF
  generalize tot n xs = T at *
  clear hA hx hL hF
  go_enter Try.func3, Try.ntmps3
  go_wp2_with fail
  refine ht.out.mono ?_
  rintro e w1 ⟨rfl, g1⟩
  have G1 := Lib.hid g1
  clear g1 ht
  by_cases hT : 20000 < T
  · go_wp2_with fail
    refine (HF.out.awake w1 (HL.out.on G1.out)).mono ?_
    rintro e w2 ⟨rfl, g2⟩
    have G2 := Bel.trans G1.out g2
    go_wp2_with fail
    go_ret
    exact ⟨rfl, G2⟩
  · by_cases hS : 20000 < s.size
    · go_wp2_with fail
      refine (HF.out.awake w1 (HL.out.on G1.out)).mono ?_
      rintro e w2 ⟨rfl, g2⟩
      have G2 := Bel.trans G1.out g2
      go_wp2_with fail
      go_ret
      exact ⟨rfl, G2⟩
    · have hs3 : s.size ≤ 300000 := by omega
      have hul := unpL_len s.toList
      obtain ⟨P, hP⟩ : ∃ P : ByteArray, ⟨(pckB (lists xs)).toArray⟩ = P := ⟨_, rfl⟩
      obtain ⟨E, hE⟩ : ∃ E : Int, pckE (lists xs) = E := ⟨_, rfl⟩
      obtain ⟨U, hU⟩ : ∃ U : Int, unpE s.toList = U := ⟨_, rfl⟩
      have q1 := Lib.hid (fun W (h : Bel w W) => HF.out.pack o n c xs W hn HX.out (HL.out.on h) (HA.out.on h))
      have q2 := Lib.hid (fun W (h : Bel w W) => rpack_I o n c xs W hn HX.out (HL.out.on h) (HA.out.on h))
      have q3 := Lib.hid (fun W (h : Bel w W) => HF.out.unpack s W hs3 (HL.out.on h))
      have q4 := Lib.hid (fun W (h : Bel w W) => runpack_I s W hs3 (HL.out.on h))
      rw [hP, hE] at q1 q2
      rw [hU] at q3 q4
      clear hP hE hU
      go_wp2_with fail
      refine (q1.out w1 G1.out).mono ?_
      rintro e w2 ⟨rfl, g2⟩
      have G2 := Lib.hid (Bel.trans G1.out g2)
      clear g2 q1
      go_wp2_with fail
      refine (q2.out w2 G2.out).mono ?_
      rintro e w3 ⟨rfl, g3⟩
      have G3 := Lib.hid (Bel.trans G2.out g3)
      clear g3 q2
      go_wp2_with fail
      refine (q3.out w3 G3.out).mono ?_
      rintro e w4 ⟨⟨o4, k4, c4, D, h4, e4, rfl⟩, g4⟩
      have G4 := Lib.hid (Bel.trans G3.out g4)
      clear g4 q3
      go_wp2_with fail
      refine (q4.out w4 G4.out).mono ?_
      rintro e w5 ⟨⟨o5, k5, c5, D', h5, e5, rfl⟩, g5⟩
      have G5 := Lib.hid (Bel.trans G4.out g5)
      have l4 := sarg_len h4 e4
      have l5 := sarg_len h5 e5
      have H4 := Lib.hid (h4.on g5)
      have H5 := Lib.hid h5
      have hDD : D = D' := lists_inj (e4.trans e5.symm)
      subst hDD
      have hsm := Lib.hid (same_any o4 o5 k4 k5 c4 c5 D D w5 H4.out H5.out (by unfold maxLen; omega) (by unfold maxLen; omega))
      clear g5 q4 h4 h5 e4 e5 l4 l5 H4 H5
      go_wp2_with fail
      refine hsm.out.mono ?_
      rintro e w6 ⟨⟨b, hb, rfl⟩, g6⟩
      obtain rfl : b = true := hb.2 (by trivial)
      have G6 := Lib.hid (Bel.trans G5.out g6)
      clear hb hsm g6
      go_wp2_with fail
      refine (HF.out.awake w6 (HL.out.on G6.out)).mono ?_
      rintro e w7 ⟨rfl, g7⟩
      have G7 := Bel.trans G6.out g7
      go_wp2_with fail
      go_ret
      exact ⟨rfl, G7⟩
theorem back_str (s : ByteArray) : (⟨s.toList.toArray⟩ : ByteArray) = s := by
  rw [toL]
theorem flds_le : ∀ fs : List (List UInt8), (∀ f ∈ fs, f.length ≤ 4000) → (flds fs).length ≤ 4002 * fs.length
  | [], _ => Nat.le_refl _
  | f :: r, h => by
    have hf := h f (List.mem_cons_self ..)
    have := flds_le r (fun x hx => h x (List.mem_cons_of_mem _ hx))
    rw [flds_cons]
    simp only [List.length_cons, List.length_append]
    omega
theorem pck_le {fs : List (List UInt8)} (h : OkR fs) : (pck fs).length ≤ 256129 := by
  have h1 := flds_le fs h.2
  have h2 := h.1
  unfold pck
  rw [List.length_cons]
  omega
set_option maxHeartbeats 8000000 in
set_option maxRecDepth 100000 in
theorem law_returns (hF : Says) (o : Option Addr) (n c : Nat) (xs : List ByteArray) (s : ByteArray) (cut : Int) (hn : n ≤ 4611686018427387904) (hx : ∀ x ∈ xs, x.size ≤ 140737488355328) (hs : s.size ≤ 140737488355328) (w : World) (hL : Lad w) (hA : SlArg w o n xs) :
    Calls Try.prog 4 #[.slice o n c, .string s, .int .i64 cut] w fun e w' => e = .returned (.bool true) ∧ Bel w w' := by
  have ht := Lib.hid (total_any o n c xs hn hx w hA)
  have HA := Lib.hid hA
  have HX := Lib.hid hx
  have HL := Lib.hid hL
  have HF := Lib.hid hF
  generalize tot n xs = T at *
  clear hA hx hL hF
  go_enter Try.func4, Try.ntmps4
  go_wp2_with fail
  refine ht.out.mono ?_
  rintro e w1 ⟨rfl, g1⟩
  have G1 := Lib.hid g1
  clear g1 ht
  by_cases hT : 20000 < T ∨ 20000 < s.size
  · rcases Nat.lt_or_ge 20000 T with hT' | hT'
    · go_wp2_with fail
      refine (HF.out.awake w1 (HL.out.on G1.out)).mono ?_
      rintro e w2 ⟨rfl, g2⟩
      have G2 := Bel.trans G1.out g2
      go_wp2_with fail
      go_ret
      exact ⟨rfl, G2⟩
    · have hT2 : 20000 < s.size := by omega
      clear hT
      go_wp2_with fail
      refine (HF.out.awake w1 (HL.out.on G1.out)).mono ?_
      rintro e w2 ⟨rfl, g2⟩
      have G2 := Bel.trans G1.out g2
      go_wp2_with fail
      go_ret
      exact ⟨rfl, G2⟩
  · have hT1 : T ≤ 20000 := by omega
    have hT2 : s.size ≤ 20000 := by omega
    clear hT
    have q1 := Lib.hid (HF.out.unpack s w1 (by omega) (HL.out.on G1.out))
    have hul := unpL_len s.toList
    have hcase : (∃ fs, unp s.toList = .ok fs) ∨ unpE s.toList ≠ 0 := by
      cases h : unp s.toList with
      | ok fs => exact Or.inl ⟨fs, rfl⟩
      | error b => exact Or.inr (by rw [(unp_bad h).2]; cases b <;> decide)
    have r1 := Lib.hid (fun W (h : Bel w W) => HF.out.pack o n c xs W hn HX.out (HL.out.on h) (HA.out.on h))
    rcases hcase with ⟨fs, hfs⟩ | hU0
    case' inl =>
      rw [(unp_good hfs).2, (unp_good hfs).1] at q1
      rw [(unp_good hfs).1] at hul
      obtain ⟨hok, hps⟩ := pck_unp hfs
      go_wp2_with fail
      refine q1.out.mono ?_
      rintro e w2 ⟨⟨o2, k2, c2, D, h2, e2, rfl⟩, g2⟩
      have G2 := Lib.hid (Bel.trans G1.out g2)
      have l2 := sarg_len h2 e2
      have q2 := Lib.hid (HF.out.pack o2 k2 c2 D w2 (by omega) (fun x hx => by
        have h1 : x.toList ∈ fs := e2 ▸ List.mem_map.2 ⟨x, hx, rfl⟩
        have h3 := hok.2 _ h1
        rw [toL_len] at h3
        omega) (HL.out.on G2.out) h2)
      rw [e2, (pck_ok hok).1, (pck_ok hok).2, hps, back_str] at q2
      clear g2 q1 h2 e2 l2 hul hok hps hfs
      go_wp2_with fail
      refine q2.out.mono ?_
      rintro e w3 ⟨rfl, g3⟩
      have GB := Lib.hid (Bel.trans G2.out g3)
      clear g3 q2 G2 G1
      go_wp2_with fail
      refine (r1.out w3 GB.out).mono ?_
    case' inr =>
      obtain ⟨U, hU⟩ : ∃ U : Int, unpE s.toList = U := ⟨_, rfl⟩
      rw [hU] at q1 hU0
      clear hU
      go_wp2_with fail
      refine q1.out.mono ?_
      rintro e w2 ⟨⟨o2, k2, c2, D, h2, e2, rfl⟩, g2⟩
      have GB := Lib.hid (Bel.trans G1.out g2)
      clear g2 q1 h2 e2 hul G1
      go_wp2_with fail
      refine (r1.out w2 GB.out).mono ?_
    all_goals
      rintro e W ⟨rfl, gw⟩
      have GW := Lib.hid (Bel.trans GB.out gw)
      clear gw r1 GB
      by_cases hok : OkR (lists xs)
      · have z1 := pck_ok hok
        obtain ⟨P, hP⟩ : ∃ P : ByteArray, ⟨(pck (lists xs)).toArray⟩ = P := ⟨_, rfl⟩
        have hPl : P.toList = pck (lists xs) := by rw [← hP, tl']
        have hPs : P.size ≤ 256129 := by rw [← toL_len, hPl]; exact pck_le hok
        have r2 := Lib.hid (HF.out.unpack P W (by omega) (HL.out.on GW.out))
        have zu := unp_good (unp_pck hok)
        rw [hPl, zu.1, zu.2] at r2
        rw [z1.1, z1.2, hP]
        have hcut := Lib.hid (fun j (hj : j < P.size) => (unp_bad (unp_cut hok (cut := j) (by rw [← hPl, toL_len]; exact hj))).2)
        rw [← hPl] at hcut
        have hcl := lists_len xs
        have hokn := hok.1
        clear z1 zu hP hPl hok
        go_wp2_with fail
        refine r2.out.mono ?_
        rintro e W2 ⟨⟨o3, k3, c3, D3, h3, e3, rfl⟩, g3⟩
        have GW2 := Lib.hid (Bel.trans GW.out g3)
        have l3 := sarg_len h3 e3
        have hDD : D3 = xs := lists_inj e3
        subst hDD
        have hsm := Lib.hid (same_any o3 o k3 n c3 c D3 D3 W2 h3 (HA.out.on GW2.out) (by unfold maxLen; omega) (by unfold maxLen; omega))
        clear g3 r2 h3 e3 GW l3
        go_wp2_with fail
        refine hsm.out.mono ?_
        rintro e W3 ⟨⟨b, hb, rfl⟩, g3⟩
        obtain rfl : b = true := hb.2 (by trivial)
        have GW3 := Lib.hid (Bel.trans GW2.out g3)
        clear hb hsm g3 GW2
        by_cases hc0 : cut < 0
        · go_wp2_with fail
          refine (HF.out.awake W3 (HL.out.on GW3.out)).mono ?_
          rintro e W4 ⟨rfl, g4⟩
          have GW4 := Bel.trans GW3.out g4
          go_wp2_with fail
          go_ret
          exact ⟨rfl, GW4⟩
        · by_cases hc1 : (P.size : Int) ≤ cut
          · go_wp2_with fail
            refine (HF.out.awake W3 (HL.out.on GW3.out)).mono ?_
            rintro e W4 ⟨rfl, g4⟩
            have GW4 := Bel.trans GW3.out g4
            go_wp2_with fail
            go_ret
            exact ⟨rfl, GW4⟩
          · obtain ⟨j, rfl⟩ : ∃ j : Nat, cut = (j : Int) := ⟨cut.toNat, by omega⟩
            have hj : j < P.size := by omega
            have hc := hcut.out j hj
            obtain ⟨V, hV⟩ : ∃ V : ByteArray, ⟨(P.toList.take j).toArray⟩ = V := ⟨_, rfl⟩
            have hVl : V.toList = P.toList.take j := by rw [← hV, tl']
            have sl := fun W => cutB P j (j : Int) rfl (by omega) W
            have r4 := Lib.hid (HF.out.unpack V W3 (by rw [← toL_len, hVl, List.length_take]; omega) (HL.out.on GW3.out))
            rw [hV] at sl
            rw [hVl, hc] at r4
            clear hV hVl hc hcut
            go_wp2_with fail
            refine r4.out.mono ?_
            rintro e W4 ⟨⟨o4, k4, c4, D4, h4, e4, rfl⟩, g4⟩
            have GW4 := Lib.hid (Bel.trans GW3.out g4)
            clear g4 r4 h4 e4 GW3 sl
            go_wp2_with fail
            refine (HF.out.awake W4 (HL.out.on GW4.out)).mono ?_
            rintro e W5 ⟨rfl, g5⟩
            have GW5 := Bel.trans GW4.out g5
            go_wp2_with fail
            go_ret
            exact ⟨rfl, GW5⟩
      · have z1 := pck_no hok
        rw [z1.1, z1.2]
        clear z1 hok
        go_wp2_with fail
        refine (HF.out.awake W (HL.out.on GW.out)).mono ?_
        rintro e W4 ⟨rfl, g4⟩
        have GW4 := Bel.trans GW.out g4
        go_wp2_with fail
        go_ret
        exact ⟨rfl, GW4⟩
end Frm
end Go.Proofs.Ytkecellbbfhpoaa
