/-
  Layer 6: the law ValueBuilds.
-/
import Derived.Test.YtonlcjackbhnmaaDoorVdF
namespace Go.Proofs.YtonlcjackbhnmaaDoor
open Go.RowKit Go.ChangeShapes Go.WideShapes
namespace Val

theorem chkd_len (l : List Cel) : (chkd l).length ≤ l.length := by
  unfold chkd
  split
  · exact Nat.le_refl _
  · exact Nat.zero_le _
theorem listB_len (ls : List (List Cel)) : (listB ls).length ≤ ls.flatten.length + 1 := by
  unfold listB
  split
  · exact Nat.le_trans (chkd_len _) (by simp [listC])
  · exact Nat.zero_le _
theorem mapB_len (ks : List ByteArray) (ls : List (List Cel)) : (mapB ks ls).length ≤ (prsC ks ls).length + 1 := by
  unfold mapB
  split
  · split
    · exact Nat.le_trans (chkd_len _) (by simp [mapC])
    · exact Nat.zero_le _
  · exact Nat.zero_le _
theorem same_self (l : List Cel) : sameB l l = true := decide_eq_true rfl
theorem flat_small : ∀ {ls : List (List Cel)}, (∀ l ∈ ls, l.length ≤ 300) → ls.flatten.length ≤ 300 * ls.length
  | [], _ => Nat.le_refl _
  | x :: r, h => by
    have h1 := h x (List.mem_cons_self ..)
    have h2 := flat_small (ls := r) (fun l hl => h l (List.mem_cons_of_mem _ hl))
    simp only [List.flatten_cons, List.length_append, List.length_cons]
    omega
theorem prs_small : ∀ {ks : List ByteArray} {ls : List (List Cel)}, (∀ l ∈ ls, l.length ≤ 300) → (prsC ks ls).length ≤ 301 * ls.length
  | [], ls, _ => by simp [prsC]
  | k :: ks, [], _ => by simp [prsC]
  | k :: ks, x :: r, h => by
    have h1 := h x (List.mem_cons_self ..)
    have h2 := prs_small (ks := ks) (ls := r) (fun l hl => h l (List.mem_cons_of_mem _ hl))
    have e : prsC (k :: ks) (x :: r) = pairC (k, x) ++ prsC ks r := by simp [prsC]
    rw [e, List.length_append]
    simp only [pairC, List.length_cons]
    omega
theorem null_any2 (w : World) : Calls Tryd.prog 28 #[] w fun e w' => (∃ o c, e = .returned (.slice o 1 c) ∧ CArg w' o 1 (flat .null)) ∧ Bel w w' := null_any w
set_option maxRecDepth 100000 in
set_option maxHeartbeats 8000000 in
theorem law_builds_eq (b : Bool) (z : Int) (hz : -9223372036854775808 ≤ z ∧ z ≤ 9223372036854775807) (s : ByteArray) (ks : List ByteArray) (ls : List (List Cel)) (o1 o2 : Option Addr) (n1 c1 n2 c2 : Nat) (hs : ¬ 300 < s.size) (hks : namesB ks = true) (hls : allB ls = true) (hnn : n1 = n2) (w : World) (hL : Lad w) (hK : SlArg w o1 n1 ks) (hA : LArg w o2 n2 ls) :
    Calls Tryd.prog 4 #[.bool b, .int .i64 z, .string s, .slice o1 n1 c1, .slice o2 n2 c2] w fun e w' => e = .returned (.bool true) ∧ Bel w w' := by
  have hk2 := names_yes hks
  have hl2 := all_yes hls
  have hl3 : ∀ l ∈ ls, l.length ≤ 300 := fun l h => (small_yes (hl2.2 l h)).1
  have hl4 : ∀ l ∈ ls, l.length ≤ 100000 ∧ Shrt l := fun l h => ⟨Nat.le_trans (hl3 l h) (by decide), small_shrt (hl2.2 l h)⟩
  have hfl := flat_small hl3
  have hpr := prs_small (ks := ks) hl3
  have HKN := Lib.hid (names_any ks o1 n1 c1 w hK)
  have HLN := Lib.hid (all_any ls o2 n2 c2 w hA)
  rw [hks] at HKN
  rw [hls] at HLN
  have K := Lib.hid hK
  have L := Lib.hid hA
  have HL := Lib.hid hL
  have HZ := Lib.hid hz
  have hn1 : n1 ≤ 20 := by have := hK.1; have := hk2.1; omega
  have hn2 : n2 ≤ 20 := by have := hA.1; have := hl2.1; omega
  have Hfl : Hid (ls.flatten.length ≤ 6000) := Lib.hid (by have := hl2.1; omega)
  have Hpr : Hid ((prsC ks ls).length ≤ 6020) := Lib.hid (by have := hl2.1; omega)
  have Hk := Lib.hid hk2
  have Hl4 := Lib.hid hl4
  have hs3 : s.size ≤ 300 := by omega
  have ds : decide ((300 : Int) < (s.size : Int)) = false := decide_eq_false (by omega)
  have Hkl := Lib.hid hK.1
  have Hll := Lib.hid hA.1
  have HNN := Lib.hid hnn
  clear hK hA hL hz hks hls hk2 hl2 hl3 hl4 hfl hpr hs hnn
  go_enter Tryd.func4, Tryd.ntmps4
  go_wp2_with fail
  refine HKN.out.mono ?_
  rintro e w' ⟨rfl, rfl⟩
  go_wp2_with fail
  refine HLN.out.mono ?_
  rintro e w' ⟨rfl, rfl⟩
  clear HKN HLN
  go_wp2_with fail
  refine (vint_any z HZ.out w).mono ?_
  rintro e w0 ⟨⟨p1, m1, q1, rfl, a1, _⟩, g0⟩
  have G0 := Lib.hid g0
  have A1 := Lib.hid a1
  clear g0 a1
  go_wp2_with fail
  refine (int_any z HZ.out w0 (HL.out.on G0.out)).mono ?_
  rintro e w1 ⟨⟨p2, m2, q2, rfl, a2, _⟩, g1⟩
  have G1 := Lib.hid (Bel.trans G0.out g1)
  replace A1 := Lib.hid (A1.out.on g1)
  have A2 := Lib.hid a2
  clear g1 a2 G0
  go_wp2_with fail
  refine (vstr_any s (by omega) w1).mono ?_
  rintro e w2 ⟨⟨p3, m3, q3, rfl, a3, _⟩, g2⟩
  have G2 := Lib.hid (Bel.trans G1.out g2)
  replace A1 := Lib.hid (A1.out.on g2)
  replace A2 := Lib.hid (A2.out.on g2)
  have A3 := Lib.hid a3
  clear g2 a3 G1
  go_wp2_with fail
  refine (str_any s (by omega) w2 (HL.out.on G2.out)).mono ?_
  rintro e w3 ⟨⟨p4, m4, q4, rfl, a4, _⟩, g3⟩
  have G3 := Lib.hid (Bel.trans G2.out g3)
  replace A1 := Lib.hid (A1.out.on g3)
  replace A2 := Lib.hid (A2.out.on g3)
  replace A3 := Lib.hid (A3.out.on g3)
  have A4 := Lib.hid a4
  clear g3 a4 G2
  go_wp2_with fail
  refine (vlist_any ls o2 n2 c2 (by omega) (Nat.le_trans Hfl.out (by decide)) (fun l h => (Hl4.out l h).2) w3 (L.out.on G3.out)).mono ?_
  rintro e w4 ⟨⟨p5, m5, q5, rfl, a5, _⟩, g4⟩
  have G4 := Lib.hid (Bel.trans G3.out g4)
  replace A1 := Lib.hid (A1.out.on g4)
  replace A2 := Lib.hid (A2.out.on g4)
  replace A3 := Lib.hid (A3.out.on g4)
  replace A4 := Lib.hid (A4.out.on g4)
  have A5 := Lib.hid a5
  clear g4 a5 G3
  go_wp2_with fail
  refine (list_any ls o2 n2 c2 (by omega) (Nat.le_trans Hfl.out (by decide)) w4 (HL.out.on G4.out) (L.out.on G4.out)).mono ?_
  rintro e w5 ⟨⟨p6, m6, q6, rfl, a6, _⟩, g5⟩
  have G5 := Lib.hid (Bel.trans G4.out g5)
  replace A1 := Lib.hid (A1.out.on g5)
  replace A2 := Lib.hid (A2.out.on g5)
  replace A3 := Lib.hid (A3.out.on g5)
  replace A4 := Lib.hid (A4.out.on g5)
  replace A5 := Lib.hid (A5.out.on g5)
  have A6 := Lib.hid a6
  clear g5 a6 G4
  go_wp2_with fail
  refine (vmap_any ks ls o1 o2 n1 c1 n2 c2 (by omega) (by omega) (fun x h => Nat.le_trans (Hk.out.2 x h) (by decide)) (Nat.le_trans Hpr.out (by decide)) Hl4.out HNN.out w5 (K.out.on G5.out) (L.out.on G5.out)).mono ?_
  rintro e w6 ⟨⟨p7, m7, q7, rfl, a7, _⟩, g6⟩
  have G6 := Lib.hid (Bel.trans G5.out g6)
  replace A1 := Lib.hid (A1.out.on g6)
  replace A2 := Lib.hid (A2.out.on g6)
  replace A3 := Lib.hid (A3.out.on g6)
  replace A4 := Lib.hid (A4.out.on g6)
  replace A5 := Lib.hid (A5.out.on g6)
  replace A6 := Lib.hid (A6.out.on g6)
  have A7 := Lib.hid a7
  clear g6 a7 G5
  go_wp2_with fail
  refine (map_any ks ls o1 o2 n1 c1 n2 c2 (by omega) (by omega) (fun x h => Nat.le_trans (Hk.out.2 x h) (by decide)) (Nat.le_trans Hpr.out (by decide)) HNN.out w6 (HL.out.on G6.out) (K.out.on G6.out) (L.out.on G6.out)).mono ?_
  rintro e w7 ⟨⟨p8, m8, q8, rfl, a8, _⟩, g7⟩
  have G7 := Lib.hid (Bel.trans G6.out g7)
  replace A1 := Lib.hid (A1.out.on g7)
  replace A2 := Lib.hid (A2.out.on g7)
  replace A3 := Lib.hid (A3.out.on g7)
  replace A4 := Lib.hid (A4.out.on g7)
  replace A5 := Lib.hid (A5.out.on g7)
  replace A6 := Lib.hid (A6.out.on g7)
  replace A7 := Lib.hid (A7.out.on g7)
  have A8 := Lib.hid a8
  clear g7 a8 G6
  have l1 : m1 ≤ 1000000 := by have := A1.out.1; have := chkd_len [⟨3, z, [], 0⟩]; simp only [List.length_singleton] at this; omega
  have l2 : m2 ≤ 1000000 := by have := A2.out.1; have := chkd_len [⟨3, z, [], 0⟩]; simp only [List.length_singleton] at this; omega
  have l3 : m3 ≤ 1000000 := by have := A3.out.1; have := chkd_len [⟨4, 0, s.toList, 0⟩]; simp only [List.length_singleton] at this; omega
  have l4 : m4 ≤ 1000000 := by have := A4.out.1; have := chkd_len [⟨4, 0, s.toList, 0⟩]; simp only [List.length_singleton] at this; omega
  have l5 : m5 ≤ 1000000 := by have := A5.out.1; have := listB_len ls; have := Hfl.out; omega
  have l6 : m6 ≤ 1000000 := by have := A6.out.1; have := listB_len ls; have := Hfl.out; omega
  have l7 : m7 ≤ 1000000 := by have := A7.out.1; have := mapB_len ks ls; have := Hpr.out; omega
  have l8 : m8 ≤ 1000000 := by have := A8.out.1; have := mapB_len ks ls; have := Hpr.out; omega
  go_wp2_with fail
  refine (vnull_any w7).mono ?_
  rintro e w8 ⟨⟨p9, q9, rfl, a9, _⟩, g8⟩
  have G8 := Lib.hid (Bel.trans G7.out g8)
  replace A1 := Lib.hid (A1.out.on g8)
  replace A2 := Lib.hid (A2.out.on g8)
  replace A3 := Lib.hid (A3.out.on g8)
  replace A4 := Lib.hid (A4.out.on g8)
  replace A5 := Lib.hid (A5.out.on g8)
  replace A6 := Lib.hid (A6.out.on g8)
  replace A7 := Lib.hid (A7.out.on g8)
  replace A8 := Lib.hid (A8.out.on g8)
  have A9 := Lib.hid a9
  clear g8 a9 G7
  go_wp2_with fail
  refine (null_any w8).mono ?_
  rintro e w9 ⟨⟨px, qx, rfl, ax⟩, g9⟩
  have G9 := Lib.hid (Bel.trans G8.out g9)
  replace A1 := Lib.hid (A1.out.on g9)
  replace A2 := Lib.hid (A2.out.on g9)
  replace A3 := Lib.hid (A3.out.on g9)
  replace A4 := Lib.hid (A4.out.on g9)
  replace A5 := Lib.hid (A5.out.on g9)
  replace A6 := Lib.hid (A6.out.on g9)
  replace A7 := Lib.hid (A7.out.on g9)
  replace A8 := Lib.hid (A8.out.on g9)
  replace A9 := Lib.hid (A9.out.on g9)
  have Ax := Lib.hid ax
  clear g9 ax G8
  have S10 := Lib.hid (same_any _ _ p9 px 1 q9 1 qx (by omega) (by omega) w9 A9.out Ax.out)
  rw [same_self] at S10
  go_wp2_with fail
  refine (S10.out).mono ?_
  rintro e w10 ⟨rfl, g10⟩
  have G10 := Lib.hid (Bel.trans G9.out g10)
  replace A1 := Lib.hid (A1.out.on g10)
  replace A2 := Lib.hid (A2.out.on g10)
  replace A3 := Lib.hid (A3.out.on g10)
  replace A4 := Lib.hid (A4.out.on g10)
  replace A5 := Lib.hid (A5.out.on g10)
  replace A6 := Lib.hid (A6.out.on g10)
  replace A7 := Lib.hid (A7.out.on g10)
  replace A8 := Lib.hid (A8.out.on g10)
  replace A9 := Lib.hid (A9.out.on g10)
  replace Ax := Lib.hid (Ax.out.on g10)
  clear g10 G9
  go_wp2_with fail
  refine (vbool_any b w10).mono ?_
  rintro e w11 ⟨⟨py, qy, rfl, ay, _⟩, g11⟩
  have G11 := Lib.hid (Bel.trans G10.out g11)
  replace A1 := Lib.hid (A1.out.on g11)
  replace A2 := Lib.hid (A2.out.on g11)
  replace A3 := Lib.hid (A3.out.on g11)
  replace A4 := Lib.hid (A4.out.on g11)
  replace A5 := Lib.hid (A5.out.on g11)
  replace A6 := Lib.hid (A6.out.on g11)
  replace A7 := Lib.hid (A7.out.on g11)
  replace A8 := Lib.hid (A8.out.on g11)
  replace A9 := Lib.hid (A9.out.on g11)
  replace Ax := Lib.hid (Ax.out.on g11)
  have Ay := Lib.hid ay
  clear g11 ay G10
  go_wp2_with fail
  refine (bool_any b w11).mono ?_
  rintro e w12 ⟨⟨pv, qv, rfl, av⟩, g12⟩
  have G12 := Lib.hid (Bel.trans G11.out g12)
  replace A1 := Lib.hid (A1.out.on g12)
  replace A2 := Lib.hid (A2.out.on g12)
  replace A3 := Lib.hid (A3.out.on g12)
  replace A4 := Lib.hid (A4.out.on g12)
  replace A5 := Lib.hid (A5.out.on g12)
  replace A6 := Lib.hid (A6.out.on g12)
  replace A7 := Lib.hid (A7.out.on g12)
  replace A8 := Lib.hid (A8.out.on g12)
  replace A9 := Lib.hid (A9.out.on g12)
  replace Ax := Lib.hid (Ax.out.on g12)
  replace Ay := Lib.hid (Ay.out.on g12)
  have Av := Lib.hid av
  clear g12 av G11
  have S13 := Lib.hid (same_any _ _ py pv 1 qy 1 qv (by omega) (by omega) w12 Ay.out Av.out)
  rw [same_self] at S13
  go_wp2_with fail
  refine (S13.out).mono ?_
  rintro e w13 ⟨rfl, g13⟩
  have G13 := Lib.hid (Bel.trans G12.out g13)
  replace A1 := Lib.hid (A1.out.on g13)
  replace A2 := Lib.hid (A2.out.on g13)
  replace A3 := Lib.hid (A3.out.on g13)
  replace A4 := Lib.hid (A4.out.on g13)
  replace A5 := Lib.hid (A5.out.on g13)
  replace A6 := Lib.hid (A6.out.on g13)
  replace A7 := Lib.hid (A7.out.on g13)
  replace A8 := Lib.hid (A8.out.on g13)
  replace A9 := Lib.hid (A9.out.on g13)
  replace Ax := Lib.hid (Ax.out.on g13)
  replace Ay := Lib.hid (Ay.out.on g13)
  replace Av := Lib.hid (Av.out.on g13)
  clear g13 G12
  have S14 := Lib.hid (same_any _ _ p1 p2 m1 q1 m2 q2 (by omega) (by omega) w13 A1.out A2.out)
  rw [same_self] at S14
  go_wp2_with fail
  refine (S14.out).mono ?_
  rintro e w14 ⟨rfl, g14⟩
  have G14 := Lib.hid (Bel.trans G13.out g14)
  replace A1 := Lib.hid (A1.out.on g14)
  replace A2 := Lib.hid (A2.out.on g14)
  replace A3 := Lib.hid (A3.out.on g14)
  replace A4 := Lib.hid (A4.out.on g14)
  replace A5 := Lib.hid (A5.out.on g14)
  replace A6 := Lib.hid (A6.out.on g14)
  replace A7 := Lib.hid (A7.out.on g14)
  replace A8 := Lib.hid (A8.out.on g14)
  replace A9 := Lib.hid (A9.out.on g14)
  replace Ax := Lib.hid (Ax.out.on g14)
  replace Ay := Lib.hid (Ay.out.on g14)
  replace Av := Lib.hid (Av.out.on g14)
  clear g14 G13
  have S15 := Lib.hid (same_any _ _ p3 p4 m3 q3 m4 q4 (by omega) (by omega) w14 A3.out A4.out)
  rw [same_self] at S15
  go_wp2_with fail
  refine (S15.out).mono ?_
  rintro e w15 ⟨rfl, g15⟩
  have G15 := Lib.hid (Bel.trans G14.out g15)
  replace A1 := Lib.hid (A1.out.on g15)
  replace A2 := Lib.hid (A2.out.on g15)
  replace A3 := Lib.hid (A3.out.on g15)
  replace A4 := Lib.hid (A4.out.on g15)
  replace A5 := Lib.hid (A5.out.on g15)
  replace A6 := Lib.hid (A6.out.on g15)
  replace A7 := Lib.hid (A7.out.on g15)
  replace A8 := Lib.hid (A8.out.on g15)
  replace A9 := Lib.hid (A9.out.on g15)
  replace Ax := Lib.hid (Ax.out.on g15)
  replace Ay := Lib.hid (Ay.out.on g15)
  replace Av := Lib.hid (Av.out.on g15)
  clear g15 G14
  have S16 := Lib.hid (same_any _ _ p5 p6 m5 q5 m6 q6 (by omega) (by omega) w15 A5.out A6.out)
  rw [same_self] at S16
  go_wp2_with fail
  refine (S16.out).mono ?_
  rintro e w16 ⟨rfl, g16⟩
  have G16 := Lib.hid (Bel.trans G15.out g16)
  replace A1 := Lib.hid (A1.out.on g16)
  replace A2 := Lib.hid (A2.out.on g16)
  replace A3 := Lib.hid (A3.out.on g16)
  replace A4 := Lib.hid (A4.out.on g16)
  replace A5 := Lib.hid (A5.out.on g16)
  replace A6 := Lib.hid (A6.out.on g16)
  replace A7 := Lib.hid (A7.out.on g16)
  replace A8 := Lib.hid (A8.out.on g16)
  replace A9 := Lib.hid (A9.out.on g16)
  replace Ax := Lib.hid (Ax.out.on g16)
  replace Ay := Lib.hid (Ay.out.on g16)
  replace Av := Lib.hid (Av.out.on g16)
  clear g16 G15
  have S17 := Lib.hid (same_any _ _ p7 p8 m7 q7 m8 q8 (by omega) (by omega) w16 A7.out A8.out)
  rw [same_self] at S17
  go_wp2_with fail
  refine (S17.out).mono ?_
  rintro e w17 ⟨rfl, g17⟩
  have G17 := Lib.hid (Bel.trans G16.out g17)
  replace A1 := Lib.hid (A1.out.on g17)
  replace A2 := Lib.hid (A2.out.on g17)
  replace A3 := Lib.hid (A3.out.on g17)
  replace A4 := Lib.hid (A4.out.on g17)
  replace A5 := Lib.hid (A5.out.on g17)
  replace A6 := Lib.hid (A6.out.on g17)
  replace A7 := Lib.hid (A7.out.on g17)
  replace A8 := Lib.hid (A8.out.on g17)
  replace A9 := Lib.hid (A9.out.on g17)
  replace Ax := Lib.hid (Ax.out.on g17)
  replace Ay := Lib.hid (Ay.out.on g17)
  replace Av := Lib.hid (Av.out.on g17)
  clear g17 G16
  go_wp2_with fail
  refine (awake_any w17).mono ?_
  rintro e w18 ⟨rfl, g18⟩
  have G18 := Lib.hid (Bel.trans G17.out g18)
  replace A1 := Lib.hid (A1.out.on g18)
  replace A2 := Lib.hid (A2.out.on g18)
  replace A3 := Lib.hid (A3.out.on g18)
  replace A4 := Lib.hid (A4.out.on g18)
  replace A5 := Lib.hid (A5.out.on g18)
  replace A6 := Lib.hid (A6.out.on g18)
  replace A7 := Lib.hid (A7.out.on g18)
  replace A8 := Lib.hid (A8.out.on g18)
  replace A9 := Lib.hid (A9.out.on g18)
  replace Ax := Lib.hid (Ax.out.on g18)
  replace Ay := Lib.hid (Ay.out.on g18)
  replace Av := Lib.hid (Av.out.on g18)
  clear g18 G17
  go_wp2_with fail
  go_ret
  exact ⟨rfl, G18.out⟩
set_option maxRecDepth 100000 in
set_option maxHeartbeats 8000000 in
theorem law_builds_ne (b : Bool) (z : Int) (hz : -9223372036854775808 ≤ z ∧ z ≤ 9223372036854775807) (s : ByteArray) (ks : List ByteArray) (ls : List (List Cel)) (o1 o2 : Option Addr) (n1 c1 n2 c2 : Nat) (hs : ¬ 300 < s.size) (hks : namesB ks = true) (hls : allB ls = true) (hnn : n1 ≠ n2) (w : World) (hL : Lad w) (hK : SlArg w o1 n1 ks) (hA : LArg w o2 n2 ls) :
    Calls Tryd.prog 4 #[.bool b, .int .i64 z, .string s, .slice o1 n1 c1, .slice o2 n2 c2] w fun e w' => e = .returned (.bool true) ∧ Bel w w' := by
  have hk2 := names_yes hks
  have hl2 := all_yes hls
  have hl3 : ∀ l ∈ ls, l.length ≤ 300 := fun l h => (small_yes (hl2.2 l h)).1
  have hl4 : ∀ l ∈ ls, l.length ≤ 100000 ∧ Shrt l := fun l h => ⟨Nat.le_trans (hl3 l h) (by decide), small_shrt (hl2.2 l h)⟩
  have hfl := flat_small hl3
  have hpr := prs_small (ks := ks) hl3
  have HKN := Lib.hid (names_any ks o1 n1 c1 w hK)
  have HLN := Lib.hid (all_any ls o2 n2 c2 w hA)
  rw [hks] at HKN
  rw [hls] at HLN
  have K := Lib.hid hK
  have L := Lib.hid hA
  have HL := Lib.hid hL
  have HZ := Lib.hid hz
  have hn1 : n1 ≤ 20 := by have := hK.1; have := hk2.1; omega
  have hn2 : n2 ≤ 20 := by have := hA.1; have := hl2.1; omega
  have Hfl : Hid (ls.flatten.length ≤ 6000) := Lib.hid (by have := hl2.1; omega)
  have Hpr : Hid ((prsC ks ls).length ≤ 6020) := Lib.hid (by have := hl2.1; omega)
  have Hk := Lib.hid hk2
  have Hl4 := Lib.hid hl4
  have hs3 : s.size ≤ 300 := by omega
  have ds : decide ((300 : Int) < (s.size : Int)) = false := decide_eq_false (by omega)
  have Hkl := Lib.hid hK.1
  have Hll := Lib.hid hA.1
  have HNN := Lib.hid hnn
  clear hK hA hL hz hks hls hk2 hl2 hl3 hl4 hfl hpr hs hnn
  go_enter Tryd.func4, Tryd.ntmps4
  go_wp2_with fail
  refine HKN.out.mono ?_
  rintro e w' ⟨rfl, rfl⟩
  go_wp2_with fail
  refine HLN.out.mono ?_
  rintro e w' ⟨rfl, rfl⟩
  clear HKN HLN
  go_wp2_with fail
  refine (vint_any z HZ.out w).mono ?_
  rintro e w0 ⟨⟨p1, m1, q1, rfl, a1, _⟩, g0⟩
  have G0 := Lib.hid g0
  have A1 := Lib.hid a1
  clear g0 a1
  go_wp2_with fail
  refine (int_any z HZ.out w0 (HL.out.on G0.out)).mono ?_
  rintro e w1 ⟨⟨p2, m2, q2, rfl, a2, _⟩, g1⟩
  have G1 := Lib.hid (Bel.trans G0.out g1)
  replace A1 := Lib.hid (A1.out.on g1)
  have A2 := Lib.hid a2
  clear g1 a2 G0
  go_wp2_with fail
  refine (vstr_any s (by omega) w1).mono ?_
  rintro e w2 ⟨⟨p3, m3, q3, rfl, a3, _⟩, g2⟩
  have G2 := Lib.hid (Bel.trans G1.out g2)
  replace A1 := Lib.hid (A1.out.on g2)
  replace A2 := Lib.hid (A2.out.on g2)
  have A3 := Lib.hid a3
  clear g2 a3 G1
  go_wp2_with fail
  refine (str_any s (by omega) w2 (HL.out.on G2.out)).mono ?_
  rintro e w3 ⟨⟨p4, m4, q4, rfl, a4, _⟩, g3⟩
  have G3 := Lib.hid (Bel.trans G2.out g3)
  replace A1 := Lib.hid (A1.out.on g3)
  replace A2 := Lib.hid (A2.out.on g3)
  replace A3 := Lib.hid (A3.out.on g3)
  have A4 := Lib.hid a4
  clear g3 a4 G2
  go_wp2_with fail
  refine (vlist_any ls o2 n2 c2 (by omega) (Nat.le_trans Hfl.out (by decide)) (fun l h => (Hl4.out l h).2) w3 (L.out.on G3.out)).mono ?_
  rintro e w4 ⟨⟨p5, m5, q5, rfl, a5, _⟩, g4⟩
  have G4 := Lib.hid (Bel.trans G3.out g4)
  replace A1 := Lib.hid (A1.out.on g4)
  replace A2 := Lib.hid (A2.out.on g4)
  replace A3 := Lib.hid (A3.out.on g4)
  replace A4 := Lib.hid (A4.out.on g4)
  have A5 := Lib.hid a5
  clear g4 a5 G3
  go_wp2_with fail
  refine (list_any ls o2 n2 c2 (by omega) (Nat.le_trans Hfl.out (by decide)) w4 (HL.out.on G4.out) (L.out.on G4.out)).mono ?_
  rintro e w5 ⟨⟨p6, m6, q6, rfl, a6, _⟩, g5⟩
  have G5 := Lib.hid (Bel.trans G4.out g5)
  replace A1 := Lib.hid (A1.out.on g5)
  replace A2 := Lib.hid (A2.out.on g5)
  replace A3 := Lib.hid (A3.out.on g5)
  replace A4 := Lib.hid (A4.out.on g5)
  replace A5 := Lib.hid (A5.out.on g5)
  have A6 := Lib.hid a6
  clear g5 a6 G4
  go_wp2_with fail
  refine (vmap_off ks ls o1 o2 n1 c1 n2 c2 Hkl.out Hll.out HNN.out w5).mono ?_
  rintro e w6 ⟨⟨p7, m7, q7, rfl, a7, _⟩, g6⟩
  have G6 := Lib.hid (Bel.trans G5.out g6)
  replace A1 := Lib.hid (A1.out.on g6)
  replace A2 := Lib.hid (A2.out.on g6)
  replace A3 := Lib.hid (A3.out.on g6)
  replace A4 := Lib.hid (A4.out.on g6)
  replace A5 := Lib.hid (A5.out.on g6)
  replace A6 := Lib.hid (A6.out.on g6)
  have A7 := Lib.hid a7
  clear g6 a7 G5
  go_wp2_with fail
  refine (map_off ks ls o1 o2 n1 c1 n2 c2 Hkl.out Hll.out HNN.out w6).mono ?_
  rintro e w7 ⟨⟨p8, m8, q8, rfl, a8, _⟩, g7⟩
  have G7 := Lib.hid (Bel.trans G6.out g7)
  replace A1 := Lib.hid (A1.out.on g7)
  replace A2 := Lib.hid (A2.out.on g7)
  replace A3 := Lib.hid (A3.out.on g7)
  replace A4 := Lib.hid (A4.out.on g7)
  replace A5 := Lib.hid (A5.out.on g7)
  replace A6 := Lib.hid (A6.out.on g7)
  replace A7 := Lib.hid (A7.out.on g7)
  have A8 := Lib.hid a8
  clear g7 a8 G6
  have l1 : m1 ≤ 1000000 := by have := A1.out.1; have := chkd_len [⟨3, z, [], 0⟩]; simp only [List.length_singleton] at this; omega
  have l2 : m2 ≤ 1000000 := by have := A2.out.1; have := chkd_len [⟨3, z, [], 0⟩]; simp only [List.length_singleton] at this; omega
  have l3 : m3 ≤ 1000000 := by have := A3.out.1; have := chkd_len [⟨4, 0, s.toList, 0⟩]; simp only [List.length_singleton] at this; omega
  have l4 : m4 ≤ 1000000 := by have := A4.out.1; have := chkd_len [⟨4, 0, s.toList, 0⟩]; simp only [List.length_singleton] at this; omega
  have l5 : m5 ≤ 1000000 := by have := A5.out.1; have := listB_len ls; have := Hfl.out; omega
  have l6 : m6 ≤ 1000000 := by have := A6.out.1; have := listB_len ls; have := Hfl.out; omega
  have l7 : m7 ≤ 1000000 := by have := A7.out.1; have := mapB_len ks ls; have := Hpr.out; omega
  have l8 : m8 ≤ 1000000 := by have := A8.out.1; have := mapB_len ks ls; have := Hpr.out; omega
  go_wp2_with fail
  refine (vnull_any w7).mono ?_
  rintro e w8 ⟨⟨p9, q9, rfl, a9, _⟩, g8⟩
  have G8 := Lib.hid (Bel.trans G7.out g8)
  replace A1 := Lib.hid (A1.out.on g8)
  replace A2 := Lib.hid (A2.out.on g8)
  replace A3 := Lib.hid (A3.out.on g8)
  replace A4 := Lib.hid (A4.out.on g8)
  replace A5 := Lib.hid (A5.out.on g8)
  replace A6 := Lib.hid (A6.out.on g8)
  replace A7 := Lib.hid (A7.out.on g8)
  replace A8 := Lib.hid (A8.out.on g8)
  have A9 := Lib.hid a9
  clear g8 a9 G7
  go_wp2_with fail
  refine (null_any w8).mono ?_
  rintro e w9 ⟨⟨px, qx, rfl, ax⟩, g9⟩
  have G9 := Lib.hid (Bel.trans G8.out g9)
  replace A1 := Lib.hid (A1.out.on g9)
  replace A2 := Lib.hid (A2.out.on g9)
  replace A3 := Lib.hid (A3.out.on g9)
  replace A4 := Lib.hid (A4.out.on g9)
  replace A5 := Lib.hid (A5.out.on g9)
  replace A6 := Lib.hid (A6.out.on g9)
  replace A7 := Lib.hid (A7.out.on g9)
  replace A8 := Lib.hid (A8.out.on g9)
  replace A9 := Lib.hid (A9.out.on g9)
  have Ax := Lib.hid ax
  clear g9 ax G8
  have S10 := Lib.hid (same_any _ _ p9 px 1 q9 1 qx (by omega) (by omega) w9 A9.out Ax.out)
  rw [same_self] at S10
  go_wp2_with fail
  refine (S10.out).mono ?_
  rintro e w10 ⟨rfl, g10⟩
  have G10 := Lib.hid (Bel.trans G9.out g10)
  replace A1 := Lib.hid (A1.out.on g10)
  replace A2 := Lib.hid (A2.out.on g10)
  replace A3 := Lib.hid (A3.out.on g10)
  replace A4 := Lib.hid (A4.out.on g10)
  replace A5 := Lib.hid (A5.out.on g10)
  replace A6 := Lib.hid (A6.out.on g10)
  replace A7 := Lib.hid (A7.out.on g10)
  replace A8 := Lib.hid (A8.out.on g10)
  replace A9 := Lib.hid (A9.out.on g10)
  replace Ax := Lib.hid (Ax.out.on g10)
  clear g10 G9
  go_wp2_with fail
  refine (vbool_any b w10).mono ?_
  rintro e w11 ⟨⟨py, qy, rfl, ay, _⟩, g11⟩
  have G11 := Lib.hid (Bel.trans G10.out g11)
  replace A1 := Lib.hid (A1.out.on g11)
  replace A2 := Lib.hid (A2.out.on g11)
  replace A3 := Lib.hid (A3.out.on g11)
  replace A4 := Lib.hid (A4.out.on g11)
  replace A5 := Lib.hid (A5.out.on g11)
  replace A6 := Lib.hid (A6.out.on g11)
  replace A7 := Lib.hid (A7.out.on g11)
  replace A8 := Lib.hid (A8.out.on g11)
  replace A9 := Lib.hid (A9.out.on g11)
  replace Ax := Lib.hid (Ax.out.on g11)
  have Ay := Lib.hid ay
  clear g11 ay G10
  go_wp2_with fail
  refine (bool_any b w11).mono ?_
  rintro e w12 ⟨⟨pv, qv, rfl, av⟩, g12⟩
  have G12 := Lib.hid (Bel.trans G11.out g12)
  replace A1 := Lib.hid (A1.out.on g12)
  replace A2 := Lib.hid (A2.out.on g12)
  replace A3 := Lib.hid (A3.out.on g12)
  replace A4 := Lib.hid (A4.out.on g12)
  replace A5 := Lib.hid (A5.out.on g12)
  replace A6 := Lib.hid (A6.out.on g12)
  replace A7 := Lib.hid (A7.out.on g12)
  replace A8 := Lib.hid (A8.out.on g12)
  replace A9 := Lib.hid (A9.out.on g12)
  replace Ax := Lib.hid (Ax.out.on g12)
  replace Ay := Lib.hid (Ay.out.on g12)
  have Av := Lib.hid av
  clear g12 av G11
  have S13 := Lib.hid (same_any _ _ py pv 1 qy 1 qv (by omega) (by omega) w12 Ay.out Av.out)
  rw [same_self] at S13
  go_wp2_with fail
  refine (S13.out).mono ?_
  rintro e w13 ⟨rfl, g13⟩
  have G13 := Lib.hid (Bel.trans G12.out g13)
  replace A1 := Lib.hid (A1.out.on g13)
  replace A2 := Lib.hid (A2.out.on g13)
  replace A3 := Lib.hid (A3.out.on g13)
  replace A4 := Lib.hid (A4.out.on g13)
  replace A5 := Lib.hid (A5.out.on g13)
  replace A6 := Lib.hid (A6.out.on g13)
  replace A7 := Lib.hid (A7.out.on g13)
  replace A8 := Lib.hid (A8.out.on g13)
  replace A9 := Lib.hid (A9.out.on g13)
  replace Ax := Lib.hid (Ax.out.on g13)
  replace Ay := Lib.hid (Ay.out.on g13)
  replace Av := Lib.hid (Av.out.on g13)
  clear g13 G12
  have S14 := Lib.hid (same_any _ _ p1 p2 m1 q1 m2 q2 (by omega) (by omega) w13 A1.out A2.out)
  rw [same_self] at S14
  go_wp2_with fail
  refine (S14.out).mono ?_
  rintro e w14 ⟨rfl, g14⟩
  have G14 := Lib.hid (Bel.trans G13.out g14)
  replace A1 := Lib.hid (A1.out.on g14)
  replace A2 := Lib.hid (A2.out.on g14)
  replace A3 := Lib.hid (A3.out.on g14)
  replace A4 := Lib.hid (A4.out.on g14)
  replace A5 := Lib.hid (A5.out.on g14)
  replace A6 := Lib.hid (A6.out.on g14)
  replace A7 := Lib.hid (A7.out.on g14)
  replace A8 := Lib.hid (A8.out.on g14)
  replace A9 := Lib.hid (A9.out.on g14)
  replace Ax := Lib.hid (Ax.out.on g14)
  replace Ay := Lib.hid (Ay.out.on g14)
  replace Av := Lib.hid (Av.out.on g14)
  clear g14 G13
  have S15 := Lib.hid (same_any _ _ p3 p4 m3 q3 m4 q4 (by omega) (by omega) w14 A3.out A4.out)
  rw [same_self] at S15
  go_wp2_with fail
  refine (S15.out).mono ?_
  rintro e w15 ⟨rfl, g15⟩
  have G15 := Lib.hid (Bel.trans G14.out g15)
  replace A1 := Lib.hid (A1.out.on g15)
  replace A2 := Lib.hid (A2.out.on g15)
  replace A3 := Lib.hid (A3.out.on g15)
  replace A4 := Lib.hid (A4.out.on g15)
  replace A5 := Lib.hid (A5.out.on g15)
  replace A6 := Lib.hid (A6.out.on g15)
  replace A7 := Lib.hid (A7.out.on g15)
  replace A8 := Lib.hid (A8.out.on g15)
  replace A9 := Lib.hid (A9.out.on g15)
  replace Ax := Lib.hid (Ax.out.on g15)
  replace Ay := Lib.hid (Ay.out.on g15)
  replace Av := Lib.hid (Av.out.on g15)
  clear g15 G14
  have S16 := Lib.hid (same_any _ _ p5 p6 m5 q5 m6 q6 (by omega) (by omega) w15 A5.out A6.out)
  rw [same_self] at S16
  go_wp2_with fail
  refine (S16.out).mono ?_
  rintro e w16 ⟨rfl, g16⟩
  have G16 := Lib.hid (Bel.trans G15.out g16)
  replace A1 := Lib.hid (A1.out.on g16)
  replace A2 := Lib.hid (A2.out.on g16)
  replace A3 := Lib.hid (A3.out.on g16)
  replace A4 := Lib.hid (A4.out.on g16)
  replace A5 := Lib.hid (A5.out.on g16)
  replace A6 := Lib.hid (A6.out.on g16)
  replace A7 := Lib.hid (A7.out.on g16)
  replace A8 := Lib.hid (A8.out.on g16)
  replace A9 := Lib.hid (A9.out.on g16)
  replace Ax := Lib.hid (Ax.out.on g16)
  replace Ay := Lib.hid (Ay.out.on g16)
  replace Av := Lib.hid (Av.out.on g16)
  clear g16 G15
  have S17 := Lib.hid (same_any _ _ p7 p8 m7 q7 m8 q8 (by omega) (by omega) w16 A7.out A8.out)
  rw [same_self] at S17
  go_wp2_with fail
  refine (S17.out).mono ?_
  rintro e w17 ⟨rfl, g17⟩
  have G17 := Lib.hid (Bel.trans G16.out g17)
  replace A1 := Lib.hid (A1.out.on g17)
  replace A2 := Lib.hid (A2.out.on g17)
  replace A3 := Lib.hid (A3.out.on g17)
  replace A4 := Lib.hid (A4.out.on g17)
  replace A5 := Lib.hid (A5.out.on g17)
  replace A6 := Lib.hid (A6.out.on g17)
  replace A7 := Lib.hid (A7.out.on g17)
  replace A8 := Lib.hid (A8.out.on g17)
  replace A9 := Lib.hid (A9.out.on g17)
  replace Ax := Lib.hid (Ax.out.on g17)
  replace Ay := Lib.hid (Ay.out.on g17)
  replace Av := Lib.hid (Av.out.on g17)
  clear g17 G16
  go_wp2_with fail
  refine (awake_any w17).mono ?_
  rintro e w18 ⟨rfl, g18⟩
  have G18 := Lib.hid (Bel.trans G17.out g18)
  replace A1 := Lib.hid (A1.out.on g18)
  replace A2 := Lib.hid (A2.out.on g18)
  replace A3 := Lib.hid (A3.out.on g18)
  replace A4 := Lib.hid (A4.out.on g18)
  replace A5 := Lib.hid (A5.out.on g18)
  replace A6 := Lib.hid (A6.out.on g18)
  replace A7 := Lib.hid (A7.out.on g18)
  replace A8 := Lib.hid (A8.out.on g18)
  replace A9 := Lib.hid (A9.out.on g18)
  replace Ax := Lib.hid (Ax.out.on g18)
  replace Ay := Lib.hid (Ay.out.on g18)
  replace Av := Lib.hid (Av.out.on g18)
  clear g18 G17
  go_wp2_with fail
  go_ret
  exact ⟨rfl, G18.out⟩
set_option maxRecDepth 100000 in
set_option maxHeartbeats 4000000 in
theorem law_builds (b : Bool) (z : Int) (hz : -9223372036854775808 ≤ z ∧ z ≤ 9223372036854775807) (s : ByteArray) (hs : s.size ≤ 140737488355328) (ks : List ByteArray) (ls : List (List Cel)) (o1 o2 : Option Addr) (n1 c1 n2 c2 : Nat) (w : World) (hL : Lad w) (hK : SlArg w o1 n1 ks) (hA : LArg w o2 n2 ls) :
    Calls Tryd.prog 4 #[.bool b, .int .i64 z, .string s, .slice o1 n1 c1, .slice o2 n2 c2] w fun e w' => e = .returned (.bool true) ∧ Bel w w' := by
  by_cases hs3 : 300 < s.size
  · clear hK hA hL hz
    go_enter Tryd.func4, Tryd.ntmps4
    go_wp2_with fail
    refine (awake_any w).mono ?_
    rintro e w1 ⟨rfl, g1⟩
    go_wp2_with fail
    go_ret
    exact ⟨rfl, g1⟩
  · have ds : decide ((300 : Int) < (s.size : Int)) = false := decide_eq_false (by omega)
    cases hks : namesB ks with
    | false =>
      have HKN := Lib.hid (names_any ks o1 n1 c1 w hK)
      rw [hks] at HKN
      clear hK hA hL hz hks hs3
      go_enter Tryd.func4, Tryd.ntmps4
      go_wp2_with fail
      refine HKN.out.mono ?_
      rintro e w' ⟨rfl, rfl⟩
      go_wp2_with fail
      refine (awake_any w).mono ?_
      rintro e w1 ⟨rfl, g1⟩
      go_wp2_with fail
      go_ret
      exact ⟨rfl, g1⟩
    | true =>
      cases hls : allB ls with
      | false =>
        have HKN := Lib.hid (names_any ks o1 n1 c1 w hK)
        have HLN := Lib.hid (all_any ls o2 n2 c2 w hA)
        rw [hks] at HKN
        rw [hls] at HLN
        clear hK hA hL hz hks hls hs3
        go_enter Tryd.func4, Tryd.ntmps4
        go_wp2_with fail
        refine HKN.out.mono ?_
        rintro e w' ⟨rfl, rfl⟩
        go_wp2_with fail
        refine HLN.out.mono ?_
        rintro e w' ⟨rfl, rfl⟩
        go_wp2_with fail
        refine (awake_any w).mono ?_
        rintro e w1 ⟨rfl, g1⟩
        go_wp2_with fail
        go_ret
        exact ⟨rfl, g1⟩
      | true =>
        by_cases hnn : n1 = n2
        · exact law_builds_eq b z hz s ks ls o1 o2 n1 c1 n2 c2 hs3 hks hls hnn w hL hK hA
        · exact law_builds_ne b z hz s ks ls o1 o2 n1 c1 n2 c2 hs3 hks hls hnn w hL hK hA
end Val
end Go.Proofs.YtonlcjackbhnmaaDoor
