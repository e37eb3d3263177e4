/-
  Layer 4: what the functions of the layer say; the reference says so; awake.
-/
import Derived.Test.YtkecellbbfhpoaaFrmH
namespace Go.Proofs.Ytkecellbbfhpoaa
open Go.RowKit Go.ChangeShapes Go.WideShapes
namespace Frm
open Hsh

def PackI (f : Nat) : Prop := ∀ (o : Option Addr) (n c : Nat) (xs : List ByteArray) (w : World), n ≤ 4611686018427387904 → (∀ x ∈ xs, x.size ≤ 140737488355328) → Lad w → SlArg w o n xs →
  Calls Try.prog f #[.slice o n c] w fun e w' => e = .returned (.tuple #[.string ⟨(pckB (lists xs)).toArray⟩, .int .i64 (pckE (lists xs))]) ∧ Bel w w'
def UnpI (f : Nat) : Prop := ∀ (s : ByteArray) (w : World), s.size ≤ 300000 → Lad w →
  Calls Try.prog f #[.string s] w fun e w' => (∃ o k c D, SlArg w' o k D ∧ lists D = unpL s.toList ∧ e = .returned (.tuple #[.slice o k c, .int .i64 (unpE s.toList)])) ∧ Bel w w'
def seaB (l : List UInt8) : List UInt8 := if l.length ≤ 262136 then frm l else []
def seaE (l : List UInt8) : Int := if l.length ≤ 262136 then 0 else 3
theorem sea_ok {l : List UInt8} (h : l.length ≤ 262136) : seaB l = frm l ∧ seaE l = 0 := by
  unfold seaB seaE
  rw [if_pos h, if_pos h]
  exact ⟨rfl, rfl⟩
theorem sea_no {l : List UInt8} (h : 262136 < l.length) : seaB l = [] ∧ seaE l = 3 := by
  unfold seaB seaE
  rw [if_neg (by omega), if_neg (by omega)]
  exact ⟨rfl, rfl⟩
def SealI (f : Nat) : Prop := ∀ (s : ByteArray) (w : World), s.size ≤ 140737488355328 → Lad w →
  Calls Try.prog f #[.string s] w fun e w' => e = .returned (.tuple #[.string ⟨(seaB s.toList).toArray⟩, .int .i64 (seaE s.toList)]) ∧ Bel w w'
def OpenI (f : Nat) : Prop := ∀ (s : ByteArray) (w : World), s.size ≤ 140737488355328 → Lad w →
  Calls Try.prog f #[.string s] w fun e w' => e = .returned (.tuple #[.string ⟨(opB s.toList).toArray⟩, .int .i64 (opN s.toList : Int), .int .i64 (opE s.toList)]) ∧ Bel w w'
def SplI (f : Nat) : Prop := ∀ (s : ByteArray) (w : World), s.size ≤ 300000 → Lad w →
  Calls Try.prog f #[.string s] w fun e w' => (∃ o k c D, SlArg w' o k D ∧ lists D = (split s.toList).1 ∧ e = .returned (.tuple #[.slice o k c, .int .i64 ((split s.toList).2 : Int)])) ∧ Bel w w'
def JoinI (f : Nat) : Prop := ∀ (o : Option Addr) (n c : Nat) (xs : List ByteArray) (w : World), n ≤ 4611686018427387904 → (∀ x ∈ xs, x.size ≤ 140737488355328) → Lad w → SlArg w o n xs →
  Calls Try.prog f #[.slice o n c] w fun e w' => e = .returned (.tuple #[.string ⟨(joiB (lists xs)).toArray⟩, .int .i64 (joiE (lists xs))]) ∧ Bel w w'
theorem rpack_I : PackI 12 := fun o n c xs w hn _ _ hA => rpack_any o n c xs (by unfold maxLen; omega) w hA
theorem runpack_I : UnpI 14 := fun s w hs _ => runpack_any s hs w
theorem rseal_I : SealI 17 := fun s w hs _ => by
  by_cases h : s.size ≤ 262136
  · have hz := sea_ok (l := s.toList) (by rw [toL_len]; exact h)
    rw [hz.1, hz.2]
    exact rseal_ok s h w
  · have hz := sea_no (l := s.toList) (by rw [toL_len]; omega)
    rw [hz.1, hz.2]
    exact (rseal_long s (by omega) hs w).mono fun _ _ ⟨a, b⟩ => ⟨a, b ▸ Bel.refl _⟩
theorem ropen_I : OpenI 19 := fun s w hs _ => ropen_any s hs w
theorem rsplit_I : SplI 23 := fun s w hs _ => rsplit_any s hs w
theorem rjoin_I : JoinI 21 := fun o n c xs w hn hx _ hA => rjoin_any o n c xs (by unfold maxLen; omega) hx w hA
theorem unpL_len (l : List UInt8) : (unpL l).length ≤ 64 := by
  cases h : unp l with
  | error b => rw [(unp_bad h).1]; exact Nat.zero_le _
  | ok fs => rw [(unp_good h).1]; exact (pck_unp h).1.1
theorem split_len : ∀ (k : Nat) (s : List UInt8), s.length ≤ k → 8 * (split s).1.length ≤ s.length
  | 0, s, h => by
    rw [split_bad (opn_short (by omega))]
    exact Nat.zero_le _
  | k + 1, s, h => by
    cases ho : opn s with
    | error e => rw [split_bad ho]; exact Nat.zero_le _
    | ok x =>
      obtain ⟨b, n⟩ := x
      have hk := opn_ok ho
      rw [split_ok ho]
      have := split_len k (s.drop n) (by rw [List.length_drop]; omega)
      rw [List.length_drop] at this
      simp only [List.length_cons]
      omega

/-- The examples. -/
theorem ex1 : pckB [[97, 98], []] = [2, 0, 2, 97, 98, 0, 0] ∧ pckE [[97, 98], []] = 0 := by decide
theorem ex2 : unpE [1, 0, 2, 97] = 14 := by decide
theorem ex3 : unpE [0, 7] = 13 := by decide
theorem ex4 : seaB [] = [0, 0, 0, 0, 0, 0, 0, 0] ∧ seaE [] = 0 := by decide
theorem ex5 : joiE [[97], [98]] = 0 ∧ joiB [[97], [98]] = frms [[97], [98]] := by
  have h := joi_ok (fs := [[97], [98]]) (by unfold OkJ; decide)
  exact ⟨h.2, h.1⟩
theorem ex6 : (frms [[97], [98]]).length = 18 := by
  rw [frms_cons, List.length_append, frm_len, frms_cons, List.length_append, frm_len]
  rfl
theorem ex7 : split ((frms [[97], [98]]).take 17) = ([[97]], 9) := by
  rw [split_torn _ _ (by intro b hb; simp at hb; rcases hb with rfl | rfl <;> decide)]
  decide
/-- A literal slice of strings. -/
theorem lit_sarg (w : World) (l : List ByteArray) : SlArg (w.alloc (.cells (encS l).toArray 9)) (some ⟨w.heap.size, 0, none⟩) l.length l := ⟨rfl, fun i hi => ⟨_, rfl, by
  rw [Lib.add_plain, World.cell?_alloc_new]
  simp [encS, List.getElem?_eq_getElem hi]⟩⟩
/-- The beginning of a string. -/
theorem cutB (s : ByteArray) (j : Nat) (zj : Int) (hj : zj = (j : Int)) (h : j ≤ s.size) (w : World) :
    (Instr.slice 9 (.string s) none (some (.int .i64 zj)) none).run Try.prog w = .ok (.string ⟨(s.toList.take j).toArray⟩) w := by
  subst hj
  have h2 := Lib.extract_eq s 0 j
  rw [run_slice_string_h w 9 s Try.underlying9 .i64 (j : Int) (by omega) (by omega)]
  simp only [Int.toNat_natCast]
  rw [h2, ← toL, List.drop_zero, Nat.sub_zero]
set_option maxHeartbeats 4000000 in
theorem awake_any (hP : Hid (PackI 11)) (hU : Hid (UnpI 13)) (hS : Hid (SealI 16)) (hJ : Hid (JoinI 20)) (hT : Hid (SplI 22)) (w : World) (hL : Lad w) :
    Calls Try.prog 10 #[] w fun e w' => e = .returned (.bool true) ∧ Bel w w' := by
  have e1 := ex1
  have HL := Lib.hid hL
  clear hL
  obtain ⟨J, hJe⟩ : ∃ J : ByteArray, ⟨(frms [[97], [98]]).toArray⟩ = J := ⟨_, rfl⟩
  have hJl : J.toList = frms [[97], [98]] := by rw [← hJe, tl']
  have hJs : J.size = 18 := by rw [← toL_len, hJl, ex6]
  have p1 : Hid (∀ w, Lad w → Calls Try.prog 11 #[.slice (some ⟨w.heap.size, 0, none⟩) 2 2] (w.alloc (.cells #[.string ⟨#[97, 98]⟩, .string ⟨#[]⟩] 9)) fun e w' => e = .returned (.tuple #[.string ⟨#[2, 0, 2, 97, 98, 0, 0]⟩, .int .i64 0]) ∧ Bel (w.alloc (.cells #[.string ⟨#[97, 98]⟩, .string ⟨#[]⟩] 9)) w') := Lib.hid fun w hL => by
    have h := hP.out (some ⟨w.heap.size, 0, none⟩) 2 2 [⟨#[97, 98]⟩, ⟨#[]⟩] _ (by omega) (by intro x hx; simp at hx; rcases hx with rfl | rfl <;> decide) (hL.on ((Bel.refl w).alloc _)) (lit_sarg w _)
    have e : lists [⟨#[97, 98]⟩, ⟨#[]⟩] = [[97, 98], []] := by simp [lists, tl' [97, 98], tl' []]
    rw [e, ex1.1, ex1.2] at h
    exact h
  have p2 : Hid (∀ w, Lad w → Calls Try.prog 13 #[.string ⟨#[1, 0, 2, 97]⟩] w fun e w' => (∃ o k c, e = .returned (.tuple #[.slice o k c, .int .i64 14])) ∧ Bel w w') := Lib.hid fun w hL => by
    have h := hU.out ⟨#[1, 0, 2, 97]⟩ w (by decide) hL
    rw [tl' [1, 0, 2, 97], ex2] at h
    exact h.mono fun _ _ ⟨⟨o, k, c, _, _, _, h3⟩, h4⟩ => ⟨⟨o, k, c, h3⟩, h4⟩
  have p3 : Hid (∀ w, Lad w → Calls Try.prog 13 #[.string ⟨#[0, 7]⟩] w fun e w' => (∃ o k c, e = .returned (.tuple #[.slice o k c, .int .i64 13])) ∧ Bel w w') := Lib.hid fun w hL => by
    have h := hU.out ⟨#[0, 7]⟩ w (by decide) hL
    rw [tl' [0, 7], ex3] at h
    exact h.mono fun _ _ ⟨⟨o, k, c, _, _, _, h3⟩, h4⟩ => ⟨⟨o, k, c, h3⟩, h4⟩
  have p4 : Hid (∀ w, Lad w → Calls Try.prog 16 #[.string ⟨#[]⟩] w fun e w' => e = .returned (.tuple #[.string ⟨#[0, 0, 0, 0, 0, 0, 0, 0]⟩, .int .i64 0]) ∧ Bel w w') := Lib.hid fun w hL => by
    have h := hS.out ⟨#[]⟩ w (by decide) hL
    rw [tl' [], ex4.1, ex4.2] at h
    exact h
  have p5 : Hid (∀ w, Lad w → Calls Try.prog 20 #[.slice (some ⟨w.heap.size, 0, none⟩) 2 2] (w.alloc (.cells #[.string ⟨#[97]⟩, .string ⟨#[98]⟩] 9)) fun e w' => e = .returned (.tuple #[.string J, .int .i64 0]) ∧ Bel (w.alloc (.cells #[.string ⟨#[97]⟩, .string ⟨#[98]⟩] 9)) w') := Lib.hid fun w hL => by
    have h := hJ.out (some ⟨w.heap.size, 0, none⟩) 2 2 [⟨#[97]⟩, ⟨#[98]⟩] _ (by omega) (by intro x hx; simp at hx; rcases hx with rfl | rfl <;> decide) (hL.on ((Bel.refl w).alloc _)) (lit_sarg w _)
    have e : lists [⟨#[97]⟩, ⟨#[98]⟩] = [[97], [98]] := by simp [lists, tl' [97], tl' [98]]
    rw [e, ex5.1, ex5.2, hJe] at h
    exact h
  have sl := fun w => cutB J 17 17 rfl (by omega) w
  obtain ⟨T, hTe⟩ : ∃ T : ByteArray, ⟨(J.toList.take 17).toArray⟩ = T := ⟨_, rfl⟩
  have hTl : T.toList = (frms [[97], [98]]).take 17 := by rw [← hTe, tl', hJl]
  have p6 : Hid (∀ w, Lad w → Calls Try.prog 22 #[.string T] w fun e w' => (∃ o k c, SlArg w' o k [⟨#[97]⟩] ∧ e = .returned (.tuple #[.slice o k c, .int .i64 9])) ∧ Bel w w') := Lib.hid fun w hL => by
    have h := hT.out T w (by rw [← toL_len, hTl, List.length_take]; omega) hL
    rw [hTl, ex7] at h
    refine h.mono fun _ _ ⟨⟨o, k, c, D, h1, h2, h3⟩, h4⟩ => ⟨⟨o, k, c, ?_, h3⟩, h4⟩
    have : D = [⟨#[97]⟩] := lists_inj (h2.trans (by simp [lists, tl' [97]]))
    exact this ▸ h1
  rw [hTe] at sl
  clear hTe hTl hJe hJl e1
  go_enter Try.func10, Try.ntmps10
  go_wp2_with fail
  refine (p1.out w HL.out).mono ?_
  rintro e w1 ⟨rfl, g1⟩
  have G1 := Lib.hid (Bel.trans ((Bel.refl w).alloc _) g1)
  clear g1 p1
  go_wp2_with fail
  refine (p2.out w1 (HL.out.on G1.out)).mono ?_
  rintro e w2 ⟨⟨o2, k2, c2, rfl⟩, g2⟩
  have G2 := Lib.hid (Bel.trans G1.out g2)
  clear g2 G1 p2
  go_wp2_with fail
  refine (p3.out w2 (HL.out.on G2.out)).mono ?_
  rintro e w3 ⟨⟨o3, k3, c3, rfl⟩, g3⟩
  have G3 := Lib.hid (Bel.trans G2.out g3)
  clear g3 G2 p3
  go_wp2_with fail
  refine (p4.out w3 (HL.out.on G3.out)).mono ?_
  rintro e w4 ⟨rfl, g4⟩
  have G4 := Lib.hid (Bel.trans G3.out g4)
  clear g4 G3 p4
  go_wp2_with fail
  refine (p5.out w4 (HL.out.on G4.out)).mono ?_
  rintro e w5 ⟨rfl, g5⟩
  have G5 := Lib.hid (Bel.trans (G4.out.alloc _) g5)
  clear g5 G4 p5
  go_wp2_with fail
  refine (p6.out w5 (HL.out.on G5.out)).mono ?_
  rintro e w6 ⟨⟨o6, k6, c6, a6, rfl⟩, g6⟩
  have G6 := Lib.hid (Bel.trans G5.out g6)
  have A6 := Lib.hid a6
  clear g6 G5 p6 a6
  have k6e : 1 = k6 := A6.out.1
  subst k6e
  go_wp2_with fail
  refine (same_any o6 _ 1 1 c6 1 [⟨#[97]⟩] [⟨#[97]⟩] _ (A6.out.on ((Bel.refl w6).alloc _)) (lit_sarg w6 [⟨#[97]⟩]) (by decide) (by decide)).mono ?_
  rintro e w7 ⟨⟨b, hb, rfl⟩, g7⟩
  obtain rfl : b = true := hb.2 rfl
  have G7 := Bel.trans (G6.out.alloc _) g7
  clear hb
  go_wp2_with fail
  go_ret
  exact ⟨rfl, G7⟩
end Frm
end Go.Proofs.Ytkecellbbfhpoaa
