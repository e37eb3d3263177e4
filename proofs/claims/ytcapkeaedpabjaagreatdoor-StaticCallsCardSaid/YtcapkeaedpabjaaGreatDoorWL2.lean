/-
  Layer 8, texts merged: StD, SuA, SuB, SuC, StE, SuD. For every argument within the bounds that each theorem names.
-/
import Derived.Test.YtcapkeaedpabjaaGreatDoorWL1
import Derived.Test.YtcapkeaedpabjaaGreatDoorWG4
import Derived.Test.YtcapkeaedpabjaaGreatDoorWF1
import Derived.Maps.OwnSet
import Derived.Maps.OwnOps
import Derived.Test.YtcapkeaedpabjaaGreatDoorWN1

/-
 Layer 9, plainly: what the reference's Check answers; names that are there twice.
-/
namespace Go.Proofs.YtcapkeaedpabjaaGreatDoor
namespace Syn
theorem dup_len : ∀ (l S : List Txt), S.Nodup → (∀ x ∈ S, x ∈ l) → S.length ≤ l.length ∧ (S.length = l.length → l.Nodup)
 | [], S, _, h => by
  cases S with
  | nil => exact ⟨Nat.le_refl _, fun _ => List.nodup_nil⟩
  | cons x S => have := h x (List.mem_cons_self ..); cases this
 | a :: l, S, hn, h => by
  by_cases ha : a ∈ S
  ·have h2 : ∀ x ∈ S.erase a, x ∈ l := fun x hx => by
    rw [hn.mem_erase_iff] at hx
    rcases List.mem_cons.1 (h x hx.2) with q | q
    ·exact absurd q hx.1
    ·exact q
   obtain ⟨k1, k2⟩ := dup_len l (S.erase a) (hn.erase a) h2
   have hl := List.length_erase_of_mem ha
   have hp : 0 < S.length := List.length_pos_of_mem ha
   rw [List.length_cons]
   refine ⟨by omega, fun e => ?_⟩
   rw [List.nodup_cons]
   refine ⟨fun q => ?_, k2 (by omega)⟩
   have := (dup_len l S hn (fun x hx => by
    rcases List.mem_cons.1 (h x hx) with r | r
    ·rw [r]; exact q
    ·exact r)).1
   omega
  ·have := (dup_len l S hn (fun x hx => by
    rcases List.mem_cons.1 (h x hx) with r | r
    ·rw [r] at hx; exact absurd hx ha
    ·exact r)).1
   rw [List.length_cons]
   exact ⟨by omega, fun e => by omega⟩
theorem asc_nodup {l : List Txt} (h : Idn.asc l) : l.Nodup := List.Pairwise.imp (fun {a b} h e => by rw [e] at h; exact Idn.tlt_irrefl b h) h
theorem twice_iff (l : List Txt) : twiceB l = true ↔ ¬ l.Nodup := by
 unfold twiceB
 rw [decide_eq_true_eq]
 have hs := asc_nodup (Idn.srt_asc l)
 obtain ⟨k1, k2⟩ := dup_len l (Idn.srt l) hs (fun x hx => (Idn.srt_mem l x).1 hx)
 constructor
 ·intro h hn
  have := (dup_len (Idn.srt l) l hn (fun x hx => (Idn.srt_mem l x).2 hx)).1
  omega
 ·intro h
  by_cases e : (Idn.srt l).length = l.length
  ·exact absurd (k2 e) h
  ·omega
/-- The reference's walk through a program of good trees. -/
def walkR (F : List Fw) (fs : List Fu) : Wk := allR (wantI F) 0 fs ⟨[], [], 0, List.replicate (sizeF fs) (-1), 0, 0⟩
theorem dup_none {F0 : List Fw} : ∀ (F : List Fw) (i : Nat), dupF F0 i F = none → ∀ f ∈ F, twiceB f.params = false
 | [], _, _ => fun f hf => by cases hf
 | g :: r, i, h => fun f hf => by
  rw [dupF] at h
  split at h
  ·cases h
  ·rename_i hc
   rcases List.mem_cons.1 hf with rfl | hf
   ·cases e : twiceB f.params with
    | false => rfl
    | true => exact absurd (Or.inr (Or.inr e)) hc
   ·exact dup_none r (i + 1) h f hf
theorem params_func : ∀ (fs : List Fu) (b : Nat), (funcF b fs).map (fun f => f.params) = fs.map fun f => f.params
 | [], _ => rfl
 | f :: r, b => by rw [funcF, List.map_cons, List.map_cons, params_func r]
theorem chk_params {L : List Nd} {F : List Fw} (h : chkE L F = 0) : ∀ f ∈ F, f.params.length ≤ 8 := by
 unfold chkE at h
 split at h
 ·cases h
 ·split at h
  ·cases h
  ·split at h
   ·cases h
   ·rename_i h3
    intro f hf
    by_cases q : f.params.length ≤ 8
    ·exact q
    ·exact absurd (Or.inl (List.any_eq_true.2 ⟨f, hf, by rw [decide_eq_true_eq]; omega⟩)) h3
/-- The first error of the walk, and the slots, are those of resolve. -/
theorem walk_res {fs : List Fu} (hg : ∀ f ∈ fs, goodFu f) (hc : chkE (flatF 0 fs) (funcF 0 fs) = 0) (hd : dupF (funcF 0 fs) 0 (funcF 0 fs) = none) (hm : mainE (funcF 0 fs) = none) :
  ((resG (flatF 0 fs) (funcF 0 fs)).er = (walkR (funcF 0 fs) fs).er ∧ (resG (flatF 0 fs) (funcF 0 fs)).pos = (walkR (funcF 0 fs) fs).nd) ∧
  ((resG (flatF 0 fs) (funcF 0 fs)).er = 0 → (resG (flatF 0 fs) (funcF 0 fs)).sl = (walkR (funcF 0 fs) fs).sl ∧ ∀ wz : Wk, wz.er = 0 → (resG (flatF 0 fs) (funcF 0 fs)).lo = nxs (wantI (funcF 0 fs)) wz 0 fs) := by
 have hr : resG (flatF 0 fs) (funcF 0 fs) = runF (flatF 0 fs) (wantI (funcF 0 fs)) (funcF 0 fs) 0 [] [] := by
  unfold resG
  rw [if_neg (by simpa using hc), hd, hm]
 have hps : ∀ f ∈ fs, goodFu f ∧ f.params.Nodup ∧ f.params.length ≤ 32 := fun f hf => by
  have hmem : f.params ∈ (funcF 0 fs).map (fun f => f.params) := by rw [params_func]; exact List.mem_map_of_mem hf
  obtain ⟨g, hg1, hg2⟩ := List.mem_map.1 hmem
  refine ⟨hg f hf, ?_, ?_⟩
  ·have h1 := dup_none _ _ hd g hg1
   rw [hg2] at h1
   by_cases q : f.params.Nodup
   ·exact q
   ·rw [(twice_iff _).2 q] at h1; cases h1
  ·have := chk_params hc g hg1
   rw [hg2] at this
   omega
 have key : ∀ wz : Wk, wz.er = 0 → _ := fun wz hz => all_goes (L := flatF 0 fs) (W := wantI (funcF 0 fs)) (N := sizeF fs) wz hz fs ⟨[], [], 0, List.replicate (sizeF fs) (-1), 0, 0⟩ [] [] [] [] hps rfl (by simp) (by simp) rfl (by simp) (by rw [flatF_len]; exact Nat.le_refl _)
 rw [hr]
 unfold walkR
 refine ⟨?_, fun he => ?_⟩
 ·rcases key ⟨[], [], 0, [], 0, 0⟩ rfl with ⟨D, k1, k2, k3, _⟩ | ⟨i, e, k1, k2, k3, k4⟩
  ·rw [List.length_nil] at k1 k2 k3
   rw [k1, k2, k3]
   exact ⟨rfl, rfl⟩
  ·rw [List.length_nil] at k1 k3 k4
   rw [k1, k3, k4]
   exact ⟨rfl, rfl⟩
 ·refine ⟨?_, fun wz hz => ?_⟩
  ·rcases key ⟨[], [], 0, [], 0, 0⟩ rfl with ⟨D, k1, k2, k3, k4, k5⟩ | ⟨i, e, k1, k2, k3, k4⟩
   ·rw [List.length_nil] at k1 k5
    rw [k1, k5, List.nil_append, k4, Nat.sub_self, List.replicate_zero, List.append_nil]
   ·rw [List.length_nil] at k1
    rw [k1] at he
    exact absurd he k2
  ·rcases key wz hz with ⟨D, k1, _⟩ | ⟨i, e, k1, k2, k3, k4⟩
   ·rw [List.length_nil] at k1
    rw [k1]
    rfl
   ·rw [List.length_nil] at k1
    rw [k1] at he
    exact absurd he k2
end Syn
end Go.Proofs.YtcapkeaedpabjaaGreatDoor

/-
 Layer 9: Builtin and HostOp, as the program and the reference have them.
-/
namespace Go.Proofs.YtcapkeaedpabjaaGreatDoor
open Go.RowKit Go.ChangeShapes Go.WideShapes
namespace Syn
/-- A number and whether it is known. -/
def okN (n : Int) : Value := .tuple #[.int .i64 (if n < 0 then 0 else n), .bool (decide (0 ≤ n))]
set_option maxRecDepth 100000 in
set_option maxHeartbeats 2000000 in
theorem blt_any (s : Txt) (w : World) : Calls Tryz.prog 50 #[.string ⟨s.toArray⟩] w fun e w' => e = .returned (okN (bltI s)) ∧ w' = w := by
 by_cases h0 : s = [108, 101, 110]
 ·subst h0
  rw [show okN (bltI [108, 101, 110]) = .tuple #[.int .i64 1, .bool true] from rfl]
  go_enter Tryz.func50, Tryz.ntmps50
  go_wp2
  go_ret2
  exact ⟨rfl, rfl⟩
 by_cases h1 : s = [115, 116, 114]
 ·subst h1
  rw [show okN (bltI [115, 116, 114]) = .tuple #[.int .i64 1, .bool true] from rfl]
  go_enter Tryz.func50, Tryz.ntmps50
  go_wp2
  go_ret2
  exact ⟨rfl, rfl⟩
 by_cases h2 : s = [105, 110, 116]
 ·subst h2
  rw [show okN (bltI [105, 110, 116]) = .tuple #[.int .i64 1, .bool true] from rfl]
  go_enter Tryz.func50, Tryz.ntmps50
  go_wp2
  go_ret2
  exact ⟨rfl, rfl⟩
 by_cases h3 : s = [107, 101, 121, 115]
 ·subst h3
  rw [show okN (bltI [107, 101, 121, 115]) = .tuple #[.int .i64 1, .bool true] from rfl]
  go_enter Tryz.func50, Tryz.ntmps50
  go_wp2
  go_ret2
  exact ⟨rfl, rfl⟩
 by_cases h4 : s = [102, 97, 105, 108]
 ·subst h4
  rw [show okN (bltI [102, 97, 105, 108]) = .tuple #[.int .i64 1, .bool true] from rfl]
  go_enter Tryz.func50, Tryz.ntmps50
  go_wp2
  go_ret2
  exact ⟨rfl, rfl⟩
 by_cases h5 : s = [112, 117, 115, 104]
 ·subst h5
  rw [show okN (bltI [112, 117, 115, 104]) = .tuple #[.int .i64 2, .bool true] from rfl]
  go_enter Tryz.func50, Tryz.ntmps50
  go_wp2
  go_ret2
  exact ⟨rfl, rfl⟩
 by_cases h6 : s = [104, 97, 115]
 ·subst h6
  rw [show okN (bltI [104, 97, 115]) = .tuple #[.int .i64 2, .bool true] from rfl]
  go_enter Tryz.func50, Tryz.ntmps50
  go_wp2
  go_ret2
  exact ⟨rfl, rfl⟩
 by_cases h7 : s = [112, 117, 116]
 ·subst h7
  rw [show okN (bltI [112, 117, 116]) = .tuple #[.int .i64 3, .bool true] from rfl]
  go_enter Tryz.func50, Tryz.ntmps50
  go_wp2
  go_ret2
  exact ⟨rfl, rfl⟩
 have b0 : (s == [108, 101, 110]) = false := by simpa using h0
 have b1 : (s == [115, 116, 114]) = false := by simpa using h1
 have b2 : (s == [105, 110, 116]) = false := by simpa using h2
 have b3 : (s == [107, 101, 121, 115]) = false := by simpa using h3
 have b4 : (s == [102, 97, 105, 108]) = false := by simpa using h4
 have b5 : (s == [112, 117, 115, 104]) = false := by simpa using h5
 have b6 : (s == [104, 97, 115]) = false := by simpa using h6
 have b7 : (s == [112, 117, 116]) = false := by simpa using h7
 have e : bltI s = -1 := by
  unfold bltI
  simp [h0, h1, h2, h3, h4, h5, h6, h7]
 rw [e, show okN (-1) = .tuple #[.int .i64 0, .bool false] from rfl]
 clear e
 go_enter Tryz.func50, Tryz.ntmps50
 go_wp2
 go_ret2
 exact ⟨rfl, rfl⟩
set_option maxRecDepth 100000 in
set_option maxHeartbeats 2000000 in
theorem rblt_any (s : Txt) (w : World) : Calls Tryz.prog 52 #[.string ⟨s.toArray⟩] w fun e w' => e = .returned (okN (bltI s)) ∧ w' = w := by
 by_cases h0 : s = [108, 101, 110]
 ·subst h0
  rw [show okN (bltI [108, 101, 110]) = .tuple #[.int .i64 1, .bool true] from rfl]
  go_enter Tryz.func52, Tryz.ntmps52
  go_wp2
  go_ret2
  exact ⟨rfl, rfl⟩
 by_cases h1 : s = [115, 116, 114]
 ·subst h1
  rw [show okN (bltI [115, 116, 114]) = .tuple #[.int .i64 1, .bool true] from rfl]
  go_enter Tryz.func52, Tryz.ntmps52
  go_wp2
  go_ret2
  exact ⟨rfl, rfl⟩
 by_cases h2 : s = [105, 110, 116]
 ·subst h2
  rw [show okN (bltI [105, 110, 116]) = .tuple #[.int .i64 1, .bool true] from rfl]
  go_enter Tryz.func52, Tryz.ntmps52
  go_wp2
  go_ret2
  exact ⟨rfl, rfl⟩
 by_cases h3 : s = [107, 101, 121, 115]
 ·subst h3
  rw [show okN (bltI [107, 101, 121, 115]) = .tuple #[.int .i64 1, .bool true] from rfl]
  go_enter Tryz.func52, Tryz.ntmps52
  go_wp2
  go_ret2
  exact ⟨rfl, rfl⟩
 by_cases h4 : s = [102, 97, 105, 108]
 ·subst h4
  rw [show okN (bltI [102, 97, 105, 108]) = .tuple #[.int .i64 1, .bool true] from rfl]
  go_enter Tryz.func52, Tryz.ntmps52
  go_wp2
  go_ret2
  exact ⟨rfl, rfl⟩
 by_cases h5 : s = [112, 117, 115, 104]
 ·subst h5
  rw [show okN (bltI [112, 117, 115, 104]) = .tuple #[.int .i64 2, .bool true] from rfl]
  go_enter Tryz.func52, Tryz.ntmps52
  go_wp2
  go_ret2
  exact ⟨rfl, rfl⟩
 by_cases h6 : s = [104, 97, 115]
 ·subst h6
  rw [show okN (bltI [104, 97, 115]) = .tuple #[.int .i64 2, .bool true] from rfl]
  go_enter Tryz.func52, Tryz.ntmps52
  go_wp2
  go_ret2
  exact ⟨rfl, rfl⟩
 by_cases h7 : s = [112, 117, 116]
 ·subst h7
  rw [show okN (bltI [112, 117, 116]) = .tuple #[.int .i64 3, .bool true] from rfl]
  go_enter Tryz.func52, Tryz.ntmps52
  go_wp2
  go_ret2
  exact ⟨rfl, rfl⟩
 have b0 : (s == [108, 101, 110]) = false := by simpa using h0
 have b1 : (s == [115, 116, 114]) = false := by simpa using h1
 have b2 : (s == [105, 110, 116]) = false := by simpa using h2
 have b3 : (s == [107, 101, 121, 115]) = false := by simpa using h3
 have b4 : (s == [102, 97, 105, 108]) = false := by simpa using h4
 have b5 : (s == [112, 117, 115, 104]) = false := by simpa using h5
 have b6 : (s == [104, 97, 115]) = false := by simpa using h6
 have b7 : (s == [112, 117, 116]) = false := by simpa using h7
 have e : bltI s = -1 := by
  unfold bltI
  simp [h0, h1, h2, h3, h4, h5, h6, h7]
 rw [e, show okN (-1) = .tuple #[.int .i64 0, .bool false] from rfl]
 clear e
 go_enter Tryz.func52, Tryz.ntmps52
 go_wp2
 go_ret2
 exact ⟨rfl, rfl⟩
set_option maxRecDepth 100000 in
set_option maxHeartbeats 2000000 in
theorem hst_any (s : Txt) (w : World) : Calls Tryz.prog 210 #[.string ⟨s.toArray⟩] w fun e w' => e = .returned (okN (hstI s)) ∧ w' = w := by
 by_cases h0 : s = [110, 111, 119]
 ·subst h0
  rw [show okN (hstI [110, 111, 119]) = .tuple #[.int .i64 0, .bool true] from rfl]
  go_enter Tryz.func210, Tryz.ntmps210
  go_wp2
  go_ret2
  exact ⟨rfl, rfl⟩
 by_cases h1 : s = [103, 101, 116]
 ·subst h1
  rw [show okN (hstI [103, 101, 116]) = .tuple #[.int .i64 1, .bool true] from rfl]
  go_enter Tryz.func210, Tryz.ntmps210
  go_wp2
  go_ret2
  exact ⟨rfl, rfl⟩
 by_cases h2 : s = [100, 101, 108, 101, 116, 101]
 ·subst h2
  rw [show okN (hstI [100, 101, 108, 101, 116, 101]) = .tuple #[.int .i64 1, .bool true] from rfl]
  go_enter Tryz.func210, Tryz.ntmps210
  go_wp2
  go_ret2
  exact ⟨rfl, rfl⟩
 by_cases h3 : s = [115, 101, 99, 114, 101, 116]
 ·subst h3
  rw [show okN (hstI [115, 101, 99, 114, 101, 116]) = .tuple #[.int .i64 1, .bool true] from rfl]
  go_enter Tryz.func210, Tryz.ntmps210
  go_wp2
  go_ret2
  exact ⟨rfl, rfl⟩
 by_cases h4 : s = [108, 111, 103]
 ·subst h4
  rw [show okN (hstI [108, 111, 103]) = .tuple #[.int .i64 1, .bool true] from rfl]
  go_enter Tryz.func210, Tryz.ntmps210
  go_wp2
  go_ret2
  exact ⟨rfl, rfl⟩
 by_cases h5 : s = [112, 117, 116]
 ·subst h5
  rw [show okN (hstI [112, 117, 116]) = .tuple #[.int .i64 2, .bool true] from rfl]
  go_enter Tryz.func210, Tryz.ntmps210
  go_wp2
  go_ret2
  exact ⟨rfl, rfl⟩
 by_cases h6 : s = [115, 101, 110, 100]
 ·subst h6
  rw [show okN (hstI [115, 101, 110, 100]) = .tuple #[.int .i64 2, .bool true] from rfl]
  go_enter Tryz.func210, Tryz.ntmps210
  go_wp2
  go_ret2
  exact ⟨rfl, rfl⟩
 by_cases h7 : s = [115, 105, 103, 110, 97, 108]
 ·subst h7
  rw [show okN (hstI [115, 105, 103, 110, 97, 108]) = .tuple #[.int .i64 2, .bool true] from rfl]
  go_enter Tryz.func210, Tryz.ntmps210
  go_wp2
  go_ret2
  exact ⟨rfl, rfl⟩
 by_cases h8 : s = [102, 101, 116, 99, 104]
 ·subst h8
  rw [show okN (hstI [102, 101, 116, 99, 104]) = .tuple #[.int .i64 2, .bool true] from rfl]
  go_enter Tryz.func210, Tryz.ntmps210
  go_wp2
  go_ret2
  exact ⟨rfl, rfl⟩
 by_cases h9 : s = [116, 105, 109, 101, 114]
 ·subst h9
  rw [show okN (hstI [116, 105, 109, 101, 114]) = .tuple #[.int .i64 3, .bool true] from rfl]
  go_enter Tryz.func210, Tryz.ntmps210
  go_wp2
  go_ret2
  exact ⟨rfl, rfl⟩
 have b0 : (s == [110, 111, 119]) = false := by simpa using h0
 have b1 : (s == [103, 101, 116]) = false := by simpa using h1
 have b2 : (s == [100, 101, 108, 101, 116, 101]) = false := by simpa using h2
 have b3 : (s == [115, 101, 99, 114, 101, 116]) = false := by simpa using h3
 have b4 : (s == [108, 111, 103]) = false := by simpa using h4
 have b5 : (s == [112, 117, 116]) = false := by simpa using h5
 have b6 : (s == [115, 101, 110, 100]) = false := by simpa using h6
 have b7 : (s == [115, 105, 103, 110, 97, 108]) = false := by simpa using h7
 have b8 : (s == [102, 101, 116, 99, 104]) = false := by simpa using h8
 have b9 : (s == [116, 105, 109, 101, 114]) = false := by simpa using h9
 have e : hstI s = -1 := by
  unfold hstI
  simp [h0, h1, h2, h3, h4, h5, h6, h7, h8, h9]
 rw [e, show okN (-1) = .tuple #[.int .i64 0, .bool false] from rfl]
 clear e
 go_enter Tryz.func210, Tryz.ntmps210
 go_wp2
 go_ret2
 exact ⟨rfl, rfl⟩
set_option maxRecDepth 100000 in
set_option maxHeartbeats 2000000 in
theorem rhst_any (s : Txt) (w : World) : Calls Tryz.prog 212 #[.string ⟨s.toArray⟩] w fun e w' => e = .returned (okN (hstI s)) ∧ w' = w := by
 by_cases h0 : s = [110, 111, 119]
 ·subst h0
  rw [show okN (hstI [110, 111, 119]) = .tuple #[.int .i64 0, .bool true] from rfl]
  go_enter Tryz.func212, Tryz.ntmps212
  go_wp2
  go_ret2
  exact ⟨rfl, rfl⟩
 by_cases h1 : s = [103, 101, 116]
 ·subst h1
  rw [show okN (hstI [103, 101, 116]) = .tuple #[.int .i64 1, .bool true] from rfl]
  go_enter Tryz.func212, Tryz.ntmps212
  go_wp2
  go_ret2
  exact ⟨rfl, rfl⟩
 by_cases h2 : s = [100, 101, 108, 101, 116, 101]
 ·subst h2
  rw [show okN (hstI [100, 101, 108, 101, 116, 101]) = .tuple #[.int .i64 1, .bool true] from rfl]
  go_enter Tryz.func212, Tryz.ntmps212
  go_wp2
  go_ret2
  exact ⟨rfl, rfl⟩
 by_cases h3 : s = [115, 101, 99, 114, 101, 116]
 ·subst h3
  rw [show okN (hstI [115, 101, 99, 114, 101, 116]) = .tuple #[.int .i64 1, .bool true] from rfl]
  go_enter Tryz.func212, Tryz.ntmps212
  go_wp2
  go_ret2
  exact ⟨rfl, rfl⟩
 by_cases h4 : s = [108, 111, 103]
 ·subst h4
  rw [show okN (hstI [108, 111, 103]) = .tuple #[.int .i64 1, .bool true] from rfl]
  go_enter Tryz.func212, Tryz.ntmps212
  go_wp2
  go_ret2
  exact ⟨rfl, rfl⟩
 by_cases h5 : s = [112, 117, 116]
 ·subst h5
  rw [show okN (hstI [112, 117, 116]) = .tuple #[.int .i64 2, .bool true] from rfl]
  go_enter Tryz.func212, Tryz.ntmps212
  go_wp2
  go_ret2
  exact ⟨rfl, rfl⟩
 by_cases h6 : s = [115, 101, 110, 100]
 ·subst h6
  rw [show okN (hstI [115, 101, 110, 100]) = .tuple #[.int .i64 2, .bool true] from rfl]
  go_enter Tryz.func212, Tryz.ntmps212
  go_wp2
  go_ret2
  exact ⟨rfl, rfl⟩
 by_cases h7 : s = [115, 105, 103, 110, 97, 108]
 ·subst h7
  rw [show okN (hstI [115, 105, 103, 110, 97, 108]) = .tuple #[.int .i64 2, .bool true] from rfl]
  go_enter Tryz.func212, Tryz.ntmps212
  go_wp2
  go_ret2
  exact ⟨rfl, rfl⟩
 by_cases h8 : s = [102, 101, 116, 99, 104]
 ·subst h8
  rw [show okN (hstI [102, 101, 116, 99, 104]) = .tuple #[.int .i64 2, .bool true] from rfl]
  go_enter Tryz.func212, Tryz.ntmps212
  go_wp2
  go_ret2
  exact ⟨rfl, rfl⟩
 by_cases h9 : s = [116, 105, 109, 101, 114]
 ·subst h9
  rw [show okN (hstI [116, 105, 109, 101, 114]) = .tuple #[.int .i64 3, .bool true] from rfl]
  go_enter Tryz.func212, Tryz.ntmps212
  go_wp2
  go_ret2
  exact ⟨rfl, rfl⟩
 have b0 : (s == [110, 111, 119]) = false := by simpa using h0
 have b1 : (s == [103, 101, 116]) = false := by simpa using h1
 have b2 : (s == [100, 101, 108, 101, 116, 101]) = false := by simpa using h2
 have b3 : (s == [115, 101, 99, 114, 101, 116]) = false := by simpa using h3
 have b4 : (s == [108, 111, 103]) = false := by simpa using h4
 have b5 : (s == [112, 117, 116]) = false := by simpa using h5
 have b6 : (s == [115, 101, 110, 100]) = false := by simpa using h6
 have b7 : (s == [115, 105, 103, 110, 97, 108]) = false := by simpa using h7
 have b8 : (s == [102, 101, 116, 99, 104]) = false := by simpa using h8
 have b9 : (s == [116, 105, 109, 101, 114]) = false := by simpa using h9
 have e : hstI s = -1 := by
  unfold hstI
  simp [h0, h1, h2, h3, h4, h5, h6, h7, h8, h9]
 rw [e, show okN (-1) = .tuple #[.int .i64 0, .bool false] from rfl]
 clear e
 go_enter Tryz.func212, Tryz.ntmps212
 go_wp2
 go_ret2
 exact ⟨rfl, rfl⟩
end Syn
end Go.Proofs.YtcapkeaedpabjaaGreatDoor

/-
 Layer 9: the scope of a function: a map behind a pointer; add, find, declare.
-/
namespace Go.Proofs.YtcapkeaedpabjaaGreatDoor
open Go.RowKit Go.ChangeShapes Go.WideShapes Go.Maps
namespace Syn
theorem alloc_szs (w : World) (o : Obj) : (w.alloc o).heap.size = w.heap.size + 1 := by show (w.heap.push o).size = _; simp
theorem mlaw : Keyed Tryz.prog 9 := string_keyed Tryz.underlying9
theorem mzero (w : World) : (zeroValue 3).run Tryz.prog w = .ok (.int .i64 0) w := by kernel_rfl
theorem mkey (s : Txt) (h : s.length ≤ 140737488355328) : keyOf Tryz.prog 9 (.string ⟨s.toArray⟩) = some (.string s) := Go.WideMaps.keyOf_string_mk Tryz.underlying9 (show s.toArray.size ≤ maxLen by unfold maxLen; simp; omega)
/-- What the map holds is what is visible. -/
def View (D : DataW Unit) (s : Sc) : Prop := ∀ nm : Txt, Maps.has D (.string nm) = (s.vis nm).isSome ∧ ∀ n, s.vis nm = some n → D.atKey (.string nm) (.lit (.int .i64 0)) = .lit (.int .i64 (n : Int))
theorem View.empty : View (.map []) ⟨fun _ => none, 0⟩ := fun nm => ⟨rfl, fun n h => by cases h⟩
theorem lit_ne {a b : Txt} (h : a ≠ b) : Lit.string a ≠ Lit.string b := fun e => h (by cases e; rfl)
theorem View.add {D : DataW Unit} {s : Sc} (h : View D s) (hi : IsMap D) (nm : Txt) : View (D.put (.string nm) (.lit (.int .i64 (s.cnt : Int)))) (s.add nm) := fun x => by
 unfold Sc.add
 simp only
 by_cases e : x = nm
 ·rw [if_pos e, e]
  exact ⟨has_put_same hi (show WideAt.IsKeyLit (.string nm) from trivial) _, fun n q => by
   obtain rfl := Option.some.inj q
   exact atKey_put_same hi (show WideAt.IsKeyLit (.string nm) from trivial) _ _⟩
 ·rw [if_neg e, has_put_other (lit_ne e), atKey_put_other (lit_ne e)]
  exact h x
theorem View.del {D : DataW Unit} {s : Sc} (h : View D s) (nm : Txt) : View (D.del (.string nm)) (s.del nm) := fun x => by
 unfold Sc.del
 simp only
 by_cases e : x = nm
 ·rw [if_pos e, e]
  exact ⟨has_del_same, fun n q => by cases q⟩
 ·rw [if_neg e, has_del_other (lit_ne e), atKey_del_other (lit_ne e)]
  exact h x
/-- A scope in memory: its struct, its map. -/
structure ScAt (w : World) (sb mb : Nat) (s : Sc) : Prop where
 c0 : w.cell? ⟨sb, 0, none⟩ = some (.map (some mb))
 c1 : w.cell? ⟨sb, 1, none⟩ = some (.int .i64 (s.cnt : Int))
 f1 : w.frozen? ⟨sb, 1, none⟩ = false
 ne : mb ≠ sb
 map : ∃ D : DataW Unit, w.ownsMap Tryz.prog 9 (plainElem Tryz.prog 3) mb s.cnt D ∧ View D s
/-- The blocks of a scope. -/
def Of (sb mb : Nat) (b : Nat) : Prop := b = sb ∨ b = mb
theorem turn_mod {w w' : World} {mb : Nat} (h : w.mapTurned w' mb) : Mod (fun b => b = mb) w w' := Mod.grown h.grown (fun i e => by cases e; rfl)
theorem mod_froz {F : Nat → Prop} {w w' : World} (h : Mod F w w') {p : Addr} {v : Value} (hc : w.cell? p = some v) (hp : ¬ F p.block) : w'.frozen? p = w.frozen? p := by
 have hb := h.block p.block (World.block_lt_of_cell? w p hc) hp
 unfold World.frozen?
 rw [hb]
theorem ScAt.on {w w' : World} {sb mb : Nat} {s : Sc} {F : Nat → Prop} (h : ScAt w sb mb s) (g : Mod F w w') (h1 : ¬ F sb) (h2 : ¬ F mb) : ScAt w' sb mb s := by
 obtain ⟨D, hD, hv⟩ := h.map
 refine ⟨g.cell h.c0 h1, g.cell h.c1 h1, (mod_froz g h.c1 h1).trans h.f1, h.ne, D, ?_, hv⟩
 have hb := g.block mb hD.lt h2
 unfold World.ownsMap at hD ⊢
 rw [hb]
 exact hD
set_option maxRecDepth 100000 in
set_option maxHeartbeats 2000000 in
theorem scadd_any (sb mb : Nat) (s : Sc) (nm : Txt) (hn : nm.length ≤ 140737488355328) (hc : s.cnt ≤ 100000) (w : World) (hA : ScAt w sb mb s) :
  Calls Tryz.prog 205 #[.pointer (some ⟨sb, 0, none⟩), .string ⟨nm.toArray⟩] w fun e w' => e = .returned (.int .i64 (s.cnt : Int)) ∧ ScAt w' sb mb (s.add nm) ∧ Mod (Of sb mb) w w' := by
 obtain ⟨c0, c1, f1, hne, D, hown, hv⟩ := hA
 have hkey := mkey nm hn
 have hv2 := Lib.hid (hv.add hown.isMap nm)
 have hwf : (Lit.int .i64 (s.cnt : Int)).wf = true := WalkArith.wf_i64 (by omega)
 have hml : s.cnt < maxLen := by unfold maxLen; omega
 have hcc := Lib.hid hc
 clear hv hc
 go_enter Tryz.func205, Tryz.ntmps205
 go_wp2_with (first | (at_mapUpdate; refine wpList_mapUpdate_in _ rfl _ _ _ 161 rfl 9 3 mlaw Tryz.underlying161 _ mb s.cnt D rfl hown hml _ _ _ rfl rfl hkey _ [] (plainElem_int Tryz.underlying3 hwf) ?_; intro w1 hown1 hturn1; have d0 := (turn_mod hturn1).cell c0 hne.symm; have d1 := (turn_mod hturn1).cell c1 hne.symm; have g1 := (hturn1.frozen ⟨sb, 1, none⟩).trans f1))
 go_ret
 refine ⟨rfl, ⟨?_, ?_, ?_, hne, _, hown1.setCell hne _, hv2.out⟩, ?_⟩
 ·refine (World.cell?_setCell_other _ _ _ _ ?_).trans d0
  simp
 ·refine (World.cell?_setCell_same _ _ _ d1).trans ?_
  rw [show wrap64 ((s.cnt : Int) + 1) = (s.cnt : Int) + 1 by have := hcc.out; unfold wrap64; omega]
  rfl
 ·rw [World.frozen?_setCell]; exact g1
 ·exact Mod.setCell (F := Of sb mb) ((turn_mod hturn1).weak (fun i e => Or.inr e)) (p := ⟨sb, 1, none⟩) (Or.inl (Or.inl rfl)) _
/-- What find answers. -/
def findX (o : Option Nat) : Int := match o with | some _ => 0 | none => 4
def findE (o : Option Nat) : Value := .tuple #[.int .i64 (outI o), .int .i64 (findX o)]
set_option maxRecDepth 100000 in
set_option maxHeartbeats 2000000 in
theorem find_any2 (sb mb : Nat) (s : Sc) (nm : Txt) (hn : nm.length ≤ 140737488355328) (w : World) (hA : ScAt w sb mb s) :
  Calls Tryz.prog 206 #[.pointer (some ⟨sb, 0, none⟩), .string ⟨nm.toArray⟩] w fun e w' => e = .returned (findE (s.vis nm)) ∧ w' = w := by
 obtain ⟨c0, c1, f1, hne, D, hown, hv⟩ := hA
 have hkey := mkey nm hn
 obtain ⟨h1, h2⟩ := hv nm
 cases ho : s.vis nm with
 | none =>
  rw [ho] at h1
  have hh : Maps.has D (.string nm) = false := h1
  clear h1 h2 hv
  go_enter Tryz.func206, Tryz.ntmps206
  go_wp2_with (first | (at_lookup; refine wpList_lookup_own_ok_int _ rfl _ _ 161 rfl 9 3 .i64 mlaw Tryz.underlying161 Tryz.underlying3 (mzero _) mb s.cnt D rfl hown _ _ rfl hkey ?_; intro c hat hwc; rw [hh]))
  go_ret2
  exact ⟨rfl, rfl⟩
 | some n =>
  rw [ho] at h1
  have hh : Maps.has D (.string nm) = true := h1
  have hd := h2 n ho
  clear h1 h2 hv
  go_enter Tryz.func206, Tryz.ntmps206
  go_wp2_with (first | (at_lookup; refine wpList_lookup_own_ok_int _ rfl _ _ 161 rfl 9 3 .i64 mlaw Tryz.underlying161 Tryz.underlying3 (mzero _) mb s.cnt D rfl hown _ _ rfl hkey ?_; intro c hat hwc; rw [hh]; rw [hd] at hat; cases hat))
  go_ret2
  exact ⟨rfl, rfl⟩
/-- What declare answers, and what is visible then. -/
def declE (s : Sc) (nm : Txt) : Int × Int := match s.vis nm with | some _ => (-1, 6) | none => if s.cnt = 32 then (-1, 3) else ((s.cnt : Int), 0)
def declS (s : Sc) (nm : Txt) : Sc := match s.vis nm with | some _ => s | none => if s.cnt = 32 then s else s.add nm
set_option maxRecDepth 100000 in
set_option maxHeartbeats 2000000 in
theorem declare_any (sb mb : Nat) (s : Sc) (nm : Txt) (hn : nm.length ≤ 140737488355328) (hc : s.cnt ≤ 100000) (w : World) (hA : ScAt w sb mb s) :
  Calls Tryz.prog 207 #[.pointer (some ⟨sb, 0, none⟩), .string ⟨nm.toArray⟩] w fun e w' => e = .returned (.tuple #[.int .i64 (declE s nm).1, .int .i64 (declE s nm).2]) ∧ ScAt w' sb mb (declS s nm) ∧ Mod (Of sb mb) w w' := by
 have HAd := Lib.hid (scadd_any sb mb s nm hn hc w hA)
 have HA := Lib.hid hA
 obtain ⟨c0, c1, f1, hne, D, hown, hv⟩ := hA
 have hkey := mkey nm hn
 obtain ⟨h1, h2⟩ := hv nm
 unfold declE declS
 cases ho : s.vis nm with
 | some n =>
  rw [ho] at h1
  have hh : Maps.has D (.string nm) = true := h1
  clear h1 h2 hv HAd
  go_enter Tryz.func207, Tryz.ntmps207
  go_wp2_with (first | (at_lookup; refine wpList_lookup_own_ok_int _ rfl _ _ 161 rfl 9 3 .i64 mlaw Tryz.underlying161 Tryz.underlying3 (mzero _) mb s.cnt D rfl hown _ _ rfl hkey ?_; intro c hat hwc; rw [hh]))
  go_ret2
  exact ⟨rfl, HA.out, Mod.refl _ _⟩
 | none =>
  rw [ho] at h1
  have hh : Maps.has D (.string nm) = false := h1
  clear h1 h2 hv
  by_cases h32 : s.cnt = 32
  ·simp only [if_pos h32]
   rw [h32] at c1
   clear HAd
   go_enter Tryz.func207, Tryz.ntmps207
   go_wp2_with (first | (at_lookup; refine wpList_lookup_own_ok_int _ rfl _ _ 161 rfl 9 3 .i64 mlaw Tryz.underlying161 Tryz.underlying3 (mzero _) mb s.cnt D rfl hown _ _ rfl hkey ?_; intro c hat hwc; rw [hh]))
   go_ret2
   exact ⟨rfl, HA.out, Mod.refl _ _⟩
  ·simp only [if_neg h32]
   have hne32 : ((s.cnt : Int) == 32) = false := by simp; omega
   go_enter Tryz.func207, Tryz.ntmps207
   go_wp2_with (first | (at_lookup; refine wpList_lookup_own_ok_int _ rfl _ _ 161 rfl 9 3 .i64 mlaw Tryz.underlying161 Tryz.underlying3 (mzero _) mb s.cnt D rfl hown _ _ rfl hkey ?_; intro c hat hwc; rw [hh]))
   refine HAd.out.mono ?_
   rintro e w2 ⟨rfl, k1, k2⟩
   go_wp2_with fail
   go_ret2
   exact ⟨rfl, k1, k2⟩
end Syn
end Go.Proofs.YtcapkeaedpabjaaGreatDoor

/-
 Layer 9: a new scope; leaving a block.
-/
namespace Go.Proofs.YtcapkeaedpabjaaGreatDoor
open Go.RowKit Go.ChangeShapes Go.WideShapes Go.Maps
namespace Syn
theorem sc0_take {ps : List Txt} {j : Nat} (h : j < ps.length) : sc0 (ps.take (j + 1)) = (sc0 (ps.take j)).add ps[j] := by
 unfold sc0
 rw [List.take_succ_eq_append_getElem h, List.foldl_append]
 rfl
set_option maxRecDepth 100000 in
set_option maxHeartbeats 4000000 in
theorem newScope_any (po : Option Addr) (k pc : Nat) (ps : List Txt) (hk : k ≤ 1000) (hs : ∀ p ∈ ps, p.length ≤ 140737488355328) (w : World) (hA : KArg w po k ps) :
  Calls Tryz.prog 155 #[.slice po k pc] w fun e w' => ∃ sb mb, e = .returned (.pointer (some ⟨sb, 0, none⟩)) ∧ ScAt w' sb mb (sc0 ps) ∧ Bel w w' ∧ w.heap.size ≤ sb ∧ w.heap.size ≤ mb := by
 have hmm := @run_makeMap Tryz.prog
 have hkl := karg_at hA
 obtain ⟨V, hV⟩ : ∃ V, (w.alloc (.map #[] 0)).alloc (.cells #[.map (some w.heap.size), .int .i64 0] 163) = V := ⟨_, rfl⟩
 have BV : Bel w V := by rw [← hV]; exact Bel.alloc (Bel.alloc (Bel.refl w) _) _
 have hz : (w.alloc (.map #[] 0)).heap.size = w.heap.size + 1 := alloc_szs _ _
 have hSc : ScAt V (w.heap.size + 1) w.heap.size (sc0 []) := by
  rw [← hV, ← hz]
  refine ⟨World.cell?_alloc_new .., World.cell?_alloc_new .., World.frozen?_alloc_new .., by omega, .map [], (World.ownsMap_made _ _ _ _).alloc _, View.empty⟩
 have HS := Lib.hid hSc
 have HB := Lib.hid BV
 have HV := Lib.hid hV
 have Hs := Lib.hid hs
 have Hk := Lib.hid hkl
 clear hSc BV hV hs hkl hz hA
 go_enter Tryz.func155, Tryz.ntmps155
 go_wp2_with fail
 go_loopw [11] (fun iv wr => ∃ j : Nat, iv = .int .i64 (j : Int) ∧ j ≤ k ∧ Hid (ScAt wr (w.heap.size + 1) w.heap.size (sc0 (ps.take j))) ∧ Hid (Bel w wr)) (fun iv _ => k - (intOf iv).toNat)
 case atStart => exact ⟨0, rfl, Nat.zero_le _, Lib.hid (by rw [HV.out]; exact HS.out), Lib.hid (by rw [HV.out]; exact HB.out)⟩
 case round =>
  obtain ⟨j, rfl, hj, HSc, HBr⟩ := hrel
  rename World => wr
  rcases Nat.lt_or_ge j k with hjk | hjk
  ·have hjl : j < ps.length := by rw [Hk.out.1]; exact hjk
   obtain ⟨b, off, rfl, hc⟩ := Hk.out.2 (by omega)
   have c0 := HBr.out.cell' (hc j hjl)
   have HA := Lib.hid (scadd_any (w.heap.size + 1) w.heap.size _ ps[j] (Hs.out _ (List.getElem_mem hjl)) (by rw [sc0_cnt, List.length_take]; omega) wr HSc.out)
   have Hst := Lib.hid (sc0_take hjl)
   have hjk' : (j : Int) < (k : Int) := by omega
   generalize ps[j] = p at *
   clear hc
   go_wp2_with fail
   refine HA.out.mono ?_
   rintro e w2 ⟨rfl, k1, k2⟩
   have B2 := Lib.hid (Mod.bel_of HBr.out k2 (fun i h => by rcases h with h | h <;> omega))
   have S2 := Lib.hid (show ScAt w2 _ _ (sc0 (ps.take (j + 1))) by rw [Hst.out]; exact k1)
   clear k1 k2
   go_wp2_with fail
   go_round
   case rel => exact ⟨j + 1, by go_num, by omega, S2, B2⟩
   case measure => simp [intOf]; omega
  ·obtain rfl : j = k := by omega
   have S2 := Lib.hid (show ScAt wr _ _ (sc0 ps) by have := HSc.out; rw [List.take_of_length_le (by rw [Hk.out.1]; exact Nat.le_refl _)] at this; exact this)
   go_wp2_with fail
   go_ret
   exact ⟨_, _, rfl, S2.out, HBr.out, by omega, Nat.le_refl _⟩
end Syn
end Go.Proofs.YtcapkeaedpabjaaGreatDoor

/-
 Layer 9, plainly: calls and reached functions, the reference's.
-/
namespace Go.Proofs.YtcapkeaedpabjaaGreatDoor
namespace Syn
theorem asc_ext : ∀ {l m : List Int}, l.Pairwise (· < ·) → m.Pairwise (· < ·) → (∀ x, x ∈ l ↔ x ∈ m) → l = m
 | [], [], _, _, _ => rfl
 | [], y :: m, _, _, h => by have := (h y).2 (List.mem_cons_self ..); cases this
 | x :: l, [], _, _, h => by have := (h x).1 (List.mem_cons_self ..); cases this
 | x :: l, y :: m, hl, hm, h => by
  rw [List.pairwise_cons] at hl hm
  have hxy : x = y := by
   rcases List.mem_cons.1 ((h x).1 (List.mem_cons_self ..)) with q | q
   ·exact q
   ·have h1 := hm.1 x q
    rcases List.mem_cons.1 ((h y).2 (List.mem_cons_self ..)) with r | r
    ·exact r.symm
    ·have h2 := hl.1 y r
     omega
  subst hxy
  rw [asc_ext hl.2 hm.2 (fun z => by
   have hz := h z
   rw [List.mem_cons, List.mem_cons] at hz
   constructor
   ·intro q
    rcases hz.1 (Or.inr q) with r | r
    ·have := hl.1 z q; omega
    ·exact r
   ·intro q
    rcases hz.2 (Or.inr q) with r | r
    ·have := hm.1 z q; omega
    ·exact r)]
/-- The node at which a function begins. -/
def lowOf (F : List Fw) (f : Nat) : Nat := match f with
 | 0 => 0
 | q + 1 => match F[q]? with | some x => x.body.toNat + 1 | none => 0
/-- The numbers below n that have a property, ascending. -/
def upto (p : Nat → Bool) : Nat → List Int
 | 0 => []
 | n + 1 => upto p n ++ (if p n = true then [(n : Int)] else [])
theorem upto_mem (p : Nat → Bool) : ∀ (n : Nat) (x : Int), x ∈ upto p n ↔ ∃ k : Nat, k < n ∧ x = (k : Int) ∧ p k = true
 | 0, x => ⟨fun h => (by cases h), fun ⟨k, h, _⟩ => (by omega)⟩
 | n + 1, x => by
  rw [upto, List.mem_append, upto_mem p n]
  constructor
  ·rintro (⟨k, h1, h2, h3⟩ | h)
   ·exact ⟨k, by omega, h2, h3⟩
   ·split at h
    ·rename_i hp
     exact ⟨n, by omega, List.mem_singleton.1 h, hp⟩
    ·cases h
  ·rintro ⟨k, h1, h2, h3⟩
   by_cases hk : k = n
   ·right
    rw [← hk, if_pos h3, h2]
    exact List.mem_singleton.2 rfl
   ·exact Or.inl ⟨k, by omega, h2, h3⟩
theorem upto_asc (p : Nat → Bool) : ∀ n : Nat, (upto p n).Pairwise (· < ·)
 | 0 => List.Pairwise.nil
 | n + 1 => by
  rw [upto, List.pairwise_append]
  refine ⟨upto_asc p n, by split <;> simp, fun a ha b hb => ?_⟩
  obtain ⟨k, h1, h2, _⟩ := (upto_mem p n a).1 ha
  split at hb
  ·rw [List.mem_singleton.1 hb]; omega
  ·cases hb
/-- One round of the reference's search: each function that is seen shows those that it calls. -/
def seeL (s : List Bool) (l : List Int) : List Bool := l.foldl (fun s x => s.set x.toNat true) s
def roundR (C : Nat → List Int) : Nat → Nat → List Bool → List Bool
 | _, 0, s => s
 | f, u + 1, s => roundR C (f + 1) u (if s[f]? = some true then seeL s (C f) else s)
def roundsR (C : Nat → List Int) (k : Nat) : Nat → List Bool → List Bool
 | 0, s => s
 | u + 1, s => roundsR C k u (roundR C 0 k s)
/-- What is seen. -/
def Seen (s : List Bool) (f : Nat) : Prop := s[f]? = some true
theorem seeL_len : ∀ (l : List Int) (s : List Bool), (seeL s l).length = s.length
 | [], s => rfl
 | x :: l, s => by
  unfold seeL
  rw [List.foldl_cons]
  have := seeL_len l (s.set x.toNat true)
  unfold seeL at this
  rw [this, List.length_set]
theorem seeL_seen : ∀ (l : List Int) (s : List Bool) (f : Nat), (∀ x ∈ l, x.toNat < s.length) → (Seen (seeL s l) f ↔ Seen s f ∨ ∃ x ∈ l, x.toNat = f)
 | [], s, f, _ => ⟨Or.inl, fun h => h.resolve_right (fun ⟨x, hx, _⟩ => by cases hx)⟩
 | x :: l, s, f, h => by
  have e : seeL s (x :: l) = seeL (s.set x.toNat true) l := rfl
  rw [e, seeL_seen l _ f (fun y hy => by rw [List.length_set]; exact h y (List.mem_cons_of_mem _ hy))]
  have hx := h x (List.mem_cons_self ..)
  have hs : Seen (s.set x.toNat true) f ↔ Seen s f ∨ x.toNat = f := by
   unfold Seen
   rw [List.getElem?_set]
   by_cases q : x.toNat = f
   ·rw [if_pos q, if_pos hx]; simp [q]
   ·rw [if_neg q]; simp [q]
  rw [hs]
  constructor
  ·rintro ((h1 | h1) | ⟨y, hy, h1⟩)
   ·exact Or.inl h1
   ·exact Or.inr ⟨x, List.mem_cons_self .., h1⟩
   ·exact Or.inr ⟨y, List.mem_cons_of_mem _ hy, h1⟩
  ·rintro (h1 | ⟨y, hy, h1⟩)
   ·exact Or.inl (Or.inl h1)
   ·rcases List.mem_cons.1 hy with rfl | hy
    ·exact Or.inl (Or.inr h1)
    ·exact Or.inr ⟨y, hy, h1⟩
theorem roundR_len (C : Nat → List Int) : ∀ (u f : Nat) (s : List Bool), (roundR C f u s).length = s.length
 | 0, f, s => rfl
 | u + 1, f, s => by
  rw [roundR, roundR_len C u]
  split
  ·exact seeL_len _ _
  ·rfl
/-- A round keeps what is seen, shows what is called by it, and only such. -/
theorem roundR_is {C : Nat → List Int} {n : Nat} (hC : ∀ f, ∀ x ∈ C f, 0 ≤ x ∧ x < (n : Int)) {P : Nat → Prop} (hP : ∀ f, P f → ∀ x ∈ C f, P x.toNat) : ∀ (u f : Nat) (s : List Bool), s.length = n → (∀ g, Seen s g → P g) →
  (∀ g, Seen s g → Seen (roundR C f u s) g) ∧ (∀ g, Seen (roundR C f u s) g → P g) ∧ (∀ g, f ≤ g → g < f + u → Seen s g → ∀ x ∈ C g, Seen (roundR C f u s) x.toNat)
 | 0, f, s, _, h => ⟨fun g h => h, h, fun g a b => by omega⟩
 | u + 1, f, s, hs, h => by
  rw [roundR]
  have hlen : ∀ x ∈ C f, x.toNat < s.length := fun x hx => by have := hC f x hx; omega
  by_cases q : s[f]? = some true
  ·rw [if_pos q]
   have hsee := fun g => seeL_seen (C f) s g hlen
   obtain ⟨k1, k2, k3⟩ := roundR_is hC hP u (f + 1) (seeL s (C f)) (by rw [seeL_len]; exact hs) (fun g hg => by
    rcases (hsee g).1 hg with r | ⟨x, hx, r⟩
    ·exact h g r
    ·rw [← r]; exact hP f (h f q) x hx)
   refine ⟨fun g hg => k1 g ((hsee g).2 (Or.inl hg)), k2, fun g a b hg x hx => ?_⟩
   by_cases e : g = f
   ·subst e
    exact k1 _ ((hsee _).2 (Or.inr ⟨x, hx, rfl⟩))
   ·exact k3 g (by omega) (by omega) ((hsee g).2 (Or.inl hg)) x hx
  ·rw [if_neg q]
   obtain ⟨k1, k2, k3⟩ := roundR_is hC hP u (f + 1) s hs h
   refine ⟨k1, k2, fun g a b hg x hx => ?_⟩
   by_cases e : g = f
   ·subst e
    exact absurd hg q
   ·exact k3 g (by omega) (by omega) hg x hx
def cntB (s : List Bool) : Nat := (s.filter id).length
theorem cnt_le : ∀ (s t : List Bool), s.length = t.length → (∀ g : Nat, s[g]? = some true → t[g]? = some true) → cntB s ≤ cntB t ∧ (cntB s = cntB t → s = t)
 | [], [], _, _ => ⟨Nat.le_refl _, fun _ => rfl⟩
 | a :: s, b :: t, hl, h => by
  obtain ⟨k1, k2⟩ := cnt_le s t (by simpa using hl) (fun g hg => by have := h (g + 1) (by simpa using hg); simpa using this)
  have h0 := h 0
  unfold cntB at *
  cases a <;> cases b <;> simp at h0 k1 k2 ⊢
  ·exact ⟨k1, k2⟩
  ·exact ⟨by omega, fun e => by omega⟩
  ·exact ⟨k1, k2⟩
 | [], _ :: _, hl, _ => by cases hl
 | _ :: _, [], hl, _ => by cases hl
theorem cnt_max (s : List Bool) : cntB s ≤ s.length := List.length_filter_le _ _
/-- Behind as many rounds as there are functions, what is seen is closed. -/
theorem rounds_closed {C : Nat → List Int} {n : Nat} (hC : ∀ f, ∀ x ∈ C f, 0 ≤ x ∧ x < (n : Int)) {P : Nat → Prop} (hP : ∀ f, P f → ∀ x ∈ C f, P x.toNat) : ∀ (u : Nat) (s : List Bool), s.length = n → (∀ g, Seen s g → P g) →
  (roundsR C n u s).length = n ∧ (∀ g, Seen s g → Seen (roundsR C n u s) g) ∧ (∀ g, Seen (roundsR C n u s) g → P g) ∧
  (cntB s + u ≤ cntB (roundsR C n u s) ∨ ∀ g, Seen (roundsR C n u s) g → ∀ x ∈ C g, Seen (roundsR C n u s) x.toNat)
 | 0, s, hs, h => ⟨hs, fun g h => h, h, Or.inl (Nat.le_refl _)⟩
 | u + 1, s, hs, h => by
  rw [roundsR]
  obtain ⟨k1, k2, k3⟩ := roundR_is hC hP n 0 s hs h
  have hl : (roundR C 0 n s).length = n := by rw [roundR_len]; exact hs
  obtain ⟨m0, m1, m2, m3⟩ := rounds_closed hC hP u (roundR C 0 n s) hl k2
  refine ⟨m0, fun g hg => m1 g (k1 g hg), m2, ?_⟩
  obtain ⟨c1, c2⟩ := cnt_le s (roundR C 0 n s) (by omega) k1
  by_cases e : cntB s = cntB (roundR C 0 n s)
  ·right
   have es := c2 e
   have hcl : ∀ g, Seen s g → ∀ x ∈ C g, Seen s x.toNat := fun g hg x hx => by
    have hgn : g < n := by have := (List.getElem?_eq_some_iff.1 hg).1; omega
    have := k3 g (by omega) (by omega) hg x hx
    rw [← es] at this
    exact this
   have stay : ∀ v, roundsR C n v s = s := fun v => by
    induction v with
    | zero => rfl
    | succ v ih => rw [roundsR, ← es, ih]
   rw [← es, stay u]
   exact hcl
  ·rcases m3 with q | q
   ·exact Or.inl (by omega)
   ·exact Or.inr q
theorem fold_min {S : Int → Prop} : ∀ (c l : List Int), (∀ x ∈ l, S x) → (∀ x ∈ c, S x) → ∀ x ∈ c.foldl addC l, S x
 | [], l, h, _ => h
 | f :: c, l, h, hc => by
  rw [List.foldl_cons]
  refine fold_min c (addC l f) (fun x hx => ?_) (fun x hx => hc x (List.mem_cons_of_mem _ hx))
  unfold addC at hx
  split at hx
  ·exact h x hx
  ·rcases List.mem_append.1 hx with q | q
   ·exact h x q
   ·rw [List.mem_singleton.1 q]; exact hc f (List.mem_cons_self ..)
theorem reach_min {C : Int → List Int} {S : Int → Prop} (hS : ∀ f, S f → ∀ x ∈ C f, S x) : ∀ (u i : Nat) (l : List Int), (∀ x ∈ l, S x) → ∀ x ∈ reachG C u i l, S x
 | 0, i, l, h => h
 | u + 1, i, l, h => by
  rw [reachG]
  cases e : l[i]? with
  | none => exact h
  | some f => exact reach_min hS u (i + 1) _ (fold_min (C f) l h (hS f (h f (List.mem_of_getElem? e))))
/-- Both searches find the same functions. -/
theorem reach_same {C : Int → List Int} {n m : Nat} (hC : ∀ f, ∀ x ∈ C f, 0 ≤ x ∧ x < (n : Int)) (hm : m < n) (g : Nat) :
  Seen (roundsR (fun f => C (f : Int)) n n ((List.replicate n false).set m true)) g ↔ (g : Int) ∈ reachG C n 0 [(m : Int)] := by
 obtain ⟨r1, ⟨D, r2⟩, r3⟩ := reach_ok (n := n) hC n 0 [(m : Int)] ⟨by simp, fun x hx => by rw [List.mem_singleton.1 hx]; omega⟩ (by omega) (by simp) (fun j f hj => by omega)
 have hl : ((List.replicate n false).set m true).length = n := by simp
 have hs0 : ∀ g, Seen ((List.replicate n false).set m true) g ↔ g = m := fun g => by
  unfold Seen
  rw [List.getElem?_set]
  by_cases q : m = g
  ·rw [if_pos q, if_pos (by simpa using hm)]; simp [q]
  ·rw [if_neg q, List.getElem?_replicate]
   split <;> simp <;> omega
 obtain ⟨m0, m1, m2, m3⟩ := rounds_closed (C := fun f => C (f : Int)) (n := n) (fun f => hC (f : Int)) (P := fun g => (g : Int) ∈ reachG C n 0 [(m : Int)]) (fun f hf x hx => by
  have hx0 := (hC _ x hx).1
  show ((x.toNat : Nat) : Int) ∈ _
  rw [Int.toNat_of_nonneg hx0]
  exact r3 _ hf x hx) n _ hl (fun g hg => by
  show (g : Int) ∈ _
  rw [(hs0 g).1 hg, r2]
  exact List.mem_append_left _ (List.mem_singleton.2 rfl))
 constructor
 ·exact m2 g
 ·intro hg
  have hcl := m3.resolve_left (fun h => by
   have h1 := cnt_max (roundsR (fun f => C (f : Int)) n n ((List.replicate n false).set m true))
   have h2 : 0 < cntB ((List.replicate n false).set m true) := List.length_pos_of_mem (a := true) (List.mem_filter.2 ⟨List.mem_of_getElem? ((hs0 m).2 rfl), rfl⟩)
   omega)
  have := reach_min (C := C) (S := fun x => 0 ≤ x ∧ Seen (roundsR (fun f => C (f : Int)) n n ((List.replicate n false).set m true)) x.toNat) (fun f hf x hx => ⟨(hC f x hx).1, by
   have hf2 : C f = C ((f.toNat : Nat) : Int) := by rw [Int.toNat_of_nonneg hf.1]
   rw [hf2] at hx
   exact hcl f.toNat hf.2 x hx⟩) n 0 [(m : Int)] (fun x hx => by
   rw [List.mem_singleton.1 hx]
   exact ⟨by omega, by rw [Int.toNat_natCast]; exact m1 m ((hs0 m).2 rfl)⟩) (g : Int) hg
  have h3 := this.2
  rw [Int.toNat_natCast] at h3
  exact h3
end Syn
end Go.Proofs.YtcapkeaedpabjaaGreatDoor

/-
 Layer 9: small functions of the resolution.
-/
namespace Go.Proofs.YtcapkeaedpabjaaGreatDoor
open Go.RowKit Go.ChangeShapes Go.WideShapes Go.Maps
namespace Syn
set_option maxRecDepth 100000 in
set_option maxHeartbeats 2000000 in
theorem checkArgs_any (k : Int) (s : ByteArray) (i : Int) (ko jo : Option Addr) (kn kc m jc : Nat) (x : Int) (w : World) :
  Calls Tryz.prog 209 #[.agg #[.int .i64 k, .string s, .int .i64 i, .slice ko kn kc, .slice jo m jc], .int .i64 (if x < 0 then 0 else x), .bool (decide (0 ≤ x))] w fun e w' => e = .returned (.int .i64 (argE m x)) ∧ Bel w w' := by
 have HB := Lib.hid (Bel.alloc (Bel.refl w) (.cells #[.int .i64 k, .string s, .int .i64 i, .slice ko kn kc, .slice jo m jc] 65))
 unfold argE
 by_cases hx : x < 0
 ·rw [if_pos hx, if_pos hx, decide_eq_false (by omega)]
  go_enter Tryz.func209, Tryz.ntmps209
  go_wp2_with fail
  go_ret
  exact ⟨rfl, HB.out⟩
 ·rw [if_neg hx, if_neg hx, decide_eq_true (by omega)]
  by_cases hk : (m : Int) = x
  ·subst hk
   rw [if_pos rfl]
   go_enter Tryz.func209, Tryz.ntmps209
   go_wp2_with fail
   go_ret
   exact ⟨rfl, HB.out⟩
  ·rw [if_neg hk]
   have hk2 : ((m : Int) == x) = false := by simpa using hk
   go_enter Tryz.func209, Tryz.ntmps209
   go_wp2_with fail
   go_ret
   exact ⟨rfl, HB.out⟩
theorem find_lt (F : List Fw) (s : Txt) : findI F s < (F.length : Int) ∧ -1 ≤ findI F s := by
 have : ∀ (F : List Fw) (i : Nat), fixI (fun f => decide (f.name = s)) i F < ((i + F.length : Nat) : Int) ∧ -1 ≤ fixI (fun f => decide (f.name = s)) i F := fun F => by
  induction F with
  | nil => intro i; rw [fixI]; simp; omega
  | cons f r ih =>
   intro i
   rw [fixI]
   split
   ·rw [List.length_cons]; omega
   ·have := ih (i + 1)
    rw [List.length_cons]
    omega
 have := this F 0
 unfold findI
 omega
set_option maxRecDepth 100000 in
set_option maxHeartbeats 4000000 in
theorem paramsOf_any (no fo : Option Addr) (n nc k fc : Nat) (F : List Fw) (s : Txt) (hk : k ≤ 4611686018427387904) (hwF : ∀ x ∈ F, x.params.length ≤ 4611686018427387904) (w : World) (hF : FArg w fo k F) :
  Calls Tryz.prog 208 #[.agg #[.slice no n nc, .slice fo k fc], .string ⟨s.toArray⟩] w fun e w' => e = .returned (okN (parI F s)) ∧ Bel w w' := by
 obtain ⟨V, hV⟩ : ∃ V, w.alloc (.cells #[.slice no n nc, .slice fo k fc] 25) = V := ⟨_, rfl⟩
 have BV : Bel w V := by rw [← hV]; exact Bel.alloc (Bel.refl w) _
 obtain ⟨v0, v1⟩ : V.cell? ⟨w.heap.size, 0, none⟩ = some (.slice no n nc) ∧ V.cell? ⟨w.heap.size, 1, none⟩ = some (.slice fo k fc) := by
  rw [← hV]
  exact ⟨World.cell?_alloc_new .., World.cell?_alloc_new ..⟩
 have HBV := Lib.hid BV
 have HFi := Lib.hid (find_any no fo n nc k fc F s hk V (hF.on BV))
 have hX : fixI (fun f => decide (f.name = s)) 0 F = findI F s := rfl
 rw [hX] at HFi
 obtain ⟨h1, h2⟩ := find_lt F s
 unfold parI
 have HBl := Lib.hid (fun W => blt_any s W)
 have hFk := hF.1
 by_cases h0 : 0 ≤ findI F s
 ·rw [if_pos h0]
  obtain ⟨q, hq⟩ : ∃ q : Nat, findI F s = (q : Int) := ⟨(findI F s).toNat, by omega⟩
  have hql : q < F.length := by omega
  rw [hq, Int.toNat_natCast, List.getElem?_eq_getElem hql]
  simp only
  rw [hq] at HFi
  obtain ⟨b, off, rfl, hcs⟩ := hF.2 (by omega)
  obtain ⟨⟨vs, po, pk, pc, vj⟩, hv, hcc⟩ := hcs q hql
  have d1 : V.cell? ⟨b, off + q * 3 + 1, none⟩ = some (.slice po pk pc) := BV.cell' (by simpa using hcc 1 _ rfl)
  have hpk : F[q].params.length = pk := by have := hv.ps.1; simpa using this
  have hpb : pk ≤ 4611686018427387904 := by rw [← hpk]; exact hwF _ (List.getElem_mem hql)
  have hqk : (q : Int) < (k : Int) := by omega
  have hq0 : (0 : Int) ≤ (q : Int) := by omega
  rw [hpk, show okN (pk : Int) = .tuple #[.int .i64 (pk : Int), .bool true] by unfold okN; rw [if_neg (by omega), decide_eq_true (by omega)]]
  clear hcs hcc hv hpk hwF hF BV HBl h0 h1 h2 hX
  go_enter Tryz.func208, Tryz.ntmps208
  go_wp2_with fail
  refine HFi.out.mono ?_
  rintro e w2 ⟨rfl, g⟩
  have e0 := g.cell' v0
  have e1 := g.cell' v1
  have e2 := g.cell' d1
  have G := Lib.hid (Bel.trans HBV.out g)
  clear g v0 v1 d1
  go_wp2_with fail
  go_ret2
  exact ⟨rfl, G.out⟩
 ·rw [if_neg h0]
  have hm : findI F s = -1 := by omega
  rw [hm] at HFi
  clear h0 h1 h2 hm hX hF hwF BV
  unfold okN at *
  generalize (if bltI s < 0 then (0 : Int) else bltI s) = r1 at *
  generalize decide (0 ≤ bltI s) = r2 at *
  go_enter Tryz.func208, Tryz.ntmps208
  go_wp2_with fail
  refine HFi.out.mono ?_
  rintro e w2 ⟨rfl, g⟩
  have G := Lib.hid (Bel.trans HBV.out g)
  clear g v0 v1
  go_wp2_with fail
  refine (HBl.out _).mono ?_
  rintro e w3 ⟨rfl, rfl⟩
  go_wp2_with fail
  go_ret2
  exact ⟨rfl, G.out⟩
theorem lowOf_ok {n : Nat} : ∀ {F : List Fw} {low : Nat}, Asc n low F → ∀ q (h : q < F.length), (low : Int) ≤ F[q].body ∧ F[q].body < (n : Int)
 | [], _, _, q, h => absurd h (Nat.not_lt_zero q)
 | f :: F, low, hA, q, h => by
  obtain ⟨a1, a2, a3⟩ := hA
  cases q with
  | zero => exact ⟨a1, a2⟩
  | succ q =>
   have := lowOf_ok a3 q (by simpa using h)
   simp only [List.getElem_cons_succ]
   omega
set_option maxRecDepth 100000 in
set_option maxHeartbeats 4000000 in
theorem firstNode_any (no fo : Option Addr) (n nc k fc : Nat) (F : List Fw) (hn : n ≤ 100000) (hk : k ≤ 100000) (hb : ∀ q (h : q < F.length), 0 ≤ F[q].body ∧ F[q].body < (n : Int)) (q : Nat) (hq : q < k) (w : World) (hF : FArg w fo k F) :
  Calls Tryz.prog 106 #[.agg #[.slice no n nc, .slice fo k fc], .int .i64 (q : Int)] w fun e w' => e = .returned (.int .i64 (lowOf F q : Int)) ∧ Bel w w' := by
 have HB := Lib.hid (Bel.alloc (Bel.refl w) (.cells #[.slice no n nc, .slice fo k fc] 25))
 have hFk := hF.1
 cases q with
 | zero =>
  go_enter Tryz.func106, Tryz.ntmps106
  go_wp2_with fail
  go_ret
  exact ⟨rfl, HB.out⟩
 | succ q =>
  have hql : q < F.length := by omega
  obtain ⟨b, off, rfl, hcs⟩ := hF.2 (by omega)
  obtain ⟨⟨vs, po, pk, pc, vj⟩, hv, hcc⟩ := hcs q hql
  have d2 : w.cell? ⟨b, off + q * 3 + 2, none⟩ = some (.int .i64 vj) := by simpa using hcc 2 _ rfl
  have hj : vj = F[q].body := hv.j
  obtain ⟨h0, h1⟩ := hb q hql
  obtain ⟨z, hz⟩ : ∃ z : Nat, F[q].body = (z : Int) := ⟨F[q].body.toNat, by omega⟩
  rw [hj, hz] at d2
  have e : (lowOf F (q + 1) : Int) = (z : Int) + 1 := by
   show ((match F[q]? with | some x => x.body.toNat + 1 | none => 0 : Nat) : Int) = _
   rw [List.getElem?_eq_getElem hql]
   simp only
   rw [hz]
   omega
  rw [e]
  have hzn : (z : Int) < (n : Int) := by omega
  have hqk : (q : Int) < (k : Int) := by omega
  have h1f : ((q : Int) + 1 == 0) = false := by simp; omega
  have hsub : IntKind.i64.wrap ((q : Int) + 1 - 1) = (q : Int) := by rw [IntKind.wrap_i64]; omega
  have hsub2 : IntKind.i64.wrap (q : Int) = (q : Int) := by rw [IntKind.wrap_i64]; omega
  have hq0 : (0 : Int) ≤ (q : Int) := by omega
  have hadd : IntKind.i64.wrap ((z : Int) + 1) = (z : Int) + 1 := by rw [IntKind.wrap_i64]; omega
  have d3 := (Bel.alloc (Bel.refl w) (.cells #[.slice no n nc, .slice (some ⟨b, off, none⟩) k fc] 25)).cell' d2
  clear hcs hcc hv hj hb hF hz h0 h1
  go_enter Tryz.func106, Tryz.ntmps106
  go_wp2_with fail
  go_ret
  exact ⟨rfl, HB.out⟩
set_option maxRecDepth 100000 in
set_option maxHeartbeats 4000000 in
theorem hasTwice_any (po : Option Addr) (k pc : Nat) (ps : List Txt) (hk : k ≤ 1000) (w : World) (hA : KArg w po k ps) :
  Calls Tryz.prog 154 #[.slice po k pc] w fun e w' => e = .returned (.bool (twiceB ps)) ∧ Bel w w' := by
 have HS := Lib.hid (Idn.sorted_any po k pc (ps.map bz) (by omega) w hA)
 have hl := hA.1
 rw [List.length_map] at hl
 have hmm : (ps.map bz).map ByteArray.toList = ps := by rw [List.map_map]; exact (List.map_congr_left fun x _ => by show (bz x).toList = x; rw [Go.ByteArray.toList_eq]; rfl).trans (List.map_id _)
 rw [hmm] at HS
 unfold twiceB
 rw [hl]
 obtain ⟨M, hM⟩ : ∃ M, (Idn.srt ps).length = M := ⟨_, rfl⟩
 rw [hM]
 obtain ⟨Bv, hBv⟩ : ∃ Bv, decide (M < k) = Bv := ⟨_, rfl⟩
 rw [hBv]
 have HBv := Lib.hid hBv
 clear hBv
 go_enter Tryz.func154, Tryz.ntmps154
 go_wp2_with fail
 refine HS.out.mono ?_
 rintro e w2 ⟨⟨v, rfl, hO⟩, g⟩
 have G := Lib.hid g
 obtain ⟨o, m, c, D, rfl, hD, hown⟩ := hO
 have hm : (Idn.srt ps).length = m := by
  have := hown.1
  rw [← hD, List.length_map]
  simpa [encS] using this
 obtain rfl : m = M := by omega
 clear hown hD g hm hM
 by_cases hlt : m < k
 ·have h2 : (m : Int) < (k : Int) := by omega
  obtain rfl : Bv = true := by rw [← HBv.out]; exact decide_eq_true hlt
  go_wp2_with fail
  go_ret
  exact ⟨rfl, G.out⟩
 ·have h2 : ¬ (m : Int) < (k : Int) := by omega
  obtain rfl : Bv = false := by rw [← HBv.out]; exact decide_eq_false hlt
  go_wp2_with fail
  go_ret
  exact ⟨rfl, G.out⟩
end Syn
end Go.Proofs.YtcapkeaedpabjaaGreatDoor
