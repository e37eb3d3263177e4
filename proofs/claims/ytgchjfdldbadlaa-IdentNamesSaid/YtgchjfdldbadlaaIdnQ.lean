/-
  The laws IdentNames, IdentRefs, IdentChildren, IdentMatches.
-/
import Derived.Test.YtgchjfdldbadlaaIdnP
namespace Go.Proofs.Ytgchjfdldbadlaa
open Go.RowKit
namespace Idn

set_option maxRecDepth 100000 in
set_option maxHeartbeats 1000000 in
theorem law_names (s : ByteArray) (hs : s.size ≤ 140737488355328) (w : World) :
    Calls Try.prog 3 #[.string s] w fun e w' => e = .returned (.bool true) ∧ Bel w w' := by
  have hm : s.size ≤ maxLen := by unfold maxLen; omega
  have A1 := Lib.hid (name_any s)
  have A2 := Lib.hid (rname_any s hm)
  have A3 := Lib.hid (id_any s)
  have A4 := Lib.hid (rid_any s hm)
  have A5 := Lib.hid (pattern_any s hm)
  have A6 := Lib.hid (rpattern_any s hm)
  have A7 := Lib.hid awake_any
  generalize nameB s.toList = b1 at *
  generalize idB s.toList = b2 at *
  generalize patB s.toList = b3 at *
  go_enter Try.func3, Try.ntmps3
  go_wp2_with fail
  refine (A1.out _).mono ?_
  rintro e w1 ⟨rfl, g1⟩
  go_wp2_with fail
  refine (A2.out _).mono ?_
  rintro e w2 ⟨rfl, rfl⟩
  go_wp2_with fail
  refine (A3.out _).mono ?_
  rintro e w3 ⟨rfl, g3⟩
  go_wp2_with fail
  refine (A4.out _).mono ?_
  rintro e w4 ⟨rfl, rfl⟩
  go_wp2_with fail
  refine (A5.out _).mono ?_
  rintro e w5 ⟨rfl, g5⟩
  go_wp2_with fail
  refine (A6.out _).mono ?_
  rintro e w6 ⟨rfl, rfl⟩
  go_wp2_with fail
  refine (A7.out _).mono ?_
  rintro e w7 ⟨rfl, g7⟩
  go_wp2_with fail
  go_ret
  exact ⟨rfl, Bel.trans g1 (Bel.trans g3 (Bel.trans g5 g7))⟩
set_option maxRecDepth 100000 in
set_option maxHeartbeats 1000000 in
theorem law_refs (t f q s : ByteArray) (ht : t.size ≤ 140737488355328) (hf : f.size ≤ 140737488355328) (hq : q.size ≤ 140737488355328) (hs : s.size ≤ 140737488355328) (w : World) :
    Calls Try.prog 4 #[.string t, .string f, .string q, .string s] w fun e w' => e = .returned (.bool true) ∧ Bel w w' := by
  have A1 := Lib.hid (ref_any t f q ht hf hq)
  have A2 := Lib.hid (rref_any t f q ht hf hq)
  have A3 := Lib.hid (parseRef_any s hs)
  have A4 := Lib.hid (rparseRef_any s hs)
  have A7 := Lib.hid awake_any
  unfold quad at A3 A4
  generalize (⟨(refT t.toList f.toList q.toList).toArray⟩ : ByteArray) = R at A1 A2
  generalize refE t.toList f.toList q.toList = E at A1 A2
  generalize (⟨(prT s.toList).toArray⟩ : ByteArray) = P1 at A3 A4
  generalize (⟨(prF s.toList).toArray⟩ : ByteArray) = P2 at A3 A4
  generalize (⟨(prQ s.toList).toArray⟩ : ByteArray) = P3 at A3 A4
  generalize prE s.toList = E2 at A3 A4
  go_enter Try.func4, Try.ntmps4
  go_wp2_with fail
  refine (A1.out _).mono ?_
  rintro e w1 ⟨rfl, g1⟩
  go_wp2_with fail
  refine (A2.out _).mono ?_
  rintro e w2 ⟨rfl, rfl⟩
  go_wp2_with fail
  refine (A3.out _).mono ?_
  rintro e w3 ⟨rfl, g3⟩
  go_wp2_with fail
  refine (A4.out _).mono ?_
  rintro e w4 ⟨rfl, rfl⟩
  go_wp2_with fail
  refine (A7.out _).mono ?_
  rintro e w7 ⟨rfl, g7⟩
  go_wp2_with fail
  go_ret
  exact ⟨rfl, Bel.trans g1 (Bel.trans g3 g7)⟩
set_option maxRecDepth 100000 in
set_option maxHeartbeats 1000000 in
theorem law_children (id : ByteArray) (n : Int) (s : ByteArray) (hi : id.size ≤ 140737488355328) (hs : s.size ≤ 140737488355328) (w : World) :
    Calls Try.prog 5 #[.string id, .int .i64 n, .string s] w fun e w' => e = .returned (.bool true) ∧ Bel w w' := by
  have A1 := Lib.hid (child_any id n)
  have A2 := Lib.hid (rchild_any id n (by unfold maxLen; omega))
  have A3 := Lib.hid (parent_any s hs)
  have A4 := Lib.hid (rparent_any s hs)
  have A7 := Lib.hid awake_any
  unfold two2 at A1 A2
  unfold trip3 at A3 A4
  generalize (⟨(chiT Num.fmtL id.toList n).toArray⟩ : ByteArray) = R at A1 A2
  generalize chiE Num.fmtL id.toList n = E at A1 A2
  generalize (⟨(paP s.toList).toArray⟩ : ByteArray) = P1 at A3 A4
  generalize paN s.toList = P2 at A3 A4
  generalize paB s.toList = P3 at A3 A4
  go_enter Try.func5, Try.ntmps5
  go_wp2_with fail
  refine (A1.out _).mono ?_
  rintro e w1 ⟨rfl, g1⟩
  go_wp2_with fail
  refine (A2.out _).mono ?_
  rintro e w2 ⟨rfl, rfl⟩
  go_wp2_with fail
  refine (A3.out _).mono ?_
  rintro e w3 ⟨rfl, g3⟩
  go_wp2_with fail
  refine (A4.out _).mono ?_
  rintro e w4 ⟨rfl, rfl⟩
  go_wp2_with fail
  refine (A7.out _).mono ?_
  rintro e w7 ⟨rfl, g7⟩
  go_wp2_with fail
  go_ret
  exact ⟨rfl, Bel.trans g1 (Bel.trans g3 g7)⟩
set_option maxRecDepth 100000 in
set_option maxHeartbeats 1000000 in
theorem law_matches (p q s : ByteArray) (hp0 : p.size ≤ 140737488355328) (hq0 : q.size ≤ 140737488355328) (w : World) :
    Calls Try.prog 6 #[.string p, .string q, .string s] w fun e w' => e = .returned (.bool true) ∧ Bel w w' := by
  have hp : p.size ≤ maxLen := by unfold maxLen; omega
  have hq : q.size ≤ maxLen := by unfold maxLen; omega
  have A1 := Lib.hid (matches_any p s hp)
  have A2 := Lib.hid (rmatches_any p s hp)
  have A3 := Lib.hid (covers_any p q hp hq)
  have A4 := Lib.hid (rcovers_any p q hp hq)
  have A5 := Lib.hid (covers_any q p hq hp)
  have A6 := Lib.hid (rcovers_any q p hq hp)
  have A7 := Lib.hid awake_any
  generalize matB p.toList s.toList = b1 at A1 A2
  generalize covB p.toList q.toList = b2 at A3 A4
  generalize covB q.toList p.toList = b3 at A5 A6
  go_enter Try.func6, Try.ntmps6
  go_wp2_with fail
  refine (A1.out _).mono ?_
  rintro e w1 ⟨rfl, g1⟩
  go_wp2_with fail
  refine (A2.out _).mono ?_
  rintro e w2 ⟨rfl, rfl⟩
  go_wp2_with fail
  refine (A3.out _).mono ?_
  rintro e w3 ⟨rfl, g3⟩
  go_wp2_with fail
  refine (A4.out _).mono ?_
  rintro e w4 ⟨rfl, g4⟩
  go_wp2_with fail
  refine (A5.out _).mono ?_
  rintro e w5 ⟨rfl, g5⟩
  go_wp2_with fail
  refine (A6.out _).mono ?_
  rintro e w6 ⟨rfl, g6⟩
  go_wp2_with fail
  refine (A7.out _).mono ?_
  rintro e w7 ⟨rfl, g7⟩
  go_wp2_with fail
  go_ret
  exact ⟨rfl, Bel.trans g1 (Bel.trans g3 (Bel.trans g4 (Bel.trans g5 (Bel.trans g6 g7))))⟩
end Idn
end Go.Proofs.Ytgchjfdldbadlaa
